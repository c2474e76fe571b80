/- Walks: AllPatterns, AllTests of the program. -/
import Derived.Test.YtfhncfbgdjeloaaWw
import Derived.Test.YtfhncfbgdjeloaaWs
import Derived.Test.YtfhncfbgdjeloaaMath
namespace Go.Proofs.Ytfhncfbgdjeloaa
open Go.RowKit



end Go.Proofs.Ytfhncfbgdjeloaa
