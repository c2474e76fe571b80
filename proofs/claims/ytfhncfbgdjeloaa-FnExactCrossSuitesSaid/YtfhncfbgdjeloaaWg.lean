/- Walks: Matches; how often. -/
import Derived.Test.YtfhncfbgdjeloaaWf
namespace Go.Proofs.Ytfhncfbgdjeloaa
open Go.RowKit

end Go.Proofs.Ytfhncfbgdjeloaa
