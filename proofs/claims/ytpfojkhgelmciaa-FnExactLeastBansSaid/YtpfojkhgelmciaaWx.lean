/- Walks: AllPatterns, AllTests of the program. -/
import Derived.Test.YtpfojkhgelmciaaWw
import Derived.Test.YtpfojkhgelmciaaWs
import Derived.Test.YtpfojkhgelmciaaMath
namespace Go.Proofs.Ytpfojkhgelmciaa
open Go.RowKit



end Go.Proofs.Ytpfojkhgelmciaa
