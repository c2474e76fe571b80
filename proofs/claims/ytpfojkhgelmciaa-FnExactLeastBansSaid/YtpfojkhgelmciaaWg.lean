/- Walks: Matches; how often. -/
import Derived.Test.YtpfojkhgelmciaaWf
namespace Go.Proofs.Ytpfojkhgelmciaa
open Go.RowKit

end Go.Proofs.Ytpfojkhgelmciaa
