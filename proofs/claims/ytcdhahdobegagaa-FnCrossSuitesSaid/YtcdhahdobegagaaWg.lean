/- Walks: Matches; how often. -/
import Derived.Test.YtcdhahdobegagaaWf
namespace Go.Proofs.Ytcdhahdobegagaa
open Go.RowKit

end Go.Proofs.Ytcdhahdobegagaa
