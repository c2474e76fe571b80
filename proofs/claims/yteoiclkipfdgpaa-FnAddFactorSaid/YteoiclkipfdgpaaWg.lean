/- Walks: Matches; how often. -/
import Derived.Test.YteoiclkipfdgpaaWf
namespace Go.Proofs.Yteoiclkipfdgpaa
open Go.RowKit

end Go.Proofs.Yteoiclkipfdgpaa
