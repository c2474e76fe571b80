/- Walks: Matches; how often. -/
import Derived.Test.YtbdbfbobcdepgaaWf
namespace Go.Proofs.Ytbdbfbobcdepgaa
open Go.RowKit

end Go.Proofs.Ytbdbfbobcdepgaa
