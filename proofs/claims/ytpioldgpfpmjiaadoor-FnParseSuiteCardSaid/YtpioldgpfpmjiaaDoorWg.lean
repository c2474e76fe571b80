/- Walks: Matches; how often. -/
import Derived.Test.YtpioldgpfpmjiaaDoorWf
namespace Go.Proofs.YtpioldgpfpmjiaaDoor
open Go.RowKit

end Go.Proofs.YtpioldgpfpmjiaaDoor
