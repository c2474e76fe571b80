/- Walks: what is missing, by the program. -/
import Derived.Test.YtpioldgpfpmjiaaDoorWz
import Derived.Test.YtpioldgpfpmjiaaDoorWy
namespace Go.Proofs.YtpioldgpfpmjiaaDoor
open Go.RowKit

end Go.Proofs.YtpioldgpfpmjiaaDoor
