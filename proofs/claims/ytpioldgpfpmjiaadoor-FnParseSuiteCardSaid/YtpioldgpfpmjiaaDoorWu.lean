/- Walks: lists of patterns, by the program. -/
import Derived.Test.YtpioldgpfpmjiaaDoorOwnP
import Derived.Test.YtpioldgpfpmjiaaDoorWq
namespace Go.Proofs.YtpioldgpfpmjiaaDoor
open Go.RowKit

end Go.Proofs.YtpioldgpfpmjiaaDoor
