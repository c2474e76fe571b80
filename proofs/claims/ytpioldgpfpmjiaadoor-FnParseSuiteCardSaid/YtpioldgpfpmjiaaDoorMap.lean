/- A map whose keys are patterns: the set of patterns that a call keeps in it. -/
import Derived.Maps.OwnSet
import Derived.DeepKeys4
import Derived.Test.YtpioldgpfpmjiaaDoorOwnP
import Derived.Test.YtpioldgpfpmjiaaDoorMath
namespace Go.Proofs.YtpioldgpfpmjiaaDoor
open Go.RowKit

end Go.Proofs.YtpioldgpfpmjiaaDoor
