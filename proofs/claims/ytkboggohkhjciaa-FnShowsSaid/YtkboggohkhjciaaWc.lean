/- Walks: a test, a pattern of a model. -/
import Derived.Test.YtkboggohkhjciaaWa
namespace Go.Proofs.Ytkboggohkhjciaa
open Go.RowKit

theorem wrap_pred {y : Int} (h : 1 ≤ y) (h' : y ≤ 3) : IntKind.i64.wrap (y - 1) = y - 1 := IntWalk.i64_in _ (by omega)

/- Walks: the laws' helpers on slices of slices; a suite. -/
open Go.RowKit

end Go.Proofs.Ytkboggohkhjciaa
