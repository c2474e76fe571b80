/- Walks: patterns as arrays. -/
import Derived.Test.YtpioldgpfpmjiaaDoorWe
import Derived.Deep.WholeRow
namespace Go.Proofs.YtpioldgpfpmjiaaDoor
open Go.RowKit

/-- A call that returns v and turns nothing that was there. -/
def NewV (w : World) (v : Value) (e : Ending) (w' : World) : Prop := e = .returned v ∧ Below w.heap.size w w'

end Go.Proofs.YtpioldgpfpmjiaaDoor
