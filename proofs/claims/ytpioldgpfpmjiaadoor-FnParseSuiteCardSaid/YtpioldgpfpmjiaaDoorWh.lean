/- Walks: how many tests match a pattern. -/
import Derived.Test.YtpioldgpfpmjiaaDoorWg
namespace Go.Proofs.YtpioldgpfpmjiaaDoor
open Go.RowKit

theorem kept2 {w wr w1 w2 : World} {o : Obj} (hw : Hid (wr.heap[w.heap.size]? = some o)) (hBl : Below w.heap.size w wr) (hsz : w.heap.size + 1 ≤ wr.heap.size) (hb1 : Below wr.heap.size wr.drew w1) (hb2 : Below w1.heap.size w1 w2) :
    Hid (w2.heap[w.heap.size]? = some o) ∧ Below w.heap.size w w2 ∧ w.heap.size + 1 ≤ w2.heap.size := by
  have s1 : wr.heap.size ≤ w1.heap.size := hb1.size
  have s2 := hb2.size
  refine ⟨?_, ?_, by omega⟩
  · show _ = _
    rw [hb2.block _ (by omega), hb1.block _ (by omega)]
    exact hw.out
  · exact (hBl.drew.trans (hb1.mono (by omega))).trans (hb2.mono (by omega))

end Go.Proofs.YtpioldgpfpmjiaaDoor
