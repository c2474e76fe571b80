/- Walks: how many tests match a pattern. -/
import Derived.Test.YtpioldgpfpmjiaaGreatDoorWg
namespace Go.Proofs.YtpioldgpfpmjiaaGreatDoor
open Go.RowKit

theorem cells5 {w : World} {b t : Nat} {P : Nat → Int} (h : w.heap[b]? = some (.cells #[.int .i64 (P 0), .int .i64 (P 1), .int .i64 (P 2), .int .i64 (P 3), .int .i64 (P 4)] t (0, 0))) :
    w.cell? ⟨b, 0, none⟩ = some (.int .i64 (P 0)) ∧ w.cell? ⟨b, 1, none⟩ = some (.int .i64 (P 1)) ∧ w.cell? ⟨b, 2, none⟩ = some (.int .i64 (P 2)) ∧ w.cell? ⟨b, 3, none⟩ = some (.int .i64 (P 3)) ∧ w.cell? ⟨b, 4, none⟩ = some (.int .i64 (P 4)) :=
  ⟨cell5 h (by omega), cell5 h (by omega), cell5 h (by omega), cell5 h (by omega), cell5 h (by omega)⟩

theorem kept2 {w wr w1 w2 : World} {o : Obj} (hw : Hid (wr.heap[w.heap.size]? = some o)) (hBl : Below w.heap.size w wr) (hsz : w.heap.size + 1 ≤ wr.heap.size) (hb1 : Below wr.heap.size wr.drew w1) (hb2 : Below w1.heap.size w1 w2) :
    Hid (w2.heap[w.heap.size]? = some o) ∧ Below w.heap.size w w2 ∧ w.heap.size + 1 ≤ w2.heap.size := by
  have s1 : wr.heap.size ≤ w1.heap.size := hb1.size
  have s2 := hb2.size
  refine ⟨?_, ?_, by omega⟩
  · show _ = _
    rw [hb2.block _ (by omega), hb1.block _ (by omega)]
    exact hw.out
  · exact (hBl.drew.trans (hb1.mono (by omega))).trans (hb2.mono (by omega))

end Go.Proofs.YtpioldgpfpmjiaaGreatDoor
