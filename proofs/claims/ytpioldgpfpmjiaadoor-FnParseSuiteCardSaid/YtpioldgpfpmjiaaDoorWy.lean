/- Walks: what is missing, by the model. -/
import Derived.Test.YtpioldgpfpmjiaaDoorOwnL
import Derived.Test.YtpioldgpfpmjiaaDoorWs
import Derived.Test.YtpioldgpfpmjiaaDoorWi
namespace Go.Proofs.YtpioldgpfpmjiaaDoor
open Go.RowKit


theorem OwnRR.start {w w1 : World} {B lo hi : Nat} (hB : B ≤ w.heap.size) (hlo : w.heap.size < lo) (hb : Below (w.heap.size + 1) (w.alloc (.cells #[] 23)) w1) : OwnRR w1 B lo hi (.slice (Option.some ⟨w.heap.size, 0, none⟩) 0 0) [] := by
  refine ⟨[], ?_, by simp, fun g hg => by cases hg; exact .inl hlo⟩
  have h1 : (w.alloc (.cells #[] 23)).ownsRow B 23 1 (.slice (Option.some ⟨w.heap.size, 0, none⟩) 0 0) ([] : List (List Int)).length [] := World.ownsRow_made w #[] 0 hB (by simp [maxLen]) rfl
  exact World.ownsRow.kept h1 (row := none) ⟨hb.os, hb.tape, hb.output, hb.size, fun k hk _ => hb.block k (by simpa using hk)⟩ (by simp [Value.ownBlock])

end Go.Proofs.YtpioldgpfpmjiaaDoor
