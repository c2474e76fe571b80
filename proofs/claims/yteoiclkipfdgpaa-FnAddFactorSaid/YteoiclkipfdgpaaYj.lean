/- Walks: suites put together, by the library. -/
import Derived.Test.YteoiclkipfdgpaaYi
import Derived.Lib.AppendZerosOnto
namespace Go.Proofs.Yteoiclkipfdgpaa
open Go.RowKit

theorem run_growII {n : Nat} (h0 : 0 < n) (hn : n ≤ 1048576) (ty : TypeId) (w : World) : ∃ (G : Nat) (cs : Array Value), n ≤ G ∧ G ≤ maxLen ∧ cs.size = G ∧ (Builtin.append_ #[23, 3] ty #[.slice none 0 0, .int .i64 (n : Int)]).run Try.prog w = .ok (.slice (some ⟨w.heap.size, 0, none⟩) n G) (w.drew.alloc (.cells cs 22)) := by
  obtain ⟨i0, hi, hz0, hz1, hz2⟩ := info_parts infoI
  have h := Lib.run_append_grow_zeros (P := Try.prog) w 23 3 ty 22 i0 (.slice none 0 0) .i64 .i64 undII undInt hi hz0 none 0 0 [] (run_firstCells_none _ _ _ _ _) n h0 (by omega) (by omega) (by omega) (by rw [hz2]; omega) (by rw [hz2]; exact growslice_fits (by omega) (by omega))
  rw [Nat.zero_add] at h
  have hge := grownCap_ge w n 0 22
  refine ⟨_, _, hge, grownCap_le_maxLen w n 0 _ (by unfold maxLen; omega), ?_, h⟩
  simp [Builtin.zeroCells, Value.cells]
  omega

/-- the first k parts of two -/
def prt {α : Type} (x y : List α) (k : Nat) : List α := if k = 0 then [] else if k = 1 then x else x ++ y

/- Walks: SpareTests, TrimSuite of the program. -/
open Go.RowKit

theorem spF_trG {m : List Int} {l : List (List Int)} {t : Int} {k : Nat} : (if misN m t (l.eraseIdx k) = misN m t l then l.eraseIdx k else l) = if spF m l t k then l.eraseIdx k else l := by
  unfold spF misN
  by_cases h : (misL m (l.eraseIdx k) t).length = (misL m l t).length
  · rw [if_pos h, if_pos (by rw [h]; simp)]
  · rw [if_neg h, if_neg (by simpa using h)]

end Go.Proofs.Yteoiclkipfdgpaa
