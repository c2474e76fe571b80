/- Walks: whether a ban is met; the forbidding of a pattern. -/
import Derived.Test.YtpikecbmooendaaZb
namespace Go.Proofs.Ytpikecbmooendaa
open Go.RowKit

theorem al2 (w : World) (o0 o1 : Obj) : ((w.alloc o0).alloc o1).heap[w.heap.size]? = some o0 ∧ ((w.alloc o0).alloc o1).heap[w.heap.size + 1]? = some o1 ∧ Below w.heap.size w ((w.alloc o0).alloc o1) := by
  have h0 := heap_alloc_new w o0
  have h1 := heap_alloc_new (w.alloc o0) o1
  simp only [World.size_alloc] at h1
  refine ⟨?_, h1, ((Below.refl _ w).alloc (Nat.le_refl _) _).alloc (by simp) _⟩
  rw [Below.heap_alloc _ _ _ (by simp)]; exact h0

set_option maxHeartbeats 400000 in
theorem i_isIn (F : Nat → Bool) (L P : Nat → Int) (w : World) :
    Calls Try.prog 174 #[.agg #[.bool (F 0), .bool (F 1), .bool (F 2), .bool (F 3), .bool (F 4), .int .i64 (L 0), .int .i64 (L 1), .int .i64 (L 2), .int .i64 (L 3), .int .i64 (L 4)], .agg #[.int .i64 (P 0), .int .i64 (P 1), .int .i64 (P 2), .int .i64 (P 3), .int .i64 (P 4)]] w (NewV w (.bool (eq5 (bnL F P) L))) := by
  have heq := eqBan F (bnL F P) L
  obtain ⟨A0, _, AB⟩ := al2 w (.cells #[.bool (F 0), .bool (F 1), .bool (F 2), .bool (F 3), .bool (F 4), .int .i64 (L 0), .int .i64 (L 1), .int .i64 (L 2), .int .i64 (L 3), .int .i64 (L 4)] 108) (.cells #[.int .i64 (P 0), .int .i64 (P 1), .int .i64 (P 2), .int .i64 (P 3), .int .i64 (P 4)] 62)
  replace A0 := Lib.hid A0
  replace AB := Lib.hid AB
  go_enter Try.func174, Try.ntmps174
  go_wp2_with fail
  go_region_with (go_at_call 173; refine (i_banAt F P _).mono ?_; rintro e w1 ⟨rfl, hb1⟩; obtain ⟨⟨g0, g1, g2, g3, g4⟩, g5, g6, g7, g8, g9⟩ := cells10 ((hb1.block w.heap.size (by simp; omega)).trans A0.out))
  all_goals go_wp2
  all_goals go_ret
  all_goals (first | exact ⟨rfl, AB.out.drew.trans (hb1.mono (B' := w.heap.size) (by simp; omega))⟩ | exact ⟨rfl, AB.out.trans (hb1.mono (B' := w.heap.size) (by simp; omega))⟩)

/-- the closure of forbid: the pattern lies in a box -/
theorem i_forbid1 (F : Nat → Bool) (L P : Nat → Int) (b : Nat) (w : World) (hp : w.heap[b]? = some (.cells #[.int .i64 (P 0), .int .i64 (P 1), .int .i64 (P 2), .int .i64 (P 3), .int .i64 (P 4)] 62 (0, 0))) :
    Calls Try.prog 179 #[.agg #[.bool (F 0), .bool (F 1), .bool (F 2), .bool (F 3), .bool (F 4), .int .i64 (L 0), .int .i64 (L 1), .int .i64 (L 2), .int .i64 (L 3), .int .i64 (L 4)], .pointer (some ⟨b, 0, none⟩)] w (NewV w (.bool (eq5 (bnL F P) L))) := by
  have hlt : b < w.heap.size := (Array.getElem?_eq_some_iff.1 hp).1
  have hA := heap_alloc_new w (.cells #[.bool (F 0), .bool (F 1), .bool (F 2), .bool (F 3), .bool (F 4), .int .i64 (L 0), .int .i64 (L 1), .int .i64 (L 2), .int .i64 (L 3), .int .i64 (L 4)] 108)
  obtain ⟨⟨g0, g1, g2, g3, g4⟩, g5, g6, g7, g8, g9⟩ := cells10 hA
  obtain ⟨p0, p1, p2, p3, p4⟩ := cells5' ((Below.heap_alloc w (.cells #[.bool (F 0), .bool (F 1), .bool (F 2), .bool (F 3), .bool (F 4), .int .i64 (L 0), .int .i64 (L 1), .int .i64 (L 2), .int .i64 (L 3), .int .i64 (L 4)] 108) b hlt).trans hp)
  clear hp hA
  go_enter Try.func179, Try.ntmps179
  go_wp2_with fail
  refine (i_isIn F L P _).mono ?_
  rintro e w1 ⟨rfl, hb1⟩
  go_wp2
  go_ret
  exact ⟨rfl, ((Below.refl _ w).alloc (Nat.le_refl _) _).trans (hb1.mono (by simp))⟩

end Go.Proofs.Ytpikecbmooendaa
