/- Walks: what GrowRuns draws. -/
import Derived.Test.YtkboggohkhjciaaUq
namespace Go.Proofs.Ytkboggohkhjciaa
open Go.RowKit

set_option maxRecDepth 100000 in
set_option maxHeartbeats 1000000 in
theorem s_DrawGrowRuns {n : Nat} {a : Option Addr} {c : Nat} {w : World} (hm : RB w w.heap.size a n) (hc : n ≤ c) (hl : n ≤ 1048576) :
    Calls Try.prog 35 #[.slice a n c] w (fun e w' => ∃ x t : Int, e = .returned (.tuple #[.int .i64 x, .int .i64 t]) ∧ (0 ≤ x ∧ x ≤ 6 ∧ -1 ≤ t ∧ t ≤ 5) ∧ Below w.heap.size w w') := by
  go_enter Try.func35, Try.ntmps35
  go_wp2_with fail
  refine (s_newReader hm hc hl).mono ?_
  rintro e w1 ⟨rfl, hr1, hb1⟩
  have hlt1 := hr1.lt
  have hb2 := (Below.refl w1.heap.size w1).alloc (Nat.le_refl _) (.cells #[.int .i64 3, .int .i64 4, .int .i64 2, .int .i64 1, .int .i64 4, .int .i64 0, .int .i64 6] 3)
  go_wp2_with fail
  refine (s_one (hr1.below hb2 hlt1) (by omega) (litW w1 _ [3, 4, 2, 1, 4, 0, 6] rfl) (by simp) (by simp) (.inr hlt1) (by simp)).mono ?_
  rintro e w2 ⟨x, rfl, hx, hr2, hu2⟩
  have hx2 : 0 ≤ x ∧ x ≤ 6 := by simp at hx; omega
  have hlt2 := hr2.lt
  have hU2 := ((UpB.refl w.heap.size w1.heap.size w1).below hb2 (Nat.le_refl _)).upd hu2
  have hb3 := (Below.refl w2.heap.size w2).alloc (Nat.le_refl _) (.cells #[.int .i64 2, .int .i64 3, .int .i64 1, .int .i64 0, .int .i64 2, .int .i64 4, .int .i64 (-1)] 3)
  clear hx hb2 hu2
  go_wp2_with fail
  refine (s_one (hr2.below hb3 hlt2) (by omega) (litW w2 _ [2, 3, 1, 0, 2, 4, -1] rfl) (by simp) (by simp) (.inr hlt2) (by simp)).mono ?_
  rintro e w3 ⟨t, rfl, ht, hr3, hu3⟩
  have ht3 : -1 ≤ t ∧ t ≤ 5 := by simp at ht; omega
  have hU3 := (hU2.below hb3 (by have := hU2.size; omega)).upd hu3
  clear ht hb3 hu3
  go_wp2
  go_ret2
  exact ⟨x, t, rfl, ⟨hx2.1, hx2.2, ht3.1, ht3.2⟩, hb1.trans (hU3.toBelow (by have := hb1.size; omega) (by have := hb1.size; omega))⟩

end Go.Proofs.Ytkboggohkhjciaa
