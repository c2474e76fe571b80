/- Walks: falling products; what AllLists draws. -/
import Derived.Test.YtkboggohkhjciaaRd
import Derived.Test.YtkboggohkhjciaaUp
namespace Go.Proofs.Ytkboggohkhjciaa
open Go.RowKit

set_option maxHeartbeats 1000000 in
theorem l_falling {n t : Nat} {w : World} (hn : n ≤ 5) (ht : t ≤ n) :
    Calls Try.prog 20 #[.int .i64 (n : Int), .int .i64 (t : Int)] w (RO w (.int .i64 (fall n t : Nat))) := by
  go_enter Try.func20, Try.ntmps20
  go_wp2
  go_loopw [5, 6] (fun v i wr => ∃ k : Nat, k ≤ t ∧ i = .int .i64 k ∧ v = .int .i64 (fall n k : Nat) ∧ Dr w wr) (fun _ i _ => t - (intOf i).toNat)
  case atStart => exact ⟨0, Nat.zero_le _, rfl, rfl, Dr.refl _⟩
  case round =>
    obtain ⟨k, hk, rfl, rfl, hd⟩ := hrel
    by_cases hlt : k < t
    · have h1 := fall_le ⟨n, by omega⟩ ⟨k + 1, by omega⟩
      have h2 : fall n (k + 1) ≤ 120 := h1
      have HS : Hid (fall n (k + 1) = fall n k * (n - k)) := rfl
      have hw1 : IntKind.i64.wrap ((n : Int) - (k : Int)) = ((n - k : Nat) : Int) := by rw [IntWalk.i64_in _ (by omega)]; omega
      have hw0 : (fall n k : Int) * ((n - k : Nat) : Int) = ((fall n (k + 1) : Nat) : Int) := by rw [HS.out, Int.natCast_mul]
      have hw2 : IntKind.i64.wrap ((fall n k : Int) * ((n - k : Nat) : Int)) = ((fall n (k + 1) : Nat) : Int) := by rw [hw0, IntWalk.i64_in _ (by omega)]
      have hw3 : IntKind.i64.wrap ((fall n k : Int) * ((n : Int) - (k : Int))) = ((fall n (k + 1) : Nat) : Int) := by rw [show (n : Int) - (k : Int) = ((n - k : Nat) : Int) by omega]; exact hw2
      go_wp2
      go_roundw
      case rel => exact ⟨k + 1, by omega, by go_num, by first | rfl | (congr 1; first | exact hw0 | (rw [show (n : Int) - (k : Int) = ((n - k : Nat) : Int) by omega]; exact hw0) | assumption), hd⟩
      case measure => simp [intOf]; omega
    · have hkt : k = t := by omega
      subst hkt
      go_wp2
      go_ret
      exact hd.intD rfl

set_option maxRecDepth 100000 in
set_option maxHeartbeats 1000000 in
theorem s_DrawAllLists {n : Nat} {a : Option Addr} {c : Nat} {w : World} (hm : RB w w.heap.size a n) (hc : n ≤ c) (hl : n ≤ 1048576) :
    Calls Try.prog 16 #[.slice a n c] w (fun e w' => ∃ x t : Int, e = .returned (.tuple #[.int .i64 x, .int .i64 t]) ∧ (0 ≤ x ∧ x ≤ 6 ∧ -1 ≤ t ∧ t ≤ 5) ∧ Below w.heap.size w w') := by
  go_enter Try.func16, Try.ntmps16
  go_wp2_with fail
  refine (s_newReader hm hc hl).mono ?_
  rintro e w1 ⟨rfl, hr1, hb1⟩
  have hlt1 := hr1.lt
  have hb2 := (Below.refl w1.heap.size w1).alloc (Nat.le_refl _) (.cells #[.int .i64 3, .int .i64 4, .int .i64 2, .int .i64 5, .int .i64 1, .int .i64 0, .int .i64 6] 3)
  go_wp2_with fail
  refine (s_one (hr1.below hb2 hlt1) (by omega) (litW w1 _ [3, 4, 2, 5, 1, 0, 6] rfl) (by simp) (by simp) (.inr hlt1) (by simp)).mono ?_
  rintro e w2 ⟨x, rfl, hx, hr2, hu2⟩
  have hx2 : 0 ≤ x ∧ x ≤ 6 := by simp at hx; omega
  have hlt2 := hr2.lt
  have hU2 := ((UpB.refl w.heap.size w1.heap.size w1).below hb2 (Nat.le_refl _)).upd hu2
  have hb3 := (Below.refl w2.heap.size w2).alloc (Nat.le_refl _) (.cells #[.int .i64 2, .int .i64 1, .int .i64 3, .int .i64 0, .int .i64 4, .int .i64 5, .int .i64 (-1)] 3)
  clear hx hb2 hu2
  go_wp2_with fail
  refine (s_one (hr2.below hb3 hlt2) (by omega) (litW w2 _ [2, 1, 3, 0, 4, 5, -1] rfl) (by simp) (by simp) (.inr hlt2) (by simp)).mono ?_
  rintro e w3 ⟨t, rfl, ht, hr3, hu3⟩
  have ht3 : -1 ≤ t ∧ t ≤ 5 := by simp at ht; omega
  have hU3 := (hU2.below hb3 (by have := hU2.size; omega)).upd hu3
  clear ht hb3 hu3
  go_wp2
  go_ret2
  exact ⟨x, t, rfl, ⟨hx2.1, hx2.2, ht3.1, ht3.2⟩, hb1.trans (hU3.toBelow (by have := hb1.size; omega) (by have := hb1.size; omega))⟩

end Go.Proofs.Ytkboggohkhjciaa
