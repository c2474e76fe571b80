/- Walks: what TurnRuns draws. -/
import Derived.Test.YtkboggohkhjciaaNc
namespace Go.Proofs.Ytkboggohkhjciaa
open Go.RowKit

set_option maxRecDepth 100000 in
set_option maxHeartbeats 2000000 in
theorem s_DrawTurnRuns {n : Nat} {a : Option Addr} {c : Nat} {w : World} (hm : RB w w.heap.size a n) (hc : n ≤ c) (hl : n ≤ 1048576) :
    Calls Try.prog 32 #[.slice a n c] w (DrR w) := by
  go_enter Try.func32, Try.ntmps32
  go_wp2_with fail
  refine (s_newReader hm hc hl).mono ?_
  rintro e w1 ⟨rfl, hr1, hb1⟩
  have hlt1 := hr1.lt
  have hs1 := hb1.size
  go_wp2_with fail
  refine (s_someRuns hr1 (by omega)).mono ?_
  rintro e w2 ⟨M, a2, c2, mm, rfl, h2, ⟨⟨hN0, hN6⟩, hlen, hR⟩, hr2, hU2⟩
  obtain ⟨N, rfl⟩ := Int.eq_ofNat_of_zero_le hN0
  have hN7 : N ≤ 6 := by omega
  have HR := Lib.hid hR
  have hs2 := hU2.size
  have hlw2 := hr2.lt
  clear hR hm
  go_wp2_with fail
  refine (s_pick hr2 (by omega) (by omega) (by omega)).mono ?_
  rintro e w3 ⟨u, rfl, hu, hr3, hu3⟩
  have h3 := h2.upd hu3 hlt1
  have hU3 := hU2.upd hu3
  have hs3 := hU3.size
  clear h2 hU2 hr2 hu3
  by_cases e0 : u = 0
  case neg =>
    have hvne : (u == 0) = false := by rw [beq_eq_false_iff_ne]; exact e0
    obtain ⟨a3, c3, e3, hX⟩ := h3.riic
    cases e3
    go_wp2
    go_ret2
    exact ⟨N, a2, c2, mm, rfl, ⟨hN0, hN6, hX.wide (by omega) (Nat.le_refl _), hlen, HR.out⟩, hb1.trans (hU3.toBelow (by omega) (by omega))⟩
  subst e0
  cases hin : inR (N : Int) 1 5
  · have HIN := Lib.hid hin; clear hin
    go_wp2_with fail
    refine (s_inRange (N : Int) 1 5 w3).mono ?_
    rintro e w4 ⟨rfl, d4⟩
    rw [HIN.out]
    have d4 : Dr w3 w4 := d4
    have h4 := h3.below (Dr.below d4 _)
    have hU4 := hU3.below (Dr.below d4 w3.heap.size) (by omega)
    have hs4 := hU4.size
    obtain ⟨a3, c3, e3, hX⟩ := h4.riic
    cases e3
    clear d4
    go_wp2
    go_ret2
    exact ⟨N, a2, c2, mm, rfl, ⟨hN0, hN6, hX.wide (by omega) (Nat.le_refl _), hlen, HR.out⟩, hb1.trans (hU4.toBelow (by omega) (by omega))⟩
  have hN5 := inR_true.1 hin
  have HIN := Lib.hid hin; clear hin
  go_wp2_with fail
  refine (s_inRange (N : Int) 1 5 w3).mono ?_
  rintro e w4 ⟨rfl, d4⟩
  rw [HIN.out]
  have d4 : Dr w3 w4 := d4
  have h4 := h3.below (Dr.below d4 _)
  have hr4 := hr3.below (Dr.below d4 w3.heap.size) hr3.lt
  have hU4 := hU3.below (Dr.below d4 w3.heap.size) (by omega)
  have hs4 := hU4.size
  clear d4 h3 hr3 hU3
  have hb0 : Hid (R6 mm ∧ mm.length ≤ 21) := ⟨HR.out, hlen⟩
  go_wp2
  go_loopw [6] (fun v wr => ∃ (a : Option Addr) (c : Nat) (l : List (List Int)), v = .slice a l.length c ∧ OwnZ wr w1.heap.size (.slice a l.length c) l ∧ Hid (R6 l ∧ l.length ≤ 21) ∧ Rdr wr w.heap.size (100 + l.length * 6) ∧ UpB w.heap.size w1.heap.size w1 wr) (fun v _ => 11 - lenV v)
  case atStart => exact ⟨_, _, mm, rfl, h4, hb0, hr4.mono (by omega), hU4⟩
  case round =>
    clear h4 hr4 hU4 hb0 hlen HR
    obtain ⟨al, cl, l, rfl, ho, hLl, hr, hU⟩ := hrel
    have hlw := hr.lt
    have hszr := hU.size
    have hl21 := hLl.out.2
    by_cases hlt2 : (l.length : Int) < 11
    · have hlt3 : l.length < 11 := by omega
      go_wp2_with fail
      refine (s_aRun (n := N) hr (by omega) (by omega)).mono ?_
      rintro e w6 ⟨a6, c6, r, rfl, ho6, hA6, hr6, hU6⟩
      have hrl6 : 1 ≤ r.length ∧ r.length ≤ 6 := by have := hA6.1; omega
      have hs6 := hU6.size
      have hX6 := ho.upB hU6 hlt1
      have hoff : ∀ g, (Value.slice al l.length cl).ownBlock = some g → g < wr.heap.size := fun g hg => (ho.lt g hg).2
      obtain ⟨a7, c7, e7, hoi⟩ := ho6.slice
      cases e7
      have hri := hoi.oi
      have hcp := hoi.cap
      have HOF := Lib.hid hoff
      have hU6l := hU6.less (show w1.heap.size ≤ wr.heap.size by omega)
      clear ho6 hA6 hoff ho hU6 hoi
      go_wp2_with (first
        | (at_builtin; refine wpList_appZ rfl (.tmp 24) (.tmp 28) rfl w1.heap.size wr.heap.size w6.heap.size _ l rfl hX6 (by omega) r a6 r.length c6 rfl hri hcp (by omega) (Nat.le_refl _) HOF.out w6.heap.size rfl rfl (by omega) ?_; intro v8 w8 hown8 hb8 _; obtain ⟨a8, c8, hv8, _⟩ := hown8.riic; subst hv8)
        | go_in)
      have hr8 := hr6.below hb8 hlt1
      have hU8 := (hU.trans hU6l).below hb8 (Nat.le_refl _)
      have HL8 : Hid (R6 (l ++ [r]) ∧ (l ++ [r]).length ≤ 21) := ⟨R6.snoc hLl.out.1 hrl6, by simp; omega⟩
      clear hX6 hri hr6 hU6l hU hb8
      go_roundw
      case rel => exact ⟨a8, c8, l ++ [r], by simp, hown8, HL8, hr8.mono (by simp; omega), hU8⟩
      case measure => simp [lenV]; omega
    · have hge : decide ((l.length : Int) < 11) = false := decide_eq_false (by omega)
      obtain ⟨a3, c3, e3, hX⟩ := ho.riic
      cases e3
      go_wp2
      go_ret2
      exact ⟨N, al, cl, l, rfl, ⟨hN0, hN6, hX.wide (by omega) (Nat.le_refl _), hLl.out.2, hLl.out.1⟩, hb1.trans (hU.toBelow (by omega) (by omega))⟩

end Go.Proofs.Ytkboggohkhjciaa
