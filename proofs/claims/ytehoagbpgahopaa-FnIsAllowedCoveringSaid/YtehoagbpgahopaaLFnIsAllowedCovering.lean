/- The walk of FnIsAllowedCovering: it returns true and writes nothing that was there. -/
import Derived.Test.YtehoagbpgahopaaRo
import Derived.Test.YtehoagbpgahopaaZl
import Derived.Test.YtehoagbpgahopaaZt
import Derived.Test.YtehoagbpgahopaaYb
namespace Go.Proofs.Ytehoagbpgahopaa
open Go.RowKit

set_option maxRecDepth 100000 in
set_option maxHeartbeats 2000000 in
theorem law_FnIsAllowedCovering {m0 : Nat} {a0 : Option Addr} {c0 : Nat} {w : World} (f0 : RB w w.heap.size a0 m0) (l0 : m0 ≤ c0) :
    Calls Try.prog 6 #[.slice a0 m0 c0] w (Tru w) := by
  by_cases hb : m0 ≤ 1048576
  case neg =>
    go_enter Try.func6, Try.ntmps6
    go_wp2
    go_ret
    exact ⟨rfl, Below.refl _ _⟩
  go_enter Try.func6, Try.ntmps6
  go_wp2_with fail
  refine (s_DrawIsAllowedCovering f0 l0 hb).mono ?_
  rintro e w1 ⟨a1, c1, m, a2, c2, s, a3, c3, u, t, rfl, ⟨hG, hS, hW, ht0, ht1⟩, B1⟩
  have z1 := B1.size
  have hm := hG.ri
  have hs := hS.ric
  have hl10 := hG.lp.1
  have hsl := hS.sq.1
  have scap := hS.ric.cap
  have HSR : Hid (∀ r ∈ s, r.length ≤ 12) := fun r h => (hS.sq.2 r h).1
  have HSG : Hid (∀ r ∈ s, r.length ≤ 9223372036854775807) := fun r h => by have := (hS.sq.2 r h).1; omega
  have hu := hW.ric
  have hul := hW.sq.1
  have ucap := hW.ric.cap
  have HUG : Hid (∀ r ∈ u, r.length ≤ 9223372036854775807) := fun r h => by have := (hW.sq.2 r h).1; omega
  have hcap := hG.cap
  clear hG hS hW
  clear f0
  obtain ⟨x, hx⟩ : ∃ x, iaB m s u t = x := ⟨_, rfl⟩
  have HX := Lib.hid hx
  have hne : (x != x) = false := by cases x <;> rfl
  have hself : (x == x) = true := by cases x <;> rfl
  cases hvs : (okM m && okS m u)
  · skip
    clear hx
    have HVS := Lib.hid hvs; clear hvs
    go_wp2_with fail
    refine (i_IsAllowedCovering hm (by omega) hs.rii (by omega) HSG.out hu.rii (by omega) HUG.out (by omega) (by omega) (by omega) (by omega) (by omega)).mono ?_
    rintro e w2 ⟨rfl, b2⟩
    have z2 := b2.size
    have hm := hm.below b2 (by omega)
    have hs := hs.below b2 (by omega)
    have hu := hu.below b2 (by omega)
    have B2 := B1.trans (b2.mono (by omega))
    clear b2 B1
    rw [HX.out]
    go_wp2_with fail
    refine (s_IsAllowedCovering hm (by omega) hs.rii (by omega) HSG.out hu.rii (by omega) HUG.out (by omega) (by omega) (by omega) (by omega) (by omega)).mono ?_
    rintro e w3 ⟨rfl, b3⟩
    have z3 := b3.size
    have hm := hm.below b3 (by omega)
    have hs := hs.below b3 (by omega)
    have hu := hu.below b3 (by omega)
    have B3 := B2.trans (b3.mono (by omega))
    clear b3 B2
    rw [HX.out]
    go_wp2_with fail
    refine (i_ValidSuite hm (by omega) hu.rii (by omega) HUG.out).mono ?_
    rintro e w4 ⟨rfl, d4⟩
    have b4 := Dr.below d4 w3.heap.size
    have z4 := Dr.le d4
    clear d4
    have hm := hm.below b4 (by omega)
    have hs := hs.below b4 (by omega)
    have hu := hu.below b4 (by omega)
    have B4 := B3.trans (b4.mono (by omega))
    clear b4 B3
    rw [HVS.out]
    go_wp2_with fail
    refine (s_IsAllowedCovering hm (by omega) hs.rii (by omega) HSG.out hu.rii (by omega) HUG.out (by omega) (by omega) (by omega) (by omega) (by omega)).mono ?_
    rintro e w5 ⟨rfl, b5⟩
    have z5 := b5.size
    have hm := hm.below b5 (by omega)
    have hs := hs.below b5 (by omega)
    have hu := hu.below b5 (by omega)
    have B5 := B4.trans (b5.mono (by omega))
    clear b5 B4
    rw [HX.out]
    go_wp2
    go_ret
    exact ⟨rfl, B5⟩
  have HVS := Lib.hid hvs
  have HOK : Hid (okM m = true) := by show _ = _; rw [Bool.and_eq_true] at hvs; exact hvs.1
  clear hvs
  by_cases hin : 0 ≤ t ∧ t ≤ m.length
  case neg =>
    clear hx
    by_cases h0 : t < 0
    · skip
      go_wp2_with fail
      refine (i_IsAllowedCovering hm (by omega) hs.rii (by omega) HSG.out hu.rii (by omega) HUG.out (by omega) (by omega) (by omega) (by omega) (by omega)).mono ?_
      rintro e w2 ⟨rfl, b2⟩
      have z2 := b2.size
      have hm := hm.below b2 (by omega)
      have hs := hs.below b2 (by omega)
      have hu := hu.below b2 (by omega)
      have B2 := B1.trans (b2.mono (by omega))
      clear b2 B1
      rw [HX.out]
      go_wp2_with fail
      refine (s_IsAllowedCovering hm (by omega) hs.rii (by omega) HSG.out hu.rii (by omega) HUG.out (by omega) (by omega) (by omega) (by omega) (by omega)).mono ?_
      rintro e w3 ⟨rfl, b3⟩
      have z3 := b3.size
      have hm := hm.below b3 (by omega)
      have hs := hs.below b3 (by omega)
      have hu := hu.below b3 (by omega)
      have B3 := B2.trans (b3.mono (by omega))
      clear b3 B2
      rw [HX.out]
      go_wp2_with fail
      refine (i_ValidSuite hm (by omega) hu.rii (by omega) HUG.out).mono ?_
      rintro e w4 ⟨rfl, d4⟩
      have b4 := Dr.below d4 w3.heap.size
      have z4 := Dr.le d4
      clear d4
      have hm := hm.below b4 (by omega)
      have hs := hs.below b4 (by omega)
      have hu := hu.below b4 (by omega)
      have B4 := B3.trans (b4.mono (by omega))
      clear b4 B3
      rw [HVS.out]
      go_wp2_with fail
      refine (s_IsAllowedCovering hm (by omega) hs.rii (by omega) HSG.out hu.rii (by omega) HUG.out (by omega) (by omega) (by omega) (by omega) (by omega)).mono ?_
      rintro e w5 ⟨rfl, b5⟩
      have z5 := b5.size
      have hm := hm.below b5 (by omega)
      have hs := hs.below b5 (by omega)
      have hu := hu.below b5 (by omega)
      have B5 := B4.trans (b5.mono (by omega))
      clear b5 B4
      rw [HX.out]
      go_wp2
      go_ret
      exact ⟨rfl, B5⟩
    have h1 : (m.length : Int) < t := by omega
    have h0b : 0 ≤ t := by omega
    go_wp2_with fail
    refine (i_IsAllowedCovering hm (by omega) hs.rii (by omega) HSG.out hu.rii (by omega) HUG.out (by omega) (by omega) (by omega) (by omega) (by omega)).mono ?_
    rintro e w2 ⟨rfl, b2⟩
    have z2 := b2.size
    have hm := hm.below b2 (by omega)
    have hs := hs.below b2 (by omega)
    have hu := hu.below b2 (by omega)
    have B2 := B1.trans (b2.mono (by omega))
    clear b2 B1
    rw [HX.out]
    go_wp2_with fail
    refine (s_IsAllowedCovering hm (by omega) hs.rii (by omega) HSG.out hu.rii (by omega) HUG.out (by omega) (by omega) (by omega) (by omega) (by omega)).mono ?_
    rintro e w3 ⟨rfl, b3⟩
    have z3 := b3.size
    have hm := hm.below b3 (by omega)
    have hs := hs.below b3 (by omega)
    have hu := hu.below b3 (by omega)
    have B3 := B2.trans (b3.mono (by omega))
    clear b3 B2
    rw [HX.out]
    go_wp2_with fail
    refine (i_ValidSuite hm (by omega) hu.rii (by omega) HUG.out).mono ?_
    rintro e w4 ⟨rfl, d4⟩
    have b4 := Dr.below d4 w3.heap.size
    have z4 := Dr.le d4
    clear d4
    have hm := hm.below b4 (by omega)
    have hs := hs.below b4 (by omega)
    have hu := hu.below b4 (by omega)
    have B4 := B3.trans (b4.mono (by omega))
    clear b4 B3
    rw [HVS.out]
    go_wp2_with fail
    refine (s_IsAllowedCovering hm (by omega) hs.rii (by omega) HSG.out hu.rii (by omega) HUG.out (by omega) (by omega) (by omega) (by omega) (by omega)).mono ?_
    rintro e w5 ⟨rfl, b5⟩
    have z5 := b5.size
    have hm := hm.below b5 (by omega)
    have hs := hs.below b5 (by omega)
    have hu := hu.below b5 (by omega)
    have B5 := B4.trans (b5.mono (by omega))
    clear b5 B4
    rw [HX.out]
    go_wp2
    go_ret
    exact ⟨rfl, B5⟩
  have hin0 := hin.1
  have hin1 := hin.2
  clear hin
  cases hvb : (okM m && okBn m s)
  · skip
    clear hx
    have HVB := Lib.hid hvb; clear hvb
    go_wp2_with fail
    refine (i_IsAllowedCovering hm (by omega) hs.rii (by omega) HSG.out hu.rii (by omega) HUG.out (by omega) (by omega) (by omega) (by omega) (by omega)).mono ?_
    rintro e w2 ⟨rfl, b2⟩
    have z2 := b2.size
    have hm := hm.below b2 (by omega)
    have hs := hs.below b2 (by omega)
    have hu := hu.below b2 (by omega)
    have B2 := B1.trans (b2.mono (by omega))
    clear b2 B1
    rw [HX.out]
    go_wp2_with fail
    refine (s_IsAllowedCovering hm (by omega) hs.rii (by omega) HSG.out hu.rii (by omega) HUG.out (by omega) (by omega) (by omega) (by omega) (by omega)).mono ?_
    rintro e w3 ⟨rfl, b3⟩
    have z3 := b3.size
    have hm := hm.below b3 (by omega)
    have hs := hs.below b3 (by omega)
    have hu := hu.below b3 (by omega)
    have B3 := B2.trans (b3.mono (by omega))
    clear b3 B2
    rw [HX.out]
    go_wp2_with fail
    refine (i_ValidSuite hm (by omega) hu.rii (by omega) HUG.out).mono ?_
    rintro e w4 ⟨rfl, d4⟩
    have b4 := Dr.below d4 w3.heap.size
    have z4 := Dr.le d4
    clear d4
    have hm := hm.below b4 (by omega)
    have hs := hs.below b4 (by omega)
    have hu := hu.below b4 (by omega)
    have B4 := B3.trans (b4.mono (by omega))
    clear b4 B3
    rw [HVS.out]
    go_wp2_with fail
    refine (i_ValidBans hm (by omega) hs.rii (by omega) HSG.out).mono ?_
    rintro e w5 ⟨rfl, d5⟩
    have b5 := Dr.below d5 w4.heap.size
    have z5 := Dr.le d5
    clear d5
    have hm := hm.below b5 (by omega)
    have hs := hs.below b5 (by omega)
    have hu := hu.below b5 (by omega)
    have B5 := B4.trans (b5.mono (by omega))
    clear b5 B4
    rw [HVB.out]
    go_wp2_with fail
    refine (s_IsAllowedCovering hm (by omega) hs.rii (by omega) HSG.out hu.rii (by omega) HUG.out (by omega) (by omega) (by omega) (by omega) (by omega)).mono ?_
    rintro e w6 ⟨rfl, b6⟩
    have z6 := b6.size
    have hm := hm.below b6 (by omega)
    have hs := hs.below b6 (by omega)
    have hu := hu.below b6 (by omega)
    have B6 := B5.trans (b6.mono (by omega))
    clear b6 B5
    rw [HX.out]
    go_wp2
    go_ret
    exact ⟨rfl, B6⟩
  have HVB := Lib.hid hvb; clear hvb
  obtain ⟨y, hy⟩ : ∃ y, icB m u t = y := ⟨_, rfl⟩
  have HY := Lib.hid hy
  have HYN : Hid (iaB m [] u t = y) := ia_none.trans hy
  clear hy
  have hselfy : (y == y) = true := by cases y <;> rfl
  cases x
  · skip
    clear hx
    go_wp2_with fail
    refine (i_IsAllowedCovering hm (by omega) hs.rii (by omega) HSG.out hu.rii (by omega) HUG.out (by omega) (by omega) (by omega) (by omega) (by omega)).mono ?_
    rintro e w2 ⟨rfl, b2⟩
    have z2 := b2.size
    have hm := hm.below b2 (by omega)
    have hs := hs.below b2 (by omega)
    have hu := hu.below b2 (by omega)
    have B2 := B1.trans (b2.mono (by omega))
    clear b2 B1
    rw [HX.out]
    go_wp2_with fail
    refine (s_IsAllowedCovering hm (by omega) hs.rii (by omega) HSG.out hu.rii (by omega) HUG.out (by omega) (by omega) (by omega) (by omega) (by omega)).mono ?_
    rintro e w3 ⟨rfl, b3⟩
    have z3 := b3.size
    have hm := hm.below b3 (by omega)
    have hs := hs.below b3 (by omega)
    have hu := hu.below b3 (by omega)
    have B3 := B2.trans (b3.mono (by omega))
    clear b3 B2
    rw [HX.out]
    go_wp2_with fail
    refine (i_ValidSuite hm (by omega) hu.rii (by omega) HUG.out).mono ?_
    rintro e w4 ⟨rfl, d4⟩
    have b4 := Dr.below d4 w3.heap.size
    have z4 := Dr.le d4
    clear d4
    have hm := hm.below b4 (by omega)
    have hs := hs.below b4 (by omega)
    have hu := hu.below b4 (by omega)
    have B4 := B3.trans (b4.mono (by omega))
    clear b4 B3
    rw [HVS.out]
    go_wp2_with fail
    refine (i_ValidBans hm (by omega) hs.rii (by omega) HSG.out).mono ?_
    rintro e w5 ⟨rfl, d5⟩
    have b5 := Dr.below d5 w4.heap.size
    have z5 := Dr.le d5
    clear d5
    have hm := hm.below b5 (by omega)
    have hs := hs.below b5 (by omega)
    have hu := hu.below b5 (by omega)
    have B5 := B4.trans (b5.mono (by omega))
    clear b5 B4
    rw [HVB.out]
    go_wp2_with fail
    refine (i_IsAllowedCovering hm (by omega) (s := []) (RII.nil _ 0 0 none) (by simp) (by simp) hu.rii (by omega) HUG.out (by omega) (by omega) (by omega) (by omega) (by omega)).mono ?_
    rintro e w6 ⟨rfl, b6⟩
    have z6 := b6.size
    have hm := hm.below b6 (by omega)
    have hs := hs.below b6 (by omega)
    have hu := hu.below b6 (by omega)
    have B6 := B5.trans (b6.mono (by omega))
    clear b6 B5
    rw [HYN.out]
    go_wp2_with fail
    refine (i_IsCovering hm (by omega) hu.rii (by omega) HUG.out (by omega) (by omega) (by omega) (by omega)).mono ?_
    rintro e w7 ⟨rfl, b7⟩
    have z7 := b7.size
    have hm := hm.below b7 (by omega)
    have hs := hs.below b7 (by omega)
    have hu := hu.below b7 (by omega)
    have B7 := B6.trans (b7.mono (by omega))
    clear b7 B6
    rw [HY.out]
    go_wp2
    go_ret
    exact ⟨rfl, B7⟩
  by_cases ht : t = 0
  · subst ht
    clear hx
    go_wp2_with fail
    refine (i_IsAllowedCovering hm (by omega) hs.rii (by omega) HSG.out hu.rii (by omega) HUG.out (by omega) (by omega) (by omega) (by omega) (by omega)).mono ?_
    rintro e w2 ⟨rfl, b2⟩
    have z2 := b2.size
    have hm := hm.below b2 (by omega)
    have hs := hs.below b2 (by omega)
    have hu := hu.below b2 (by omega)
    have B2 := B1.trans (b2.mono (by omega))
    clear b2 B1
    rw [HX.out]
    go_wp2_with fail
    refine (s_IsAllowedCovering hm (by omega) hs.rii (by omega) HSG.out hu.rii (by omega) HUG.out (by omega) (by omega) (by omega) (by omega) (by omega)).mono ?_
    rintro e w3 ⟨rfl, b3⟩
    have z3 := b3.size
    have hm := hm.below b3 (by omega)
    have hs := hs.below b3 (by omega)
    have hu := hu.below b3 (by omega)
    have B3 := B2.trans (b3.mono (by omega))
    clear b3 B2
    rw [HX.out]
    go_wp2_with fail
    refine (i_ValidSuite hm (by omega) hu.rii (by omega) HUG.out).mono ?_
    rintro e w4 ⟨rfl, d4⟩
    have b4 := Dr.below d4 w3.heap.size
    have z4 := Dr.le d4
    clear d4
    have hm := hm.below b4 (by omega)
    have hs := hs.below b4 (by omega)
    have hu := hu.below b4 (by omega)
    have B4 := B3.trans (b4.mono (by omega))
    clear b4 B3
    rw [HVS.out]
    go_wp2_with fail
    refine (i_ValidBans hm (by omega) hs.rii (by omega) HSG.out).mono ?_
    rintro e w5 ⟨rfl, d5⟩
    have b5 := Dr.below d5 w4.heap.size
    have z5 := Dr.le d5
    clear d5
    have hm := hm.below b5 (by omega)
    have hs := hs.below b5 (by omega)
    have hu := hu.below b5 (by omega)
    have B5 := B4.trans (b5.mono (by omega))
    clear b5 B4
    rw [HVB.out]
    go_wp2_with fail
    refine (i_IsAllowedCovering hm (by omega) (s := []) (RII.nil _ 0 0 none) (by simp) (by simp) hu.rii (by omega) HUG.out (by omega) (by omega) (by omega) (by omega) (by omega)).mono ?_
    rintro e w6 ⟨rfl, b6⟩
    have z6 := b6.size
    have hm := hm.below b6 (by omega)
    have hs := hs.below b6 (by omega)
    have hu := hu.below b6 (by omega)
    have B6 := B5.trans (b6.mono (by omega))
    clear b6 B5
    rw [HYN.out]
    go_wp2_with fail
    refine (i_IsCovering hm (by omega) hu.rii (by omega) HUG.out (by omega) (by omega) (by omega) (by omega)).mono ?_
    rintro e w7 ⟨rfl, b7⟩
    have z7 := b7.size
    have hm := hm.below b7 (by omega)
    have hs := hs.below b7 (by omega)
    have hu := hu.below b7 (by omega)
    have B7 := B6.trans (b7.mono (by omega))
    clear b7 B6
    rw [HY.out]
    go_wp2
    go_ret
    exact ⟨rfl, B7⟩
  have HMO := Lib.hid (ia_mono hx (by omega))
  have htn : (t == 0) = false := by rw [beq_eq_false_iff_ne]; exact ht
  clear hx
  go_wp2_with fail
  refine (i_IsAllowedCovering hm (by omega) hs.rii (by omega) HSG.out hu.rii (by omega) HUG.out (by omega) (by omega) (by omega) (by omega) (by omega)).mono ?_
  rintro e w2 ⟨rfl, b2⟩
  have z2 := b2.size
  have hm := hm.below b2 (by omega)
  have hs := hs.below b2 (by omega)
  have hu := hu.below b2 (by omega)
  have B2 := B1.trans (b2.mono (by omega))
  clear b2 B1
  rw [HX.out]
  go_wp2_with fail
  refine (s_IsAllowedCovering hm (by omega) hs.rii (by omega) HSG.out hu.rii (by omega) HUG.out (by omega) (by omega) (by omega) (by omega) (by omega)).mono ?_
  rintro e w3 ⟨rfl, b3⟩
  have z3 := b3.size
  have hm := hm.below b3 (by omega)
  have hs := hs.below b3 (by omega)
  have hu := hu.below b3 (by omega)
  have B3 := B2.trans (b3.mono (by omega))
  clear b3 B2
  rw [HX.out]
  go_wp2_with fail
  refine (i_ValidSuite hm (by omega) hu.rii (by omega) HUG.out).mono ?_
  rintro e w4 ⟨rfl, d4⟩
  have b4 := Dr.below d4 w3.heap.size
  have z4 := Dr.le d4
  clear d4
  have hm := hm.below b4 (by omega)
  have hs := hs.below b4 (by omega)
  have hu := hu.below b4 (by omega)
  have B4 := B3.trans (b4.mono (by omega))
  clear b4 B3
  rw [HVS.out]
  go_wp2_with fail
  refine (i_ValidBans hm (by omega) hs.rii (by omega) HSG.out).mono ?_
  rintro e w5 ⟨rfl, d5⟩
  have b5 := Dr.below d5 w4.heap.size
  have z5 := Dr.le d5
  clear d5
  have hm := hm.below b5 (by omega)
  have hs := hs.below b5 (by omega)
  have hu := hu.below b5 (by omega)
  have B5 := B4.trans (b5.mono (by omega))
  clear b5 B4
  rw [HVB.out]
  go_wp2_with fail
  refine (i_IsAllowedCovering hm (by omega) (s := []) (RII.nil _ 0 0 none) (by simp) (by simp) hu.rii (by omega) HUG.out (by omega) (by omega) (by omega) (by omega) (by omega)).mono ?_
  rintro e w6 ⟨rfl, b6⟩
  have z6 := b6.size
  have hm := hm.below b6 (by omega)
  have hs := hs.below b6 (by omega)
  have hu := hu.below b6 (by omega)
  have B6 := B5.trans (b6.mono (by omega))
  clear b6 B5
  rw [HYN.out]
  go_wp2_with fail
  refine (i_IsCovering hm (by omega) hu.rii (by omega) HUG.out (by omega) (by omega) (by omega) (by omega)).mono ?_
  rintro e w7 ⟨rfl, b7⟩
  have z7 := b7.size
  have hm := hm.below b7 (by omega)
  have hs := hs.below b7 (by omega)
  have hu := hu.below b7 (by omega)
  have B7 := B6.trans (b7.mono (by omega))
  clear b7 B6
  rw [HY.out]
  go_wp2_with fail
  refine (i_IsAllowedCovering (t := t - 1) hm (by omega) hs.rii (by omega) HSG.out hu.rii (by omega) HUG.out (by omega) (by omega) (by omega) (by omega) (by omega)).mono ?_
  rintro e w8 ⟨rfl, b8⟩
  have z8 := b8.size
  have hm := hm.below b8 (by omega)
  have hs := hs.below b8 (by omega)
  have hu := hu.below b8 (by omega)
  have B8 := B7.trans (b8.mono (by omega))
  clear b8 B7
  rw [HMO.out]
  go_wp2
  go_ret
  exact ⟨rfl, B8⟩

end Go.Proofs.Ytehoagbpgahopaa
