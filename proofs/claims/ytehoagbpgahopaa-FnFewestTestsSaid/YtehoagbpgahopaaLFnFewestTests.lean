/- The walk of FnFewestTests: it returns true and writes nothing that was there. -/
import Derived.Test.YtehoagbpgahopaaRi
import Derived.Test.YtehoagbpgahopaaJr
import Derived.Test.YtehoagbpgahopaaJl
import Derived.Test.YtehoagbpgahopaaJn
import Derived.Test.YtehoagbpgahopaaVb
import Derived.Test.YtehoagbpgahopaaNh
namespace Go.Proofs.Ytehoagbpgahopaa
open Go.RowKit

theorem fw_law {m : List Int} {t : Int} (h : ¬ fwV m t < 0) : okM m = true ∧ t ≤ m.length ∧ gsB m [] t = true ∧ fwV m t ≤ ((gsL m [] t).length : Int) ∧ ltV m t ≤ fwV m t ∧ (¬ t < (m.length : Int) → fwV m t = prodL 0 m) := by
  rcases @fw_neg m t with h0 | ⟨hm, h0, h1, h9⟩
  · exact absurd h0 h
  have hc : okC m [] t = true := by
    unfold okC okS
    rw [hm, inR_true.2 ⟨h0, h1⟩]; rfl
  have hfew := gs_few (t := t) hm
  have hgs := gs_yes hc (show (gsR m [] t).length ≤ 20 by omega)
  obtain ⟨f1, f2, f3, f4, f5⟩ := gs_factsJ hgs.2
  have hcL : okC m (gsL m [] t) t = true := by
    cases hh : okC m (gsL m [] t) t
    · rw [ic_no hh] at f4; cases f4
    · rfl
  rw [ic_yes hcL] at f4
  have h0l : (misL m (gsL m [] t) t).length = 0 := by simpa using f4
  have hmis : misP (gsL m [] t) (patS m [] t) = [] := List.length_eq_zero_iff.1 h0l
  have hos : okS m (gsL m [] t) = true := by
    have := hcL; unfold okC at this; rw [Bool.and_eq_true, Bool.and_eq_true] at this; exact this.1.2
  refine ⟨hm, h1, hgs.2, fw_le hm h0 h1 h9 (fun r hr => okS_all hos hr) hmis, fw_ge hm h0 h1 h9, fun hlt => ?_⟩
  obtain rfl : t = (m.length : Int) := by omega
  exact fw_full hm h9

set_option maxRecDepth 100000 in
set_option maxHeartbeats 2000000 in
theorem law_FnFewestTests {m0 : Nat} {a0 : Option Addr} {c0 : Nat} {w : World} (f0 : RB w w.heap.size a0 m0) (l0 : m0 ≤ c0) :
    Calls Try.prog 12 #[.slice a0 m0 c0] w (Tru w) := by
  by_cases hb : m0 ≤ 1048576
  case neg =>
    go_enter Try.func12, Try.ntmps12
    go_wp2
    go_ret
    exact ⟨rfl, Below.refl _ _⟩
  go_enter Try.func12, Try.ntmps12
  go_wp2_with fail
  refine (s_DrawFewestTests f0 l0 hb).mono ?_
  rintro e w1 ⟨a1, c1, m, t, rfl, ⟨hG, ht0, ht1⟩, B1⟩
  have z1 := B1.size
  have hm := hG.ri
  have hl10 := hG.lp.1
  have hcap := hG.cap
  clear hG
  clear f0
  obtain ⟨z, hZ⟩ : ∃ z, fwV m t = z := ⟨_, rfl⟩
  have HZ := Lib.hid hZ
  have hzz : (z != z) = false := by simp
  have hze : (z == z) = true := by simp
  by_cases hz : z < 0
  · skip
    clear hZ
    go_wp2_with fail
    refine (i_FewestTests hm (by omega) (by omega) (by omega) (by omega)).mono ?_
    rintro e w2 ⟨rfl, b2⟩
    have z2 := b2.size
    have hm := hm.below b2 (by omega)
    have B2 := B1.trans (b2.mono (by omega))
    clear b2 B1
    rw [HZ.out]
    go_wp2_with fail
    refine (s_FewestTests hm (by omega) (by omega) (by omega) (by omega)).mono ?_
    rintro e w3 ⟨rfl, b3⟩
    have z3 := b3.size
    have hm := hm.below b3 (by omega)
    have B3 := B2.trans (b3.mono (by omega))
    clear b3 B2
    rw [HZ.out]
    go_wp2_with fail
    refine (s_FewestTests hm (by omega) (by omega) (by omega) (by omega)).mono ?_
    rintro e w4 ⟨rfl, b4⟩
    have z4 := b4.size
    have hm := hm.below b4 (by omega)
    have B4 := B3.trans (b4.mono (by omega))
    clear b4 B3
    rw [HZ.out]
    go_wp2
    go_ret
    exact ⟨rfl, B4⟩
  obtain ⟨hok, htl, hgb, hle, hge, hfu⟩ := fw_law (m := m) (t := t) (by rw [hZ]; exact hz)
  rw [hZ] at hle hge hfu
  have HOK := Lib.hid hok
  have HGB := Lib.hid hgb
  obtain ⟨G, hG⟩ : ∃ G, gsL m [] t = G := ⟨_, rfl⟩
  rw [hG] at hle
  have HG := Lib.hid hG
  obtain ⟨y, hy⟩ : ∃ y, ltV m t = y := ⟨_, rfl⟩
  rw [hy] at hge
  have HY := Lib.hid hy
  clear hZ hok hgb hG hy
  have c1 : decide (z < 0) = false := decide_eq_false hz
  have c2 : decide (y ≤ z) = true := decide_eq_true hge
  have c3 : decide (z ≤ (G.length : Int)) = true := decide_eq_true hle
  go_wp2_with fail
  refine (i_FewestTests hm (by omega) (by omega) (by omega) (by omega)).mono ?_
  rintro e w2 ⟨rfl, b2⟩
  have z2 := b2.size
  have hm := hm.below b2 (by omega)
  have B2 := B1.trans (b2.mono (by omega))
  clear b2 B1
  rw [HZ.out]
  go_wp2_with fail
  refine (s_FewestTests hm (by omega) (by omega) (by omega) (by omega)).mono ?_
  rintro e w3 ⟨rfl, b3⟩
  have z3 := b3.size
  have hm := hm.below b3 (by omega)
  have B3 := B2.trans (b3.mono (by omega))
  clear b3 B2
  rw [HZ.out]
  go_wp2_with fail
  refine (i_GrowSuite (s := []) (a' := none) (c' := 0) hm (by omega) (RII.nil _ 0 0 _) (by simp) (by simp) (by omega) (by omega) (by omega) (by omega)).mono ?_
  rintro e w4 ⟨Ga, Gc, rfl, G3, b4⟩
  have z4 := b4.size
  have hm := hm.below b4 (by omega)
  have B4 := B3.trans (b4.mono (by omega))
  clear b4 B3 G3
  rw [HG.out, HGB.out]
  by_cases hlt : t < (m.length : Int)
  · skip
    clear hfu
    go_wp2_with fail
    refine (i_LeastTests hm (by omega) (by omega) (by omega) (by omega)).mono ?_
    rintro e w5 ⟨rfl, b5⟩
    have z5 := b5.size
    have hm := hm.below b5 (by omega)
    have B5 := B4.trans (b5.mono (by omega))
    clear b5 B4
    rw [HY.out]
    go_wp2
    go_ret
    exact ⟨rfl, B5⟩
  have HP : Hid (prodL 0 m = z) := (hfu (by omega)).symm
  clear hfu
  go_wp2_with fail
  refine (i_LeastTests hm (by omega) (by omega) (by omega) (by omega)).mono ?_
  rintro e w5 ⟨rfl, b5⟩
  have z5 := b5.size
  have hm := hm.below b5 (by omega)
  have B5 := B4.trans (b5.mono (by omega))
  clear b5 B4
  rw [HY.out]
  go_wp2_with fail
  refine (l_product HOK.out hm (by omega) (by omega)).mono ?_
  rintro e w6 ⟨rfl, d6⟩
  have b6 := Dr.below d6 w5.heap.size
  have z6 := Dr.le d6
  clear d6
  have hm := hm.below b6 (by omega)
  have B6 := B5.trans (b6.mono (by omega))
  clear b6 B5
  rw [HP.out]
  go_wp2
  go_ret
  exact ⟨rfl, B6⟩

end Go.Proofs.Ytehoagbpgahopaa
