/- The walk of FnValidModel: it returns true and writes nothing that was there. -/
import Derived.Test.YtmmebcjebphfcaaRj
namespace Go.Proofs.Ytmmebcjebphfcaa
open Go.RowKit

theorem len_apL {m : List Int} (h : okM m = true) : ((apL m m.length).length : Int) = prodL 0 m := by
  have h5 := okM_len h
  rw [ap_yes h (inR_true.2 (by omega))]
  unfold patS
  rw [List.length_map]
  exact len_full (okM_ge h)

set_option maxRecDepth 100000 in
set_option maxHeartbeats 1000000 in
theorem law_FnValidModel {m0 : Nat} {a0 : Option Addr} {c0 : Nat} {w : World} (f0 : RB w w.heap.size a0 m0) (l0 : m0 ≤ c0) :
    Calls Try.prog 3 #[.slice a0 m0 c0] w (Tru w) := by
  by_cases hb : m0 ≤ 1048576
  case neg =>
    go_enter Try.func3, Try.ntmps3
    go_wp2
    go_ret
    exact ⟨rfl, Below.refl _ _⟩
  go_enter Try.func3, Try.ntmps3
  go_wp2_with fail
  refine (s_DrawValidModel f0 l0 hb).mono ?_
  rintro e w1 ⟨a1, c1, m, rfl, hG, b1⟩
  have hm := hG.ri
  have hl15 := hG.lp.1
  have hcap := hG.cap
  have z1 := b1.size
  clear hG f0
  go_wp2_with fail
  refine (i_ValidModel hm (by omega)).mono ?_
  rintro e w2 ⟨rfl, d2⟩
  have z2 := Dr.le d2
  have hm := hm.dr d2
  have B2 := b1.trans (Dr.below d2 _)
  go_wp2_with fail
  refine (s_ValidModel hm (by omega)).mono ?_
  rintro e w3 ⟨rfl, d3⟩
  have z3 := Dr.le d3
  have hm := hm.dr d3
  have B3 := B2.trans (Dr.below d3 _)
  clear B2 b1 d2 d3
  cases hok : okM m
  · have HOK := Lib.hid hok; clear hok
    go_wp2_with fail
    refine (s_ValidModel hm (by omega)).mono ?_
    rintro e w4 ⟨rfl, d4⟩
    rw [HOK.out]
    go_wp2
    go_ret
    exact ⟨rfl, B3.trans (Dr.below d4 _)⟩
  have hm5 := okM_len hok
  have HOK := Lib.hid hok; clear hok
  have HLEN := Lib.hid (len_apL HOK.out)
  go_wp2_with fail
  refine (i_AllTests hm (by omega) (by omega)).mono ?_
  rintro e w4 ⟨a4, c4, rfl, h4, b4⟩
  have z4 := b4.size
  have hm := hm.below b4 (by omega)
  have B4 := B3.trans (b4.mono (by omega))
  clear h4 b4 B3
  go_wp2_with fail
  refine (l_product HOK.out hm (by omega) (by omega)).mono ?_
  rintro e w5 ⟨rfl, d5⟩
  have z5 := Dr.le d5
  have hm := hm.dr d5
  have B5 := B4.trans (Dr.below d5 _)
  clear B4 d5
  rw [← HLEN.out]
  have hself : ((((apL m m.length).length : Nat) : Int) == ((apL m m.length).length : Nat)) = true := by simp
  by_cases h1 : m.length = 1
  · have h1' : ((m.length : Int) == 1) = true := by rw [h1]; rfl
    go_wp2
    go_ret
    exact ⟨rfl, B5⟩
  have h1' : ((m.length : Int) == 1) = false := by rw [beq_eq_false_iff_ne]; omega
  obtain ⟨ad, ha⟩ : ∃ ad, a1 = some ad := by obtain ⟨b, o, e, _⟩ := hm 0 (by omega); exact ⟨_, e⟩
  obtain ⟨b, o, x, ha2, _⟩ := hm.at (show 0 < m.length by omega)
  have hmt := hm.take (m.length - 1)
  have hokt := okM_take HOK.out (by omega)
  have hlt : (m.take (m.length - 1)).length = m.length - 1 := by simp
  obtain ⟨mt, hmte⟩ : ∃ x, m.take (m.length - 1) = x := ⟨_, rfl⟩
  rw [hmte] at hmt hokt hlt
  have HOKT := Lib.hid hokt
  have hsl := fun wx => sliceTo (b := b) (o := o) (n := m.length) (c := c1) (k := mt.length) (z := (m.length : Int) - 1) (by omega) (by omega) wx
  have hlt2 : mt.length ≤ 15 := by omega
  subst ha2
  clear ha hlt hmte hokt
  go_wp2_with fail
  refine (i_ValidModel hmt (by omega)).mono ?_
  rintro e w6 ⟨rfl, d6⟩
  rw [HOKT.out]
  go_wp2
  go_ret
  exact ⟨rfl, B5.trans (Dr.below d6 _)⟩

end Go.Proofs.Ytmmebcjebphfcaa
