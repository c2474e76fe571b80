/- The walk of FnValidTest: it returns true and writes nothing that was there. -/
import Derived.Test.YtmmebcjebphfcaaRj
namespace Go.Proofs.Ytmmebcjebphfcaa
open Go.RowKit

theorem has_full {m t : List Int} (h : okM m = true) : hasL (apL m m.length) t = okT m t := by
  have h5 := okM_len h
  rw [Bool.eq_iff_iff, hasL_iff, ap_yes h (inR_true.2 (by omega))]
  exact mem_full h
theorem strV_full {m t : List Int} (h : okM m = true) (h' : okT m t = true) : strV m t = m.length := by
  have h1 := okT_iff.1 h'
  rw [strV_yes h h1.1, h1.2, okW_len h']
theorem apL_g {m : List Int} {t : Int} : ∀ r ∈ apL m t, r.length ≤ 4611686018427387904 := fun r hr => by have := apL_row r hr; omega

set_option maxRecDepth 100000 in
set_option maxHeartbeats 2000000 in
theorem law_FnValidTest {m0 : Nat} {a0 : Option Addr} {c0 : Nat} {w : World} (f0 : RB w w.heap.size a0 m0) (l0 : m0 ≤ c0) :
    Calls Try.prog 4 #[.slice a0 m0 c0] w (Tru w) := by
  by_cases hb : m0 ≤ 1048576
  case neg =>
    go_enter Try.func4, Try.ntmps4
    go_wp2
    go_ret
    exact ⟨rfl, Below.refl _ _⟩
  go_enter Try.func4, Try.ntmps4
  go_wp2_with fail
  refine (s_DrawValidTest f0 l0 hb).mono ?_
  rintro e w1 ⟨a1, c1, m, a2, c2, t, rfl, ⟨hG, hT⟩, B1⟩
  have z1 := B1.size
  have hm := hG.ri
  have ht := hT.ri
  have hl10 := hG.lp.1
  have tl11 := hT.lp.1
  have hcap := hG.cap
  have tcap := hT.cap
  clear hG hT
  clear f0
  cases hok : okM m
  · skip
    have HV : Hid ((okM m && okT m t) = false) := by show _ = _; rw [hok]; rfl
    have HOK := Lib.hid hok; clear hok
    go_wp2_with fail
    refine (i_ValidTest hm (by omega) ht (by omega)).mono ?_
    rintro e w2 ⟨rfl, d2⟩
    have b2 := Dr.below d2 w1.heap.size
    have z2 := Dr.le d2
    clear d2
    have hm := hm.below b2 (by omega)
    have ht := ht.below b2 (by omega)
    have B2 := B1.trans (b2.mono (by omega))
    clear b2 B1
    rw [HV.out]
    go_wp2_with fail
    refine (s_ValidTest hm (by omega) ht (by omega)).mono ?_
    rintro e w3 ⟨rfl, d3⟩
    have b3 := Dr.below d3 w2.heap.size
    have z3 := Dr.le d3
    clear d3
    have hm := hm.below b3 (by omega)
    have ht := ht.below b3 (by omega)
    have B3 := B2.trans (b3.mono (by omega))
    clear b3 B2
    rw [HV.out]
    go_wp2_with fail
    refine (i_ValidModel hm (by omega)).mono ?_
    rintro e w4 ⟨rfl, d4⟩
    have b4 := Dr.below d4 w3.heap.size
    have z4 := Dr.le d4
    clear d4
    have hm := hm.below b4 (by omega)
    have ht := ht.below b4 (by omega)
    have B4 := B3.trans (b4.mono (by omega))
    clear b4 B3
    rw [HOK.out]
    go_wp2_with fail
    refine (s_ValidTest hm (by omega) ht (by omega)).mono ?_
    rintro e w5 ⟨rfl, d5⟩
    have b5 := Dr.below d5 w4.heap.size
    have z5 := Dr.le d5
    clear d5
    have hm := hm.below b5 (by omega)
    have ht := ht.below b5 (by omega)
    have B5 := B4.trans (b5.mono (by omega))
    clear b5 B4
    rw [HV.out]
    go_wp2
    go_ret
    exact ⟨rfl, B5⟩
  have hm5 := okM_len hok
  have HOK := Lib.hid hok; clear hok
  have HHAS := Lib.hid (has_full (t := t) HOK.out)
  have HLN := @apL_len m m.length
  have HGR := Lib.hid (@apL_g m m.length)
  cases hot : okT m t
  · skip
    have HV : Hid ((okM m && okT m t) = false) := by show _ = _; rw [hot]; simp
    have HT := Lib.hid hot; clear hot
    go_wp2_with fail
    refine (i_ValidTest hm (by omega) ht (by omega)).mono ?_
    rintro e w2 ⟨rfl, d2⟩
    have b2 := Dr.below d2 w1.heap.size
    have z2 := Dr.le d2
    clear d2
    have hm := hm.below b2 (by omega)
    have ht := ht.below b2 (by omega)
    have B2 := B1.trans (b2.mono (by omega))
    clear b2 B1
    rw [HV.out]
    go_wp2_with fail
    refine (s_ValidTest hm (by omega) ht (by omega)).mono ?_
    rintro e w3 ⟨rfl, d3⟩
    have b3 := Dr.below d3 w2.heap.size
    have z3 := Dr.le d3
    clear d3
    have hm := hm.below b3 (by omega)
    have ht := ht.below b3 (by omega)
    have B3 := B2.trans (b3.mono (by omega))
    clear b3 B2
    rw [HV.out]
    go_wp2_with fail
    refine (i_ValidModel hm (by omega)).mono ?_
    rintro e w4 ⟨rfl, d4⟩
    have b4 := Dr.below d4 w3.heap.size
    have z4 := Dr.le d4
    clear d4
    have hm := hm.below b4 (by omega)
    have ht := ht.below b4 (by omega)
    have B4 := B3.trans (b4.mono (by omega))
    clear b4 B3
    rw [HOK.out]
    go_wp2_with fail
    refine (i_AllTests hm (by omega) (by omega)).mono ?_
    rintro e w5 ⟨Aa, Ac, rfl, A, b5⟩
    have z5 := b5.size
    have hm := hm.below b5 (by omega)
    have ht := ht.below b5 (by omega)
    have B5 := B4.trans (b5.mono (by omega))
    clear b5 B4
    go_wp2_with fail
    refine (l_holdsList A.rii ht (by omega) (by omega) HGR.out).mono ?_
    rintro e w6 ⟨rfl, d6⟩
    have b6 := Dr.below d6 w5.heap.size
    have z6 := Dr.le d6
    clear d6
    have hm := hm.below b6 (by omega)
    have ht := ht.below b6 (by omega)
    have A := A.below b6 (by omega)
    have B6 := B5.trans (b6.mono (by omega))
    clear b6 B5
    rw [HHAS.out, HT.out]
    go_wp2
    go_ret
    exact ⟨rfl, B6⟩
  have HV : Hid ((okM m && okT m t) = true) := by show _ = _; rw [HOK.out, hot]; rfl
  have HT := Lib.hid hot; clear hot
  have HS := Lib.hid (strV_full HOK.out HT.out)
  have hself : ((m.length : Int) == (m.length : Int)) = true := by simp
  go_wp2_with fail
  refine (i_ValidTest hm (by omega) ht (by omega)).mono ?_
  rintro e w2 ⟨rfl, d2⟩
  have b2 := Dr.below d2 w1.heap.size
  have z2 := Dr.le d2
  clear d2
  have hm := hm.below b2 (by omega)
  have ht := ht.below b2 (by omega)
  have B2 := B1.trans (b2.mono (by omega))
  clear b2 B1
  rw [HV.out]
  go_wp2_with fail
  refine (s_ValidTest hm (by omega) ht (by omega)).mono ?_
  rintro e w3 ⟨rfl, d3⟩
  have b3 := Dr.below d3 w2.heap.size
  have z3 := Dr.le d3
  clear d3
  have hm := hm.below b3 (by omega)
  have ht := ht.below b3 (by omega)
  have B3 := B2.trans (b3.mono (by omega))
  clear b3 B2
  rw [HV.out]
  go_wp2_with fail
  refine (i_ValidModel hm (by omega)).mono ?_
  rintro e w4 ⟨rfl, d4⟩
  have b4 := Dr.below d4 w3.heap.size
  have z4 := Dr.le d4
  clear d4
  have hm := hm.below b4 (by omega)
  have ht := ht.below b4 (by omega)
  have B4 := B3.trans (b4.mono (by omega))
  clear b4 B3
  rw [HOK.out]
  go_wp2_with fail
  refine (i_AllTests hm (by omega) (by omega)).mono ?_
  rintro e w5 ⟨Aa, Ac, rfl, A, b5⟩
  have z5 := b5.size
  have hm := hm.below b5 (by omega)
  have ht := ht.below b5 (by omega)
  have B5 := B4.trans (b5.mono (by omega))
  clear b5 B4
  go_wp2_with fail
  refine (l_holdsList A.rii ht (by omega) (by omega) HGR.out).mono ?_
  rintro e w6 ⟨rfl, d6⟩
  have b6 := Dr.below d6 w5.heap.size
  have z6 := Dr.le d6
  clear d6
  have hm := hm.below b6 (by omega)
  have ht := ht.below b6 (by omega)
  have A := A.below b6 (by omega)
  have B6 := B5.trans (b6.mono (by omega))
  clear b6 B5
  rw [HHAS.out, HT.out]
  go_wp2_with fail
  refine (i_StrengthOf hm (by omega) ht (by omega)).mono ?_
  rintro e w7 ⟨rfl, d7⟩
  have b7 := Dr.below d7 w6.heap.size
  have z7 := Dr.le d7
  clear d7
  have hm := hm.below b7 (by omega)
  have ht := ht.below b7 (by omega)
  have A := A.below b7 (by omega)
  have B7 := B6.trans (b7.mono (by omega))
  clear b7 B6
  rw [HS.out]
  go_wp2
  go_ret
  exact ⟨rfl, B7⟩

end Go.Proofs.Ytmmebcjebphfcaa
