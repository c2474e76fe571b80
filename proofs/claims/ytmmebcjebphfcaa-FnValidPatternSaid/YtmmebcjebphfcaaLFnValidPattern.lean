/- The walk of FnValidPattern: it returns true and writes nothing that was there. -/
import Derived.Test.YtmmebcjebphfcaaLFnValidTest
namespace Go.Proofs.Ytmmebcjebphfcaa
open Go.RowKit

theorem has_pat {m p : List Int} (h : okM m = true) (h' : okP m p = true) : hasL (apL m (strN p)) p = true := by
  have h1 := strN_le p
  have h2 := okW_len h'
  rw [hasL_iff, ap_yes h (inR_true.2 (by omega)), mem_patS h]
  exact ⟨h', rfl⟩

set_option maxRecDepth 100000 in
set_option maxHeartbeats 2000000 in
theorem law_FnValidPattern {m0 : Nat} {a0 : Option Addr} {c0 : Nat} {w : World} (f0 : RB w w.heap.size a0 m0) (l0 : m0 ≤ c0) :
    Calls Try.prog 5 #[.slice a0 m0 c0] w (Tru w) := by
  by_cases hb : m0 ≤ 1048576
  case neg =>
    go_enter Try.func5, Try.ntmps5
    go_wp2
    go_ret
    exact ⟨rfl, Below.refl _ _⟩
  go_enter Try.func5, Try.ntmps5
  go_wp2_with fail
  refine (s_DrawValidPattern f0 l0 hb).mono ?_
  rintro e w1 ⟨a1, c1, m, a2, c2, t, rfl, ⟨hG, hT⟩, B1⟩
  have z1 := B1.size
  have hm := hG.ri
  have ht := hT.ri
  have hl10 := hG.lp.1
  have tl11 := hT.lp.1
  have hcap := hG.cap
  have tcap := hT.cap
  clear hG hT
  clear f0
  cases hok : (okM m && okP m t)
  · skip
    have HV := Lib.hid hok; clear hok
    go_wp2_with fail
    refine (i_ValidPattern hm (by omega) ht (by omega)).mono ?_
    rintro e w2 ⟨rfl, d2⟩
    have b2 := Dr.below d2 w1.heap.size
    have z2 := Dr.le d2
    clear d2
    have hm := hm.below b2 (by omega)
    have ht := ht.below b2 (by omega)
    have B2 := B1.trans (b2.mono (by omega))
    clear b2 B1
    rw [HV.out]
    go_wp2_with fail
    refine (s_ValidPattern hm (by omega) ht (by omega)).mono ?_
    rintro e w3 ⟨rfl, d3⟩
    have b3 := Dr.below d3 w2.heap.size
    have z3 := Dr.le d3
    clear d3
    have hm := hm.below b3 (by omega)
    have ht := ht.below b3 (by omega)
    have B3 := B2.trans (b3.mono (by omega))
    clear b3 B2
    rw [HV.out]
    go_wp2_with fail
    refine (s_ValidPattern hm (by omega) ht (by omega)).mono ?_
    rintro e w4 ⟨rfl, d4⟩
    have b4 := Dr.below d4 w3.heap.size
    have z4 := Dr.le d4
    clear d4
    have hm := hm.below b4 (by omega)
    have ht := ht.below b4 (by omega)
    have B4 := B3.trans (b4.mono (by omega))
    clear b4 B3
    rw [HV.out]
    go_wp2
    go_ret
    exact ⟨rfl, B4⟩
  have h2 : okM m = true ∧ okP m t = true := by simpa using hok
  have HS := Lib.hid (strV_yes h2.1 h2.2)
  have HHAS := Lib.hid (has_pat h2.1 h2.2)
  have hsn : strN t ≤ m.length := by have := strN_le t; have := okW_len h2.2; omega
  have HV := Lib.hid hok; clear hok h2
  obtain ⟨q, hq⟩ : ∃ q, strN t = q := ⟨_, rfl⟩
  have HQ := Lib.hid hq
  rw [hq] at hsn
  clear hq
  have HLN := @apL_len m (q : Int)
  have HGR := Lib.hid (@apL_g m (q : Int))
  have hq0 : 0 ≤ (q : Int) := by omega
  go_wp2_with fail
  refine (i_ValidPattern hm (by omega) ht (by omega)).mono ?_
  rintro e w2 ⟨rfl, d2⟩
  have b2 := Dr.below d2 w1.heap.size
  have z2 := Dr.le d2
  clear d2
  have hm := hm.below b2 (by omega)
  have ht := ht.below b2 (by omega)
  have B2 := B1.trans (b2.mono (by omega))
  clear b2 B1
  rw [HV.out]
  go_wp2_with fail
  refine (s_ValidPattern hm (by omega) ht (by omega)).mono ?_
  rintro e w3 ⟨rfl, d3⟩
  have b3 := Dr.below d3 w2.heap.size
  have z3 := Dr.le d3
  clear d3
  have hm := hm.below b3 (by omega)
  have ht := ht.below b3 (by omega)
  have B3 := B2.trans (b3.mono (by omega))
  clear b3 B2
  rw [HV.out]
  go_wp2_with fail
  refine (i_StrengthOf hm (by omega) ht (by omega)).mono ?_
  rintro e w4 ⟨rfl, d4⟩
  have b4 := Dr.below d4 w3.heap.size
  have z4 := Dr.le d4
  clear d4
  have hm := hm.below b4 (by omega)
  have ht := ht.below b4 (by omega)
  have B4 := B3.trans (b4.mono (by omega))
  clear b4 B3
  rw [HS.out, HQ.out]
  go_wp2_with fail
  refine (i_AllPatterns hm (by omega) (by omega) (by omega) (by omega)).mono ?_
  rintro e w5 ⟨Aa, Ac, rfl, A, b5⟩
  have z5 := b5.size
  have hm := hm.below b5 (by omega)
  have ht := ht.below b5 (by omega)
  have B5 := B4.trans (b5.mono (by omega))
  clear b5 B4
  go_wp2_with fail
  refine (l_holdsList A.rii ht (by omega) (by omega) HGR.out).mono ?_
  rintro e w6 ⟨rfl, d6⟩
  have b6 := Dr.below d6 w5.heap.size
  have z6 := Dr.le d6
  clear d6
  have hm := hm.below b6 (by omega)
  have ht := ht.below b6 (by omega)
  have A := A.below b6 (by omega)
  have B6 := B5.trans (b6.mono (by omega))
  clear b6 B5
  rw [← HQ.out, HHAS.out]
  go_wp2
  go_ret
  exact ⟨rfl, B6⟩

end Go.Proofs.Ytmmebcjebphfcaa
