/- The walk of FnCoverageOf: it returns true and writes nothing that was there. -/
import Derived.Test.YtmmebcjebphfcaaLFnMissingOf
namespace Go.Proofs.Ytmmebcjebphfcaa
open Go.RowKit

theorem cov_len {m : List Int} {s : List (List Int)} {t : Int} (h : okC m s t = true) : covB m s t = (apL m t).length ∧ covA m s t + (moL m s t).length = covB m s t ∧ 0 ≤ covA m s t := by
  have hp := okC_parts h
  have h1 := cov_yes h
  rw [h1.1, h1.2, ap_yes hp.1 (inR_true.2 hp.2.1), mo_yes h]
  have h2 : (misL m s t).length ≤ (patS m [] t).length := List.length_filter_le _ _
  omega
theorem cov_b {m : List Int} {s : List (List Int)} {t : Int} : -1 ≤ covA m s t ∧ covA m s t ≤ 1024 ∧ -1 ≤ covB m s t ∧ covB m s t ≤ 1024 := by
  cases h : okC m s t
  · rw [(cov_no h).1, (cov_no h).2]; omega
  · have h1 := cov_len h
    have h2 := @apL_len m t
    omega

set_option maxRecDepth 100000 in
set_option maxHeartbeats 2000000 in
theorem law_FnCoverageOf {m0 : Nat} {a0 : Option Addr} {c0 : Nat} {w : World} (f0 : RB w w.heap.size a0 m0) (l0 : m0 ≤ c0) :
    Calls Try.prog 12 #[.slice a0 m0 c0] w (Tru w) := by
  by_cases hb : m0 ≤ 1048576
  case neg =>
    go_enter Try.func12, Try.ntmps12
    go_wp2
    go_ret
    exact ⟨rfl, Below.refl _ _⟩
  go_enter Try.func12, Try.ntmps12
  go_wp2_with fail
  refine (s_DrawCoverageOf f0 l0 hb).mono ?_
  rintro e w1 ⟨a1, c1, m, a2, c2, s, t, rfl, ⟨hG, hS, ht0, ht1⟩, B1⟩
  have z1 := B1.size
  have hm := hG.ri
  have hs := hS.ric
  have hl10 := hG.lp.1
  have hsl := hS.sq.1
  have scap := hS.ric.cap
  have HSR : Hid (∀ r ∈ s, r.length ≤ 12) := fun r h => (hS.sq.2 r h).1
  have HSG : Hid (∀ r ∈ s, r.length ≤ 9223372036854775807) := fun r h => by have := (hS.sq.2 r h).1; omega
  clear hG hS
  clear f0
  obtain ⟨ca, hca⟩ : ∃ x, covA m s t = x := ⟨_, rfl⟩
  obtain ⟨cb, hcb⟩ : ∃ x, covB m s t = x := ⟨_, rfl⟩
  have HA := Lib.hid hca
  have HB := Lib.hid hcb
  have hcov := @cov_b m s t
  rw [hca, hcb] at hcov
  clear hca hcb
  have hna : (ca != ca) = false := bne_self_eq_false _
  have hnb : (cb != cb) = false := bne_self_eq_false _
  have hea : (ca == ca) = true := beq_self_eq_true _
  have heb : (cb == cb) = true := beq_self_eq_true _
  cases hok : (okM m && okS m s)
  · skip
    have HC : Hid (okC m s t = false) := okC_no (.inl hok)
    have HV := Lib.hid hok; clear hok
    go_wp2_with fail
    refine (i_CoverageOf hm (by omega) hs.rii (by omega) HSG.out (by omega) (by omega) (by omega) (by omega)).mono ?_
    rintro e w2 ⟨rfl, b2⟩
    have z2 := b2.size
    have hm := hm.below b2 (by omega)
    have hs := hs.below b2 (by omega)
    have B2 := B1.trans (b2.mono (by omega))
    clear b2 B1
    rw [HA.out, HB.out]
    go_wp2_with fail
    refine (s_CoverageOf hm (by omega) hs.rii (by omega) HSG.out (by omega) (by omega) (by omega) (by omega)).mono ?_
    rintro e w3 ⟨rfl, b3⟩
    have z3 := b3.size
    have hm := hm.below b3 (by omega)
    have hs := hs.below b3 (by omega)
    have B3 := B2.trans (b3.mono (by omega))
    clear b3 B2
    rw [HA.out, HB.out]
    go_wp2_with fail
    refine (i_ValidSuite hm (by omega) hs.rii (by omega) HSG.out).mono ?_
    rintro e w4 ⟨rfl, d4⟩
    have b4 := Dr.below d4 w3.heap.size
    have z4 := Dr.le d4
    clear d4
    have hm := hm.below b4 (by omega)
    have hs := hs.below b4 (by omega)
    have B4 := B3.trans (b4.mono (by omega))
    clear b4 B3
    rw [HV.out]
    go_wp2
    go_ret
    exact ⟨rfl, B4⟩
  have HV := Lib.hid hok
  by_cases hlo : t < 0
  · skip
    have HC : Hid (okC m s t = false) := okC_no (.inr (.inl hlo))
    clear hok
    go_wp2_with fail
    refine (i_CoverageOf hm (by omega) hs.rii (by omega) HSG.out (by omega) (by omega) (by omega) (by omega)).mono ?_
    rintro e w2 ⟨rfl, b2⟩
    have z2 := b2.size
    have hm := hm.below b2 (by omega)
    have hs := hs.below b2 (by omega)
    have B2 := B1.trans (b2.mono (by omega))
    clear b2 B1
    rw [HA.out, HB.out]
    go_wp2_with fail
    refine (s_CoverageOf hm (by omega) hs.rii (by omega) HSG.out (by omega) (by omega) (by omega) (by omega)).mono ?_
    rintro e w3 ⟨rfl, b3⟩
    have z3 := b3.size
    have hm := hm.below b3 (by omega)
    have hs := hs.below b3 (by omega)
    have B3 := B2.trans (b3.mono (by omega))
    clear b3 B2
    rw [HA.out, HB.out]
    go_wp2_with fail
    refine (i_ValidSuite hm (by omega) hs.rii (by omega) HSG.out).mono ?_
    rintro e w4 ⟨rfl, d4⟩
    have b4 := Dr.below d4 w3.heap.size
    have z4 := Dr.le d4
    clear d4
    have hm := hm.below b4 (by omega)
    have hs := hs.below b4 (by omega)
    have B4 := B3.trans (b4.mono (by omega))
    clear b4 B3
    rw [HV.out]
    go_wp2
    go_ret
    exact ⟨rfl, B4⟩
  by_cases hhi : (m.length : Int) < t
  · skip
    have HC : Hid (okC m s t = false) := okC_no (.inr (.inr hhi))
    clear hok
    go_wp2_with fail
    refine (i_CoverageOf hm (by omega) hs.rii (by omega) HSG.out (by omega) (by omega) (by omega) (by omega)).mono ?_
    rintro e w2 ⟨rfl, b2⟩
    have z2 := b2.size
    have hm := hm.below b2 (by omega)
    have hs := hs.below b2 (by omega)
    have B2 := B1.trans (b2.mono (by omega))
    clear b2 B1
    rw [HA.out, HB.out]
    go_wp2_with fail
    refine (s_CoverageOf hm (by omega) hs.rii (by omega) HSG.out (by omega) (by omega) (by omega) (by omega)).mono ?_
    rintro e w3 ⟨rfl, b3⟩
    have z3 := b3.size
    have hm := hm.below b3 (by omega)
    have hs := hs.below b3 (by omega)
    have B3 := B2.trans (b3.mono (by omega))
    clear b3 B2
    rw [HA.out, HB.out]
    go_wp2_with fail
    refine (i_ValidSuite hm (by omega) hs.rii (by omega) HSG.out).mono ?_
    rintro e w4 ⟨rfl, d4⟩
    have b4 := Dr.below d4 w3.heap.size
    have z4 := Dr.le d4
    clear d4
    have hm := hm.below b4 (by omega)
    have hs := hs.below b4 (by omega)
    have B4 := B3.trans (b4.mono (by omega))
    clear b4 B3
    rw [HV.out]
    go_wp2
    go_ret
    exact ⟨rfl, B4⟩
  have HC := Lib.hid (okC_mk hok hlo hhi)
  have HOK : Hid (okM m = true) := by show _ = _; rw [Bool.and_eq_true] at hok; exact hok.1
  have HOS : Hid (okS m s = true) := by show _ = _; rw [Bool.and_eq_true] at hok; exact hok.2
  have hm5 := okM_len HOK.out
  clear hok
  go_wp2_with fail
  refine (i_CoverageOf hm (by omega) hs.rii (by omega) HSG.out (by omega) (by omega) (by omega) (by omega)).mono ?_
  rintro e w2 ⟨rfl, b2⟩
  have z2 := b2.size
  have hm := hm.below b2 (by omega)
  have hs := hs.below b2 (by omega)
  have B2 := B1.trans (b2.mono (by omega))
  clear b2 B1
  rw [HA.out, HB.out]
  go_wp2_with fail
  refine (s_CoverageOf hm (by omega) hs.rii (by omega) HSG.out (by omega) (by omega) (by omega) (by omega)).mono ?_
  rintro e w3 ⟨rfl, b3⟩
  have z3 := b3.size
  have hm := hm.below b3 (by omega)
  have hs := hs.below b3 (by omega)
  have B3 := B2.trans (b3.mono (by omega))
  clear b3 B2
  rw [HA.out, HB.out]
  go_wp2_with fail
  refine (i_ValidSuite hm (by omega) hs.rii (by omega) HSG.out).mono ?_
  rintro e w4 ⟨rfl, d4⟩
  have b4 := Dr.below d4 w3.heap.size
  have z4 := Dr.le d4
  clear d4
  have hm := hm.below b4 (by omega)
  have hs := hs.below b4 (by omega)
  have B4 := B3.trans (b4.mono (by omega))
  clear b4 B3
  rw [HV.out]
  have HCL := Lib.hid (cov_len HC.out)
  obtain ⟨ap, hap⟩ : ∃ x, apL m t = x := ⟨_, rfl⟩
  obtain ⟨mo, hmo⟩ : ∃ x, moL m s t = x := ⟨_, rfl⟩
  have HAP := Lib.hid hap
  have HMO := Lib.hid hmo
  have hl1 := @apL_len m t
  have hl2 := @moL_len m s t
  rw [hap] at hl1
  rw [hmo] at hl2
  have hc1 := HCL.out
  rw [hap, hmo, HA.out, HB.out] at hc1
  clear hap hmo
  have e1 : (cb == (ap.length : Int)) = true := by rw [beq_iff_eq]; omega
  have e2 : (ca + (mo.length : Int) == cb) = true := by rw [beq_iff_eq]; omega
  have e3 : 0 ≤ ca := hc1.2.2
  clear hc1
  go_wp2_with fail
  refine (i_AllPatterns hm (by omega) (by omega) (by omega) (by omega)).mono ?_
  rintro e w5 ⟨Pa, Pc, rfl, P, b5⟩
  have z5 := b5.size
  have hm := hm.below b5 (by omega)
  have hs := hs.below b5 (by omega)
  have B5 := B4.trans (b5.mono (by omega))
  clear b5 B4
  rw [HAP.out]
  go_wp2_with fail
  refine (i_MissingOf hm (by omega) hs.rii (by omega) HSG.out (by omega) (by omega) (by omega) (by omega)).mono ?_
  rintro e w6 ⟨Qa, Qc, rfl, Q, b6⟩
  have z6 := b6.size
  have hm := hm.below b6 (by omega)
  have hs := hs.below b6 (by omega)
  have B6 := B5.trans (b6.mono (by omega))
  clear b6 B5
  rw [HMO.out]
  go_wp2
  go_ret
  exact ⟨rfl, B6⟩

end Go.Proofs.Ytmmebcjebphfcaa
