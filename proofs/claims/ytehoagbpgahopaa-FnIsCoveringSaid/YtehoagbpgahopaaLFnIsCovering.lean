/- The walk of FnIsCovering: it returns true and writes nothing that was there. -/
import Derived.Test.YtehoagbpgahopaaRl
import Derived.Test.YtehoagbpgahopaaRo
import Derived.Test.YtehoagbpgahopaaYb
import Derived.Test.YtehoagbpgahopaaNn
import Derived.Test.YtehoagbpgahopaaNb
import Derived.Test.YtehoagbpgahopaaNl
namespace Go.Proofs.Ytehoagbpgahopaa
open Go.RowKit

theorem s_DrawIsCovering {n : Nat} {a : Option Addr} {c : Nat} {w : World} (hm : RB w w.heap.size a n) (hc : n ≤ c) (hl : n ≤ 1048576) :
    Calls Try.prog 46 #[.slice a n c] w (DrS w) := by
  go_enter Try.func46, Try.ntmps46
  go_wp2_with fail
  refine (s_DrawMissingOf hm hc hl).mono ?_
  rintro e w1 ⟨a1, c1, m, a2, c2, s, t, rfl, h⟩
  go_wp2
  go_ret3
  exact ⟨_, _, m, _, _, s, t, rfl, h⟩
theorem ic_mo {m : List Int} {s : List (List Int)} {t : Int} (h : okC m s t = true) : icB m s t = (((moL m s t).length : Int) == 0) := by rw [ic_yes h, mo_yes h]
theorem ic_down {m : List Int} {s : List (List Int)} {t : Int} (h : icB m s t = true) (ht : 0 < t) : icB m s (t - 1) = true := by
  rw [← ia_none] at h ⊢
  exact ia_mono h ht
theorem ic_least {m : List Int} {s : List (List Int)} {t : Int} (h : icB m s t = true) : ltV m t ≤ (s.length : Int) := by
  have hc : okC m s t = true := by
    cases hc : okC m s t
    · rw [ic_no hc] at h; cases h
    · rfl
  have hp := okC_parts hc
  rw [ic_yes hc] at h
  have h0 : (misL m s t).length = 0 := by simpa using h
  have hs : okS m s = true := by unfold okC at hc; simp only [Bool.and_eq_true] at hc; exact hc.1.2
  exact lt_le hp.1 (fun r hr => okS_all hs hr) hp.2.1.1 hp.2.1.2 (List.length_eq_zero_iff.1 h0)

set_option maxRecDepth 100000 in
set_option maxHeartbeats 2000000 in
theorem law_FnIsCovering {m0 : Nat} {a0 : Option Addr} {c0 : Nat} {w : World} (f0 : RB w w.heap.size a0 m0) (l0 : m0 ≤ c0) :
    Calls Try.prog 7 #[.slice a0 m0 c0] w (Tru w) := by
  by_cases hb : m0 ≤ 1048576
  case neg =>
    go_enter Try.func7, Try.ntmps7
    go_wp2
    go_ret
    exact ⟨rfl, Below.refl _ _⟩
  go_enter Try.func7, Try.ntmps7
  go_wp2_with fail
  refine (s_DrawIsCovering f0 l0 hb).mono ?_
  rintro e w1 ⟨a1, c1, m, a2, c2, s, t, rfl, ⟨hG, hS, ht0, ht1⟩, B1⟩
  have z1 := B1.size
  have hm := hG.ri
  have hs := hS.ric
  have hl10 := hG.lp.1
  have hsl := hS.sq.1
  have scap := hS.ric.cap
  have HSR : Hid (∀ r ∈ s, r.length ≤ 12) := fun r h => (hS.sq.2 r h).1
  have HSG : Hid (∀ r ∈ s, r.length ≤ 9223372036854775807) := fun r h => by have := (hS.sq.2 r h).1; omega
  clear hG hS
  clear f0
  cases hok : (okM m && okS m s)
  · skip
    have HIC : Hid (icB m s t = false) := ic_no (okC_no (.inl hok))
    have HV := Lib.hid hok; clear hok
    go_wp2_with fail
    refine (i_IsCovering hm (by omega) hs.rii (by omega) HSG.out (by omega) (by omega) (by omega) (by omega)).mono ?_
    rintro e w2 ⟨rfl, b2⟩
    have z2 := b2.size
    have hm := hm.below b2 (by omega)
    have hs := hs.below b2 (by omega)
    have B2 := B1.trans (b2.mono (by omega))
    clear b2 B1
    rw [HIC.out]
    go_wp2_with fail
    refine (s_IsCovering hm (by omega) hs.rii (by omega) HSG.out (by omega) (by omega) (by omega) (by omega)).mono ?_
    rintro e w3 ⟨rfl, b3⟩
    have z3 := b3.size
    have hm := hm.below b3 (by omega)
    have hs := hs.below b3 (by omega)
    have B3 := B2.trans (b3.mono (by omega))
    clear b3 B2
    rw [HIC.out]
    go_wp2_with fail
    refine (i_ValidSuite hm (by omega) hs.rii (by omega) HSG.out).mono ?_
    rintro e w4 ⟨rfl, d4⟩
    have b4 := Dr.below d4 w3.heap.size
    have z4 := Dr.le d4
    clear d4
    have hm := hm.below b4 (by omega)
    have hs := hs.below b4 (by omega)
    have B4 := B3.trans (b4.mono (by omega))
    clear b4 B3
    rw [HV.out]
    go_wp2_with fail
    refine (s_IsCovering hm (by omega) hs.rii (by omega) HSG.out (by omega) (by omega) (by omega) (by omega)).mono ?_
    rintro e w5 ⟨rfl, b5⟩
    have z5 := b5.size
    have hm := hm.below b5 (by omega)
    have hs := hs.below b5 (by omega)
    have B5 := B4.trans (b5.mono (by omega))
    clear b5 B4
    rw [HIC.out]
    go_wp2
    go_ret
    exact ⟨rfl, B5⟩
  have HV := Lib.hid hok; clear hok
  by_cases hlo : t < 0
  · skip
    have HIC : Hid (icB m s t = false) := ic_no (okC_no (.inr (.inl hlo)))
    go_wp2_with fail
    refine (i_IsCovering hm (by omega) hs.rii (by omega) HSG.out (by omega) (by omega) (by omega) (by omega)).mono ?_
    rintro e w2 ⟨rfl, b2⟩
    have z2 := b2.size
    have hm := hm.below b2 (by omega)
    have hs := hs.below b2 (by omega)
    have B2 := B1.trans (b2.mono (by omega))
    clear b2 B1
    rw [HIC.out]
    go_wp2_with fail
    refine (s_IsCovering hm (by omega) hs.rii (by omega) HSG.out (by omega) (by omega) (by omega) (by omega)).mono ?_
    rintro e w3 ⟨rfl, b3⟩
    have z3 := b3.size
    have hm := hm.below b3 (by omega)
    have hs := hs.below b3 (by omega)
    have B3 := B2.trans (b3.mono (by omega))
    clear b3 B2
    rw [HIC.out]
    go_wp2_with fail
    refine (i_ValidSuite hm (by omega) hs.rii (by omega) HSG.out).mono ?_
    rintro e w4 ⟨rfl, d4⟩
    have b4 := Dr.below d4 w3.heap.size
    have z4 := Dr.le d4
    clear d4
    have hm := hm.below b4 (by omega)
    have hs := hs.below b4 (by omega)
    have B4 := B3.trans (b4.mono (by omega))
    clear b4 B3
    rw [HV.out]
    go_wp2_with fail
    refine (s_IsCovering hm (by omega) hs.rii (by omega) HSG.out (by omega) (by omega) (by omega) (by omega)).mono ?_
    rintro e w5 ⟨rfl, b5⟩
    have z5 := b5.size
    have hm := hm.below b5 (by omega)
    have hs := hs.below b5 (by omega)
    have B5 := B4.trans (b5.mono (by omega))
    clear b5 B4
    rw [HIC.out]
    go_wp2
    go_ret
    exact ⟨rfl, B5⟩
  have hlo1 := hlo; clear hlo
  by_cases hlo : (m.length : Int) < t
  · skip
    have HIC : Hid (icB m s t = false) := ic_no (okC_no (.inr (.inr hlo)))
    go_wp2_with fail
    refine (i_IsCovering hm (by omega) hs.rii (by omega) HSG.out (by omega) (by omega) (by omega) (by omega)).mono ?_
    rintro e w2 ⟨rfl, b2⟩
    have z2 := b2.size
    have hm := hm.below b2 (by omega)
    have hs := hs.below b2 (by omega)
    have B2 := B1.trans (b2.mono (by omega))
    clear b2 B1
    rw [HIC.out]
    go_wp2_with fail
    refine (s_IsCovering hm (by omega) hs.rii (by omega) HSG.out (by omega) (by omega) (by omega) (by omega)).mono ?_
    rintro e w3 ⟨rfl, b3⟩
    have z3 := b3.size
    have hm := hm.below b3 (by omega)
    have hs := hs.below b3 (by omega)
    have B3 := B2.trans (b3.mono (by omega))
    clear b3 B2
    rw [HIC.out]
    go_wp2_with fail
    refine (i_ValidSuite hm (by omega) hs.rii (by omega) HSG.out).mono ?_
    rintro e w4 ⟨rfl, d4⟩
    have b4 := Dr.below d4 w3.heap.size
    have z4 := Dr.le d4
    clear d4
    have hm := hm.below b4 (by omega)
    have hs := hs.below b4 (by omega)
    have B4 := B3.trans (b4.mono (by omega))
    clear b4 B3
    rw [HV.out]
    go_wp2_with fail
    refine (s_IsCovering hm (by omega) hs.rii (by omega) HSG.out (by omega) (by omega) (by omega) (by omega)).mono ?_
    rintro e w5 ⟨rfl, b5⟩
    have z5 := b5.size
    have hm := hm.below b5 (by omega)
    have hs := hs.below b5 (by omega)
    have B5 := B4.trans (b5.mono (by omega))
    clear b5 B4
    rw [HIC.out]
    go_wp2
    go_ret
    exact ⟨rfl, B5⟩
  have hlo2 := hlo; clear hlo
  have hC : okC m s t = true := by unfold okC; rw [HV.out, inR_true.2 (by omega)]; rfl
  have HMO := Lib.hid (ic_mo hC)
  have hbm := @moL_len m s t
  clear hC
  obtain ⟨L, hL⟩ : ∃ L, moL m s t = L := ⟨_, rfl⟩
  have HL := Lib.hid hL
  rw [hL] at HMO hbm
  clear hL
  cases hb : icB m s t
  · skip
    have HIC := Lib.hid hb; clear hb
    rw [HIC.out] at HMO
    have hz : (((L.length : Int)) == 0) = false := HMO.out.symm
    go_wp2_with fail
    refine (i_IsCovering hm (by omega) hs.rii (by omega) HSG.out (by omega) (by omega) (by omega) (by omega)).mono ?_
    rintro e w2 ⟨rfl, b2⟩
    have z2 := b2.size
    have hm := hm.below b2 (by omega)
    have hs := hs.below b2 (by omega)
    have B2 := B1.trans (b2.mono (by omega))
    clear b2 B1
    rw [HIC.out]
    go_wp2_with fail
    refine (s_IsCovering hm (by omega) hs.rii (by omega) HSG.out (by omega) (by omega) (by omega) (by omega)).mono ?_
    rintro e w3 ⟨rfl, b3⟩
    have z3 := b3.size
    have hm := hm.below b3 (by omega)
    have hs := hs.below b3 (by omega)
    have B3 := B2.trans (b3.mono (by omega))
    clear b3 B2
    rw [HIC.out]
    go_wp2_with fail
    refine (i_ValidSuite hm (by omega) hs.rii (by omega) HSG.out).mono ?_
    rintro e w4 ⟨rfl, d4⟩
    have b4 := Dr.below d4 w3.heap.size
    have z4 := Dr.le d4
    clear d4
    have hm := hm.below b4 (by omega)
    have hs := hs.below b4 (by omega)
    have B4 := B3.trans (b4.mono (by omega))
    clear b4 B3
    rw [HV.out]
    go_wp2_with fail
    refine (i_MissingOf hm (by omega) hs.rii (by omega) HSG.out (by omega) (by omega) (by omega) (by omega)).mono ?_
    rintro e w5 ⟨Aa, Ac, rfl, A, b5⟩
    have z5 := b5.size
    have hm := hm.below b5 (by omega)
    have hs := hs.below b5 (by omega)
    have B5 := B4.trans (b5.mono (by omega))
    clear b5 B4 A
    rw [HL.out]
    go_wp2
    go_ret
    exact ⟨rfl, B5⟩
  have HIC := Lib.hid hb
  have HLT := Lib.hid (ic_least hb)
  have HDN : Hid (0 < t → icB m s (t - 1) = true) := fun h => ic_down hb h
  clear hb
  rw [HIC.out] at HMO
  have hz : (((L.length : Int)) == 0) = true := HMO.out.symm
  obtain ⟨v, hv⟩ : ∃ v, ltV m t = v := ⟨_, rfl⟩
  have HLV := Lib.hid hv
  rw [hv] at HLT
  have hge : decide (v ≤ (s.length : Int)) = true := decide_eq_true HLT.out
  clear hv
  go_wp2_with fail
  refine (i_IsCovering hm (by omega) hs.rii (by omega) HSG.out (by omega) (by omega) (by omega) (by omega)).mono ?_
  rintro e w2 ⟨rfl, b2⟩
  have z2 := b2.size
  have hm := hm.below b2 (by omega)
  have hs := hs.below b2 (by omega)
  have B2 := B1.trans (b2.mono (by omega))
  clear b2 B1
  rw [HIC.out]
  go_wp2_with fail
  refine (s_IsCovering hm (by omega) hs.rii (by omega) HSG.out (by omega) (by omega) (by omega) (by omega)).mono ?_
  rintro e w3 ⟨rfl, b3⟩
  have z3 := b3.size
  have hm := hm.below b3 (by omega)
  have hs := hs.below b3 (by omega)
  have B3 := B2.trans (b3.mono (by omega))
  clear b3 B2
  rw [HIC.out]
  go_wp2_with fail
  refine (i_ValidSuite hm (by omega) hs.rii (by omega) HSG.out).mono ?_
  rintro e w4 ⟨rfl, d4⟩
  have b4 := Dr.below d4 w3.heap.size
  have z4 := Dr.le d4
  clear d4
  have hm := hm.below b4 (by omega)
  have hs := hs.below b4 (by omega)
  have B4 := B3.trans (b4.mono (by omega))
  clear b4 B3
  rw [HV.out]
  go_wp2_with fail
  refine (i_MissingOf hm (by omega) hs.rii (by omega) HSG.out (by omega) (by omega) (by omega) (by omega)).mono ?_
  rintro e w5 ⟨Aa, Ac, rfl, A, b5⟩
  have z5 := b5.size
  have hm := hm.below b5 (by omega)
  have hs := hs.below b5 (by omega)
  have B5 := B4.trans (b5.mono (by omega))
  clear b5 B4 A
  rw [HL.out]
  go_wp2_with fail
  refine (i_LeastTests hm (by omega) (by omega) (by omega) (by omega)).mono ?_
  rintro e w6 ⟨rfl, b6⟩
  have z6 := b6.size
  have hm := hm.below b6 (by omega)
  have hs := hs.below b6 (by omega)
  have B6 := B5.trans (b6.mono (by omega))
  clear b6 B5
  rw [HLV.out]
  by_cases ht : t = 0
  · skip
    have hteq : (t == 0) = true := by simpa using ht
    clear ht
    go_wp2
    go_ret
    exact ⟨rfl, B6⟩
  have hteq : (t == 0) = false := by simpa using ht
  have HD2 := Lib.hid (HDN.out (by omega))
  have hw1 : IntKind.i64.wrap (t - 1) = t - 1 := by rw [IntWalk.i64_in _ (by omega)]
  clear ht
  go_wp2_with fail
  refine (i_IsCovering hm (by omega) hs.rii (by omega) HSG.out (by omega) (by omega) (by omega) (by omega)).mono ?_
  rintro e w7 ⟨rfl, b7⟩
  have z7 := b7.size
  have hm := hm.below b7 (by omega)
  have hs := hs.below b7 (by omega)
  have B7 := B6.trans (b7.mono (by omega))
  clear b7 B6
  rw [HD2.out]
  go_wp2
  go_ret
  exact ⟨rfl, B7⟩

end Go.Proofs.Ytehoagbpgahopaa
