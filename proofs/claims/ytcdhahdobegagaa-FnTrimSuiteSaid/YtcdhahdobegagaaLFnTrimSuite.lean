/- The walk of FnTrimSuite: it returns true and writes nothing that was there. -/
import Derived.Test.YtcdhahdobegagaaRs
import Derived.Test.YtcdhahdobegagaaYk
namespace Go.Proofs.Ytcdhahdobegagaa
open Go.RowKit

theorem moL_g9 {m : List Int} {s : List (List Int)} {t : Int} : ∀ r ∈ moL m s t, r.length ≤ 4611686018427387904 := fun r hr => by have := moL_row r hr; omega
theorem okC_ok {m : List Int} {s : List (List Int)} {t : Int} (h : okC m s t = true) : (okM m && okS m s) = true := by
  unfold okC at h; rw [Bool.and_eq_true] at h; exact h.1

set_option maxRecDepth 100000 in
set_option maxHeartbeats 2000000 in
theorem law_FnTrimSuite {m0 : Nat} {a0 : Option Addr} {c0 : Nat} {w : World} (f0 : RB w w.heap.size a0 m0) (l0 : m0 ≤ c0) :
    Calls Try.prog 6 #[.slice a0 m0 c0] w (Tru w) := by
  by_cases hb : m0 ≤ 1048576
  case neg =>
    go_enter Try.func6, Try.ntmps6
    go_wp2
    go_ret
    exact ⟨rfl, Below.refl _ _⟩
  go_enter Try.func6, Try.ntmps6
  go_wp2_with fail
  refine (s_DrawTrimSuite f0 l0 hb).mono ?_
  rintro e w1 ⟨a1, c1, m, a2, c2, s, t, rfl, ⟨hG, hS, ht0, ht1⟩, B1⟩
  have z1 := B1.size
  have hm := hG.ri
  have hs := hS.ric
  have hl10 := hG.lp.1
  have hsl := hS.sq.1
  have scap := hS.ric.cap
  have HSR : Hid (∀ r ∈ s, r.length ≤ 12) := fun r h => (hS.sq.2 r h).1
  have HSG : Hid (∀ r ∈ s, r.length ≤ 9223372036854775807) := fun r h => by have := (hS.sq.2 r h).1; omega
  clear hG hS
  clear f0
  obtain ⟨L, hL⟩ : ∃ L, trL m s t = L := ⟨_, rfl⟩
  have HL := Lib.hid hL
  have HLN := @trL_len m s t
  have HGR := Lib.hid ((@trL_gr m s t).2)
  have heqL : eqII L L = true := eqII_true.2 rfl
  rw [hL] at HLN HGR
  clear hL
  cases hok : (okM m && okS m s)
  · skip
    have HC : Hid (okC m s t = false) := okC_no (.inl hok)
    have HV := Lib.hid hok; clear hok
    go_wp2_with fail
    refine (i_TrimSuite hm (by omega) hs.rii (by omega) HSG.out (by omega) (by omega) (by omega) (by omega) (by omega)).mono ?_
    rintro e w2 ⟨Aa, Ac, rfl, A, b2⟩
    have z2 := b2.size
    have hm := hm.below b2 (by omega)
    have hs := hs.below b2 (by omega)
    have B2 := B1.trans (b2.mono (by omega))
    clear b2 B1
    rw [HL.out] at A
    rw [HL.out]
    go_wp2_with fail
    refine (s_TrimSuite hm (by omega) hs.rii (by omega) HSG.out (by omega) (by omega) (by omega) (by omega)).mono ?_
    rintro e w3 ⟨Sa, Sc, rfl, S, b3⟩
    have z3 := b3.size
    have hm := hm.below b3 (by omega)
    have hs := hs.below b3 (by omega)
    have A := A.below b3 (by omega)
    have B3 := B2.trans (b3.mono (by omega))
    clear b3 B2
    rw [HL.out] at S
    rw [HL.out]
    go_wp2_with fail
    refine (l_equalLists A.rii S.rii (by omega) (by omega) HGR.out HGR.out).mono ?_
    rintro e w4 ⟨rfl, d4⟩
    have b4 := Dr.below d4 w3.heap.size
    have z4 := Dr.le d4
    clear d4
    have hm := hm.below b4 (by omega)
    have hs := hs.below b4 (by omega)
    have A := A.below b4 (by omega)
    have S := S.below b4 (by omega)
    have B4 := B3.trans (b4.mono (by omega))
    clear b4 B3
    rw [heqL]
    go_wp2_with fail
    refine (i_ValidSuite hm (by omega) hs.rii (by omega) HSG.out).mono ?_
    rintro e w5 ⟨rfl, d5⟩
    have b5 := Dr.below d5 w4.heap.size
    have z5 := Dr.le d5
    clear d5
    have hm := hm.below b5 (by omega)
    have hs := hs.below b5 (by omega)
    have A := A.below b5 (by omega)
    have B5 := B4.trans (b5.mono (by omega))
    clear b5 B4
    rw [HV.out]
    go_wp2_with fail
    refine (s_TrimSuite hm (by omega) hs.rii (by omega) HSG.out (by omega) (by omega) (by omega) (by omega)).mono ?_
    rintro e w6 ⟨Ta, Tc, rfl, T, b6⟩
    have z6 := b6.size
    have hm := hm.below b6 (by omega)
    have hs := hs.below b6 (by omega)
    have A := A.below b6 (by omega)
    have B6 := B5.trans (b6.mono (by omega))
    clear b6 B5
    rw [HL.out] at T
    rw [HL.out]
    go_wp2_with fail
    refine (l_equalLists A.rii T.rii (by omega) (by omega) HGR.out HGR.out).mono ?_
    rintro e w7 ⟨rfl, d7⟩
    have b7 := Dr.below d7 w6.heap.size
    have z7 := Dr.le d7
    clear d7
    have hm := hm.below b7 (by omega)
    have hs := hs.below b7 (by omega)
    have A := A.below b7 (by omega)
    have T := T.below b7 (by omega)
    have B7 := B6.trans (b7.mono (by omega))
    clear b7 B6
    rw [heqL]
    go_wp2
    go_ret
    exact ⟨rfl, B7⟩
  have HV := Lib.hid hok
  by_cases hlo : t < 0
  · skip
    have HC : Hid (okC m s t = false) := okC_no (.inr (.inl hlo))
    clear hok
    go_wp2_with fail
    refine (i_TrimSuite hm (by omega) hs.rii (by omega) HSG.out (by omega) (by omega) (by omega) (by omega) (by omega)).mono ?_
    rintro e w2 ⟨Aa, Ac, rfl, A, b2⟩
    have z2 := b2.size
    have hm := hm.below b2 (by omega)
    have hs := hs.below b2 (by omega)
    have B2 := B1.trans (b2.mono (by omega))
    clear b2 B1
    rw [HL.out] at A
    rw [HL.out]
    go_wp2_with fail
    refine (s_TrimSuite hm (by omega) hs.rii (by omega) HSG.out (by omega) (by omega) (by omega) (by omega)).mono ?_
    rintro e w3 ⟨Sa, Sc, rfl, S, b3⟩
    have z3 := b3.size
    have hm := hm.below b3 (by omega)
    have hs := hs.below b3 (by omega)
    have A := A.below b3 (by omega)
    have B3 := B2.trans (b3.mono (by omega))
    clear b3 B2
    rw [HL.out] at S
    rw [HL.out]
    go_wp2_with fail
    refine (l_equalLists A.rii S.rii (by omega) (by omega) HGR.out HGR.out).mono ?_
    rintro e w4 ⟨rfl, d4⟩
    have b4 := Dr.below d4 w3.heap.size
    have z4 := Dr.le d4
    clear d4
    have hm := hm.below b4 (by omega)
    have hs := hs.below b4 (by omega)
    have A := A.below b4 (by omega)
    have S := S.below b4 (by omega)
    have B4 := B3.trans (b4.mono (by omega))
    clear b4 B3
    rw [heqL]
    go_wp2_with fail
    refine (i_ValidSuite hm (by omega) hs.rii (by omega) HSG.out).mono ?_
    rintro e w5 ⟨rfl, d5⟩
    have b5 := Dr.below d5 w4.heap.size
    have z5 := Dr.le d5
    clear d5
    have hm := hm.below b5 (by omega)
    have hs := hs.below b5 (by omega)
    have A := A.below b5 (by omega)
    have B5 := B4.trans (b5.mono (by omega))
    clear b5 B4
    rw [HV.out]
    go_wp2_with fail
    refine (s_TrimSuite hm (by omega) hs.rii (by omega) HSG.out (by omega) (by omega) (by omega) (by omega)).mono ?_
    rintro e w6 ⟨Ta, Tc, rfl, T, b6⟩
    have z6 := b6.size
    have hm := hm.below b6 (by omega)
    have hs := hs.below b6 (by omega)
    have A := A.below b6 (by omega)
    have B6 := B5.trans (b6.mono (by omega))
    clear b6 B5
    rw [HL.out] at T
    rw [HL.out]
    go_wp2_with fail
    refine (l_equalLists A.rii T.rii (by omega) (by omega) HGR.out HGR.out).mono ?_
    rintro e w7 ⟨rfl, d7⟩
    have b7 := Dr.below d7 w6.heap.size
    have z7 := Dr.le d7
    clear d7
    have hm := hm.below b7 (by omega)
    have hs := hs.below b7 (by omega)
    have A := A.below b7 (by omega)
    have T := T.below b7 (by omega)
    have B7 := B6.trans (b7.mono (by omega))
    clear b7 B6
    rw [heqL]
    go_wp2
    go_ret
    exact ⟨rfl, B7⟩
  by_cases hhi : (m.length : Int) < t
  · skip
    have HC : Hid (okC m s t = false) := okC_no (.inr (.inr hhi))
    clear hok
    go_wp2_with fail
    refine (i_TrimSuite hm (by omega) hs.rii (by omega) HSG.out (by omega) (by omega) (by omega) (by omega) (by omega)).mono ?_
    rintro e w2 ⟨Aa, Ac, rfl, A, b2⟩
    have z2 := b2.size
    have hm := hm.below b2 (by omega)
    have hs := hs.below b2 (by omega)
    have B2 := B1.trans (b2.mono (by omega))
    clear b2 B1
    rw [HL.out] at A
    rw [HL.out]
    go_wp2_with fail
    refine (s_TrimSuite hm (by omega) hs.rii (by omega) HSG.out (by omega) (by omega) (by omega) (by omega)).mono ?_
    rintro e w3 ⟨Sa, Sc, rfl, S, b3⟩
    have z3 := b3.size
    have hm := hm.below b3 (by omega)
    have hs := hs.below b3 (by omega)
    have A := A.below b3 (by omega)
    have B3 := B2.trans (b3.mono (by omega))
    clear b3 B2
    rw [HL.out] at S
    rw [HL.out]
    go_wp2_with fail
    refine (l_equalLists A.rii S.rii (by omega) (by omega) HGR.out HGR.out).mono ?_
    rintro e w4 ⟨rfl, d4⟩
    have b4 := Dr.below d4 w3.heap.size
    have z4 := Dr.le d4
    clear d4
    have hm := hm.below b4 (by omega)
    have hs := hs.below b4 (by omega)
    have A := A.below b4 (by omega)
    have S := S.below b4 (by omega)
    have B4 := B3.trans (b4.mono (by omega))
    clear b4 B3
    rw [heqL]
    go_wp2_with fail
    refine (i_ValidSuite hm (by omega) hs.rii (by omega) HSG.out).mono ?_
    rintro e w5 ⟨rfl, d5⟩
    have b5 := Dr.below d5 w4.heap.size
    have z5 := Dr.le d5
    clear d5
    have hm := hm.below b5 (by omega)
    have hs := hs.below b5 (by omega)
    have A := A.below b5 (by omega)
    have B5 := B4.trans (b5.mono (by omega))
    clear b5 B4
    rw [HV.out]
    go_wp2_with fail
    refine (s_TrimSuite hm (by omega) hs.rii (by omega) HSG.out (by omega) (by omega) (by omega) (by omega)).mono ?_
    rintro e w6 ⟨Ta, Tc, rfl, T, b6⟩
    have z6 := b6.size
    have hm := hm.below b6 (by omega)
    have hs := hs.below b6 (by omega)
    have A := A.below b6 (by omega)
    have B6 := B5.trans (b6.mono (by omega))
    clear b6 B5
    rw [HL.out] at T
    rw [HL.out]
    go_wp2_with fail
    refine (l_equalLists A.rii T.rii (by omega) (by omega) HGR.out HGR.out).mono ?_
    rintro e w7 ⟨rfl, d7⟩
    have b7 := Dr.below d7 w6.heap.size
    have z7 := Dr.le d7
    clear d7
    have hm := hm.below b7 (by omega)
    have hs := hs.below b7 (by omega)
    have A := A.below b7 (by omega)
    have T := T.below b7 (by omega)
    have B7 := B6.trans (b7.mono (by omega))
    clear b7 B6
    rw [heqL]
    go_wp2
    go_ret
    exact ⟨rfl, B7⟩
  have HC := Lib.hid (okC_mk hok hlo hhi)
  have HOK : Hid (okM m = true) := by show _ = _; rw [Bool.and_eq_true] at hok; exact hok.1
  have HOS : Hid (okS m s = true) := by show _ = _; rw [Bool.and_eq_true] at hok; exact hok.2
  have hm5 := okM_len HOK.out
  clear hok
  go_wp2_with fail
  refine (i_TrimSuite hm (by omega) hs.rii (by omega) HSG.out (by omega) (by omega) (by omega) (by omega) (by omega)).mono ?_
  rintro e w2 ⟨Aa, Ac, rfl, A, b2⟩
  have z2 := b2.size
  have hm := hm.below b2 (by omega)
  have hs := hs.below b2 (by omega)
  have B2 := B1.trans (b2.mono (by omega))
  clear b2 B1
  rw [HL.out] at A
  rw [HL.out]
  go_wp2_with fail
  refine (s_TrimSuite hm (by omega) hs.rii (by omega) HSG.out (by omega) (by omega) (by omega) (by omega)).mono ?_
  rintro e w3 ⟨Sa, Sc, rfl, S, b3⟩
  have z3 := b3.size
  have hm := hm.below b3 (by omega)
  have hs := hs.below b3 (by omega)
  have A := A.below b3 (by omega)
  have B3 := B2.trans (b3.mono (by omega))
  clear b3 B2
  rw [HL.out] at S
  rw [HL.out]
  go_wp2_with fail
  refine (l_equalLists A.rii S.rii (by omega) (by omega) HGR.out HGR.out).mono ?_
  rintro e w4 ⟨rfl, d4⟩
  have b4 := Dr.below d4 w3.heap.size
  have z4 := Dr.le d4
  clear d4
  have hm := hm.below b4 (by omega)
  have hs := hs.below b4 (by omega)
  have A := A.below b4 (by omega)
  have S := S.below b4 (by omega)
  have B4 := B3.trans (b4.mono (by omega))
  clear b4 B3
  rw [heqL]
  go_wp2_with fail
  refine (i_ValidSuite hm (by omega) hs.rii (by omega) HSG.out).mono ?_
  rintro e w5 ⟨rfl, d5⟩
  have b5 := Dr.below d5 w4.heap.size
  have z5 := Dr.le d5
  clear d5
  have hm := hm.below b5 (by omega)
  have hs := hs.below b5 (by omega)
  have A := A.below b5 (by omega)
  have B5 := B4.trans (b5.mono (by omega))
  clear b5 B4
  rw [HV.out]
  have HT := Lib.hid (tr_law HC.out)
  obtain ⟨M, hM⟩ : ∃ M, moL m s t = M := ⟨_, rfl⟩
  have HM := Lib.hid hM
  have HMN := @moL_len m s t
  have HMG := Lib.hid (@moL_g9 m s t)
  have heqM : eqII M M = true := eqII_true.2 rfl
  rw [hM] at HMN HMG
  clear hM
  have HM2 : Hid (moL m L t = M) := by show _ = _; have := HT.out.1; rw [HL.out, HM.out] at this; exact this
  obtain ⟨q, hq⟩ : ∃ q, (spL m L t).length = q := ⟨_, rfl⟩
  have HQ := Lib.hid hq
  have hq0 : (((q : Nat) : Int) == 0) = true := by have := HT.out.2.1; rw [HL.out, hq] at this; rw [this]; rfl
  clear hq
  have HFX : Hid (trL m L t = L) := by show _ = _; have := HT.out.2.2.1; rw [HL.out] at this; exact this
  have HAM : Hid (amgL L s = true) := by show _ = _; have := HT.out.2.2.2.1; rw [HL.out] at this; exact amgL_iff.2 this
  have HG9 : Hid (∀ r ∈ L, r.length ≤ 9223372036854775807) := fun r h => by have := HGR.out r h; omega
  have HSG4 : Hid (∀ r ∈ s, r.length ≤ 4611686018427387904) := fun r h => by have := HSR.out r h; omega
  have Acap := A.cap
  go_wp2_with fail
  refine (i_MissingOf hm (by omega) A.rii (by omega) HG9.out (by omega) (by omega) (by omega) (by omega)).mono ?_
  rintro e w6 ⟨Pa, Pc, rfl, P, b6⟩
  have z6 := b6.size
  have hm := hm.below b6 (by omega)
  have hs := hs.below b6 (by omega)
  have A := A.below b6 (by omega)
  have B6 := B5.trans (b6.mono (by omega))
  clear b6 B5
  rw [HM2.out] at P
  rw [HM2.out]
  go_wp2_with fail
  refine (i_MissingOf hm (by omega) hs.rii (by omega) HSG.out (by omega) (by omega) (by omega) (by omega)).mono ?_
  rintro e w7 ⟨Qa, Qc, rfl, Q, b7⟩
  have z7 := b7.size
  have hm := hm.below b7 (by omega)
  have hs := hs.below b7 (by omega)
  have A := A.below b7 (by omega)
  have P := P.below b7 (by omega)
  have B7 := B6.trans (b7.mono (by omega))
  clear b7 B6
  rw [HM.out] at Q
  rw [HM.out]
  go_wp2_with fail
  refine (l_equalLists P.rii Q.rii (by omega) (by omega) HMG.out HMG.out).mono ?_
  rintro e w8 ⟨rfl, d8⟩
  have b8 := Dr.below d8 w7.heap.size
  have z8 := Dr.le d8
  clear d8
  have hm := hm.below b8 (by omega)
  have hs := hs.below b8 (by omega)
  have A := A.below b8 (by omega)
  have P := P.below b8 (by omega)
  have Q := Q.below b8 (by omega)
  have B8 := B7.trans (b8.mono (by omega))
  clear b8 B7
  rw [heqM]
  go_wp2_with fail
  refine (i_SpareTests hm (by omega) A.rii (by omega) HG9.out (by omega) (by omega) (by omega) (by omega) (by omega)).mono ?_
  rintro e w9 ⟨Ua, Uc, rfl, U, b9⟩
  have z9 := b9.size
  have hm := hm.below b9 (by omega)
  have hs := hs.below b9 (by omega)
  have A := A.below b9 (by omega)
  have B9 := B8.trans (b9.mono (by omega))
  clear b9 B8
  clear U
  rw [HQ.out]
  go_wp2_with fail
  refine (i_TrimSuite hm (by omega) A.rii (by omega) HG9.out (by omega) (by omega) (by omega) (by omega) (by omega)).mono ?_
  rintro e w10 ⟨Ta, Tc, rfl, T, b10⟩
  have z10 := b10.size
  have hm := hm.below b10 (by omega)
  have hs := hs.below b10 (by omega)
  have A := A.below b10 (by omega)
  have B10 := B9.trans (b10.mono (by omega))
  clear b10 B9
  rw [HFX.out] at T
  rw [HFX.out]
  go_wp2_with fail
  refine (l_equalLists T.rii A.rii (by omega) (by omega) HGR.out HGR.out).mono ?_
  rintro e w11 ⟨rfl, d11⟩
  have b11 := Dr.below d11 w10.heap.size
  have z11 := Dr.le d11
  clear d11
  have hm := hm.below b11 (by omega)
  have hs := hs.below b11 (by omega)
  have A := A.below b11 (by omega)
  have T := T.below b11 (by omega)
  have B11 := B10.trans (b11.mono (by omega))
  clear b11 B10
  rw [heqL]
  go_wp2_with fail
  refine (l_among A.rii hs.rii (by omega) (by omega) HGR.out HSG4.out).mono ?_
  rintro e w12 ⟨rfl, d12⟩
  have b12 := Dr.below d12 w11.heap.size
  have z12 := Dr.le d12
  clear d12
  have hm := hm.below b12 (by omega)
  have hs := hs.below b12 (by omega)
  have A := A.below b12 (by omega)
  have B12 := B11.trans (b12.mono (by omega))
  clear b12 B11
  rw [HAM.out]
  go_wp2
  go_ret
  exact ⟨rfl, B12⟩

end Go.Proofs.Ytcdhahdobegagaa
