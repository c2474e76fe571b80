/- The walk of FnPossiblePatterns: it returns true and writes nothing that was there. -/
import Derived.Test.YtehoagbpgahopaaRo
import Derived.Test.YtehoagbpgahopaaRi
import Derived.Test.YtehoagbpgahopaaZl
import Derived.Test.YtehoagbpgahopaaZp
import Derived.Test.YtehoagbpgahopaaWs
namespace Go.Proofs.Ytehoagbpgahopaa
open Go.RowKit

theorem flt_at {f : List Int → Bool} : ∀ {L : List (List Int)} {k : Nat} {q : List Int}, L[k]? = some q → f q = true → (L.filter f)[((L.take k).filter f).length]? = some q
  | [], _, _, h, _ => by simp at h
  | x :: L, 0, q, h, hf => by
    obtain rfl : x = q := by simpa using h
    simp [hf]
  | x :: L, k + 1, q, h, hf => by
    have ih := flt_at (L := L) (k := k) (by simpa using h) hf
    rw [List.take_succ_cons]
    cases hx : f x
    · rw [List.filter_cons_of_neg (by simp [hx]), List.filter_cons_of_neg (by simp [hx])]; exact ih
    · rw [List.filter_cons_of_pos hx, List.filter_cons_of_pos hx, List.length_cons, List.getElem?_cons_succ]; exact ih
theorem poL_g {m : List Int} {s : List (List Int)} {t : Int} : ∀ r ∈ poL m s t, r.length ≤ 4611686018427387904 := fun r hr => by have := poL_row r hr; omega

set_option maxRecDepth 100000 in
set_option maxHeartbeats 2000000 in
theorem law_FnPossiblePatterns {m0 : Nat} {a0 : Option Addr} {c0 : Nat} {w : World} (f0 : RB w w.heap.size a0 m0) (l0 : m0 ≤ c0) :
    Calls Try.prog 5 #[.slice a0 m0 c0] w (Tru w) := by
  by_cases hb : m0 ≤ 1048576
  case neg =>
    go_enter Try.func5, Try.ntmps5
    go_wp2
    go_ret
    exact ⟨rfl, Below.refl _ _⟩
  go_enter Try.func5, Try.ntmps5
  go_wp2_with fail
  refine (s_DrawPossiblePatterns f0 l0 hb).mono ?_
  rintro e w1 ⟨a1, c1, m, a2, c2, s, t, rfl, ⟨hG, hS, ht0, ht1⟩, B1⟩
  have z1 := B1.size
  have hm := hG.ri
  have hs := hS.ric
  have hl10 := hG.lp.1
  have hsl := hS.sq.1
  have scap := hS.ric.cap
  have HSR : Hid (∀ r ∈ s, r.length ≤ 12) := fun r h => (hS.sq.2 r h).1
  have HSG : Hid (∀ r ∈ s, r.length ≤ 9223372036854775807) := fun r h => by have := (hS.sq.2 r h).1; omega
  have hcap := hG.cap
  clear hG hS
  clear f0
  have HPL := @poL_len m s t
  have HPG := Lib.hid (@poL_g m s t)
  have hee : eqII (poL m s t) (poL m s t) = true := eqII_true.2 rfl
  obtain ⟨P, hP⟩ : ∃ P, poL m s t = P := ⟨_, rfl⟩
  have HP := Lib.hid hP
  rw [hP] at HPL HPG hee
  clear hP
  cases hok : (okM m && okBn m s)
  · skip
    have HV := Lib.hid hok; clear hok
    go_wp2_with fail
    refine (i_PossiblePatterns hm (by omega) hs.rii (by omega) HSG.out (by omega) (by omega) (by omega) (by omega)).mono ?_
    rintro e w2 ⟨Aa, Ac, rfl, A, b2⟩
    have z2 := b2.size
    have hm := hm.below b2 (by omega)
    have hs := hs.below b2 (by omega)
    have B2 := B1.trans (b2.mono (by omega))
    clear b2 B1
    rw [HP.out] at A ⊢
    go_wp2_with fail
    refine (s_PossiblePatterns hm (by omega) hs.rii (by omega) HSG.out (by omega) (by omega) (by omega) (by omega)).mono ?_
    rintro e w3 ⟨Sa, Sc, rfl, S, b3⟩
    have z3 := b3.size
    have hm := hm.below b3 (by omega)
    have hs := hs.below b3 (by omega)
    have A := A.below b3 (by omega)
    have B3 := B2.trans (b3.mono (by omega))
    clear b3 B2
    rw [HP.out] at S ⊢
    go_wp2_with fail
    refine (l_equalLists A.rii S.rii (by omega) (by omega) HPG.out HPG.out).mono ?_
    rintro e w4 ⟨rfl, d4⟩
    have b4 := Dr.below d4 w3.heap.size
    have z4 := Dr.le d4
    clear d4
    have hm := hm.below b4 (by omega)
    have hs := hs.below b4 (by omega)
    have A := A.below b4 (by omega)
    have S := S.below b4 (by omega)
    have B4 := B3.trans (b4.mono (by omega))
    clear b4 B3
    rw [hee]
    go_wp2_with fail
    refine (i_ValidBans hm (by omega) hs.rii (by omega) HSG.out).mono ?_
    rintro e w5 ⟨rfl, d5⟩
    have b5 := Dr.below d5 w4.heap.size
    have z5 := Dr.le d5
    clear d5
    have hm := hm.below b5 (by omega)
    have hs := hs.below b5 (by omega)
    have A := A.below b5 (by omega)
    have S := S.below b5 (by omega)
    have B5 := B4.trans (b5.mono (by omega))
    clear b5 B4
    rw [HV.out]
    go_wp2_with fail
    refine (s_PossiblePatterns hm (by omega) hs.rii (by omega) HSG.out (by omega) (by omega) (by omega) (by omega)).mono ?_
    rintro e w6 ⟨Ua, Uc, rfl, U, b6⟩
    have z6 := b6.size
    have hm := hm.below b6 (by omega)
    have hs := hs.below b6 (by omega)
    have A := A.below b6 (by omega)
    have S := S.below b6 (by omega)
    have B6 := B5.trans (b6.mono (by omega))
    clear b6 B5
    rw [HP.out] at U ⊢
    go_wp2_with fail
    refine (l_equalLists A.rii U.rii (by omega) (by omega) HPG.out HPG.out).mono ?_
    rintro e w7 ⟨rfl, d7⟩
    have b7 := Dr.below d7 w6.heap.size
    have z7 := Dr.le d7
    clear d7
    have hm := hm.below b7 (by omega)
    have hs := hs.below b7 (by omega)
    have A := A.below b7 (by omega)
    have S := S.below b7 (by omega)
    have U := U.below b7 (by omega)
    have B7 := B6.trans (b7.mono (by omega))
    clear b7 B6
    rw [hee]
    go_wp2
    go_ret
    exact ⟨rfl, B7⟩
  have HV := Lib.hid hok
  have HOK : Hid (okM m = true) := by show _ = _; rw [Bool.and_eq_true] at hok; exact hok.1
  have HOB : Hid (okBn m s = true) := by show _ = _; rw [Bool.and_eq_true] at hok; exact hok.2
  clear hok
  by_cases hin : 0 ≤ t ∧ t ≤ m.length
  case neg =>
    by_cases h0 : t < 0
    · skip
      go_wp2_with fail
      refine (i_PossiblePatterns hm (by omega) hs.rii (by omega) HSG.out (by omega) (by omega) (by omega) (by omega)).mono ?_
      rintro e w2 ⟨Aa, Ac, rfl, A, b2⟩
      have z2 := b2.size
      have hm := hm.below b2 (by omega)
      have hs := hs.below b2 (by omega)
      have B2 := B1.trans (b2.mono (by omega))
      clear b2 B1
      rw [HP.out] at A ⊢
      go_wp2_with fail
      refine (s_PossiblePatterns hm (by omega) hs.rii (by omega) HSG.out (by omega) (by omega) (by omega) (by omega)).mono ?_
      rintro e w3 ⟨Sa, Sc, rfl, S, b3⟩
      have z3 := b3.size
      have hm := hm.below b3 (by omega)
      have hs := hs.below b3 (by omega)
      have A := A.below b3 (by omega)
      have B3 := B2.trans (b3.mono (by omega))
      clear b3 B2
      rw [HP.out] at S ⊢
      go_wp2_with fail
      refine (l_equalLists A.rii S.rii (by omega) (by omega) HPG.out HPG.out).mono ?_
      rintro e w4 ⟨rfl, d4⟩
      have b4 := Dr.below d4 w3.heap.size
      have z4 := Dr.le d4
      clear d4
      have hm := hm.below b4 (by omega)
      have hs := hs.below b4 (by omega)
      have A := A.below b4 (by omega)
      have S := S.below b4 (by omega)
      have B4 := B3.trans (b4.mono (by omega))
      clear b4 B3
      rw [hee]
      go_wp2_with fail
      refine (i_ValidBans hm (by omega) hs.rii (by omega) HSG.out).mono ?_
      rintro e w5 ⟨rfl, d5⟩
      have b5 := Dr.below d5 w4.heap.size
      have z5 := Dr.le d5
      clear d5
      have hm := hm.below b5 (by omega)
      have hs := hs.below b5 (by omega)
      have A := A.below b5 (by omega)
      have S := S.below b5 (by omega)
      have B5 := B4.trans (b5.mono (by omega))
      clear b5 B4
      rw [HV.out]
      go_wp2_with fail
      refine (s_PossiblePatterns hm (by omega) hs.rii (by omega) HSG.out (by omega) (by omega) (by omega) (by omega)).mono ?_
      rintro e w6 ⟨Ua, Uc, rfl, U, b6⟩
      have z6 := b6.size
      have hm := hm.below b6 (by omega)
      have hs := hs.below b6 (by omega)
      have A := A.below b6 (by omega)
      have S := S.below b6 (by omega)
      have B6 := B5.trans (b6.mono (by omega))
      clear b6 B5
      rw [HP.out] at U ⊢
      go_wp2_with fail
      refine (l_equalLists A.rii U.rii (by omega) (by omega) HPG.out HPG.out).mono ?_
      rintro e w7 ⟨rfl, d7⟩
      have b7 := Dr.below d7 w6.heap.size
      have z7 := Dr.le d7
      clear d7
      have hm := hm.below b7 (by omega)
      have hs := hs.below b7 (by omega)
      have A := A.below b7 (by omega)
      have S := S.below b7 (by omega)
      have U := U.below b7 (by omega)
      have B7 := B6.trans (b7.mono (by omega))
      clear b7 B6
      rw [hee]
      go_wp2
      go_ret
      exact ⟨rfl, B7⟩
    have h1 : (m.length : Int) < t := by omega
    go_wp2_with fail
    refine (i_PossiblePatterns hm (by omega) hs.rii (by omega) HSG.out (by omega) (by omega) (by omega) (by omega)).mono ?_
    rintro e w2 ⟨Aa, Ac, rfl, A, b2⟩
    have z2 := b2.size
    have hm := hm.below b2 (by omega)
    have hs := hs.below b2 (by omega)
    have B2 := B1.trans (b2.mono (by omega))
    clear b2 B1
    rw [HP.out] at A ⊢
    go_wp2_with fail
    refine (s_PossiblePatterns hm (by omega) hs.rii (by omega) HSG.out (by omega) (by omega) (by omega) (by omega)).mono ?_
    rintro e w3 ⟨Sa, Sc, rfl, S, b3⟩
    have z3 := b3.size
    have hm := hm.below b3 (by omega)
    have hs := hs.below b3 (by omega)
    have A := A.below b3 (by omega)
    have B3 := B2.trans (b3.mono (by omega))
    clear b3 B2
    rw [HP.out] at S ⊢
    go_wp2_with fail
    refine (l_equalLists A.rii S.rii (by omega) (by omega) HPG.out HPG.out).mono ?_
    rintro e w4 ⟨rfl, d4⟩
    have b4 := Dr.below d4 w3.heap.size
    have z4 := Dr.le d4
    clear d4
    have hm := hm.below b4 (by omega)
    have hs := hs.below b4 (by omega)
    have A := A.below b4 (by omega)
    have S := S.below b4 (by omega)
    have B4 := B3.trans (b4.mono (by omega))
    clear b4 B3
    rw [hee]
    go_wp2_with fail
    refine (i_ValidBans hm (by omega) hs.rii (by omega) HSG.out).mono ?_
    rintro e w5 ⟨rfl, d5⟩
    have b5 := Dr.below d5 w4.heap.size
    have z5 := Dr.le d5
    clear d5
    have hm := hm.below b5 (by omega)
    have hs := hs.below b5 (by omega)
    have A := A.below b5 (by omega)
    have S := S.below b5 (by omega)
    have B5 := B4.trans (b5.mono (by omega))
    clear b5 B4
    rw [HV.out]
    go_wp2_with fail
    refine (s_PossiblePatterns hm (by omega) hs.rii (by omega) HSG.out (by omega) (by omega) (by omega) (by omega)).mono ?_
    rintro e w6 ⟨Ua, Uc, rfl, U, b6⟩
    have z6 := b6.size
    have hm := hm.below b6 (by omega)
    have hs := hs.below b6 (by omega)
    have A := A.below b6 (by omega)
    have S := S.below b6 (by omega)
    have B6 := B5.trans (b6.mono (by omega))
    clear b6 B5
    rw [HP.out] at U ⊢
    go_wp2_with fail
    refine (l_equalLists A.rii U.rii (by omega) (by omega) HPG.out HPG.out).mono ?_
    rintro e w7 ⟨rfl, d7⟩
    have b7 := Dr.below d7 w6.heap.size
    have z7 := Dr.le d7
    clear d7
    have hm := hm.below b7 (by omega)
    have hs := hs.below b7 (by omega)
    have A := A.below b7 (by omega)
    have S := S.below b7 (by omega)
    have U := U.below b7 (by omega)
    have B7 := B6.trans (b7.mono (by omega))
    clear b7 B6
    rw [hee]
    go_wp2
    go_ret
    exact ⟨rfl, B7⟩
  have hin0 := hin.1
  have hin1 := hin.2
  clear hin
  have HA := Lib.hid (ap_yes HOK.out (inR_true.2 ⟨hin0, hin1⟩))
  have hAL := @apL_len m t
  have HAR := Lib.hid (@apL_row m t)
  have HAG := Lib.hid (@apL_gr m t)
  have HPF : Hid (P = (apL m t).filter (hasP (alL m s))) := by show _ = _; rw [← HP.out, po_yes (bnT_mk HOK.out HOB.out hin0 hin1), HA.out]; unfold posP patS; simp
  have HAP : Hid (∀ r ∈ apL m t, okP m r = true) := fun r hr => by rw [HA.out] at hr; exact ((mem_patS (t := t) HOK.out).1 (by first | exact hr | (unfold patS at hr ⊢; simpa using hr) | (unfold patS; simpa using hr))).1
  go_wp2_with fail
  refine (i_PossiblePatterns hm (by omega) hs.rii (by omega) HSG.out (by omega) (by omega) (by omega) (by omega)).mono ?_
  rintro e w2 ⟨Aa, Ac, rfl, A, b2⟩
  have z2 := b2.size
  have hm := hm.below b2 (by omega)
  have hs := hs.below b2 (by omega)
  have B2 := B1.trans (b2.mono (by omega))
  clear b2 B1
  rw [HP.out] at A ⊢
  go_wp2_with fail
  refine (s_PossiblePatterns hm (by omega) hs.rii (by omega) HSG.out (by omega) (by omega) (by omega) (by omega)).mono ?_
  rintro e w3 ⟨Sa, Sc, rfl, S, b3⟩
  have z3 := b3.size
  have hm := hm.below b3 (by omega)
  have hs := hs.below b3 (by omega)
  have A := A.below b3 (by omega)
  have B3 := B2.trans (b3.mono (by omega))
  clear b3 B2
  rw [HP.out] at S ⊢
  go_wp2_with fail
  refine (l_equalLists A.rii S.rii (by omega) (by omega) HPG.out HPG.out).mono ?_
  rintro e w4 ⟨rfl, d4⟩
  have b4 := Dr.below d4 w3.heap.size
  have z4 := Dr.le d4
  clear d4
  have hm := hm.below b4 (by omega)
  have hs := hs.below b4 (by omega)
  have A := A.below b4 (by omega)
  have S := S.below b4 (by omega)
  have B4 := B3.trans (b4.mono (by omega))
  clear b4 B3
  rw [hee]
  go_wp2_with fail
  refine (i_ValidBans hm (by omega) hs.rii (by omega) HSG.out).mono ?_
  rintro e w5 ⟨rfl, d5⟩
  have b5 := Dr.below d5 w4.heap.size
  have z5 := Dr.le d5
  clear d5
  have hm := hm.below b5 (by omega)
  have hs := hs.below b5 (by omega)
  have A := A.below b5 (by omega)
  have S := S.below b5 (by omega)
  have B5 := B4.trans (b5.mono (by omega))
  clear b5 B4
  rw [HV.out]
  go_wp2_with fail
  refine (i_AllPatterns hm (by omega) (by omega) (by omega) (by omega)).mono ?_
  rintro e w6 ⟨Qa, Qc, rfl, Q, b6⟩
  have z6 := b6.size
  have hm := hm.below b6 (by omega)
  have hs := hs.below b6 (by omega)
  have A := A.below b6 (by omega)
  have S := S.below b6 (by omega)
  have B6 := B5.trans (b6.mono (by omega))
  clear b6 B5
  obtain ⟨L, hL⟩ : ∃ L, apL m t = L := ⟨_, rfl⟩
  have HL := Lib.hid hL
  rw [hL] at Q hAL HAR HAG HPF HAP ⊢
  clear hL
  obtain ⟨F, hFd⟩ : ∃ F, hasP (alL m s) = F := ⟨_, rfl⟩
  have HFD := Lib.hid hFd
  rw [hFd] at HPF
  clear hFd
  go_wp2
  go_loopw [8, 9] (fun x i wr => ∃ k r : Nat, k ≤ L.length ∧ i = .int .i64 k ∧ x = .int .i64 r ∧ r ≤ k ∧ Hid (r = ((L.take k).filter F).length) ∧ Below w6.heap.size w6 wr) (fun _ i _ => L.length - (intOf i).toNat)
  case atStart => exact ⟨0, 0, Nat.zero_le _, rfl, rfl, Nat.le_refl _, by simp [Hid], Below.refl _ _⟩
  case round =>
    obtain ⟨k, r, hk, rfl, rfl, hrk, hr, hB⟩ := hrel
    have hzB := hB.size
    have BB := B6.trans (hB.mono (by omega))
    by_cases hlt : k < L.length
    · skip
      obtain ⟨b, o, a5, c5, q, ha, _, _, hcell, hq, hx⟩ := (Q.rii.below hB (by omega)).at hlt
      have hidx := idxII ha hlt Qc
      have hql : q.length ≤ 5 := by have := HAR.out q (List.mem_of_getElem? hx.out); omega
      have HQ := Lib.hid ((ip_yes HOK.out HOB.out (HAP.out q (List.mem_of_getElem? hx.out))).trans (congrFun HFD.out q))
      have hm := hm.below hB (by omega)
      have hs := hs.below hB (by omega)
      have hA := A.rii.below hB (by omega)
      have hcap5 : hm = hm := rfl
      clear ha Q S hcap5
      cases hF : F q
      · skip
        have HR2 : Hid (r = ((L.take (k + 1)).filter F).length) := by show _ = _; rw [flt_skip (f := F) hx.out hF]; exact hr.out
        have HF := Lib.hid hF; clear hF
        go_wp2_with fail
        refine (i_IsPossible hm (by omega) hs.rii (by omega) HSG.out hq (by omega) (by omega) (by omega) (by omega)).mono ?_
        rintro e v2 ⟨rfl, b2⟩
        rw [HQ.out, HF.out]
        go_wp2
        go_roundw
        case rel => exact ⟨k + 1, r, by omega, by go_num, rfl, by omega, HR2, hB.trans (b2.mono (by omega))⟩
        case measure => simp [intOf]; omega
      · skip
        have HR2 : Hid (r + 1 = ((L.take (k + 1)).filter F).length) := by show _ = _; rw [flt_step (f := F) hx.out hF, List.length_append, ← hr.out]; rfl
        have hPr : P[r]? = some q := by rw [HPF.out, hr.out]; exact flt_at hx.out hF
        have hrP := lt_of_at hPr
        have HF := Lib.hid hF; clear hF
        go_wp2_with fail
        refine (i_IsPossible hm (by omega) hs.rii (by omega) HSG.out hq (by omega) (by omega) (by omega) (by omega)).mono ?_
        rintro e v2 ⟨rfl, b2⟩
        rw [HQ.out, HF.out]
        have zz2 := b2.size
        have hq2 := hq.below b2 (by omega)
        have hcell2 : v2.cell? ⟨b, o + k, none⟩ = some (.slice a5 q.length c5) := (b2.cell (p := ⟨b, o + k, none⟩) (by show b < _; omega)).trans hcell
        obtain ⟨b6, o6, a6, c6, q6, ha6, _, _, hcell6, hq6, hx6⟩ := (hA.below b2 (by omega)).at hrP
        have hidx6 := idxII ha6 hrP Ac
        obtain rfl : q = q6 := by have := hx6.out; rw [hPr] at this; exact Option.some.inj this
        have hee2 : eqI q q = true := eqI_true.2 rfl
        have hqb : q.length ≤ 4611686018427387904 := by omega
        have hB2 := hB.trans (b2.mono (by omega))
        have hge1 : decide (P.length ≤ r) = false := by rw [decide_eq_false_iff_not]; omega
        have hge2 : decide ((P.length : Int) ≤ (r : Int)) = false := by rw [decide_eq_false_iff_not]; omega
        clear ha6 hPr hx6
        go_wp2_with fail
        go_quiet ((go_at_call 40; exact RO.quiet (l_equalInts (hq6.drewN _) (hq2.drewN _) hqb hqb)))
        go_wp2
        go_roundw
        case rel => exact ⟨k + 1, r + 1, by omega, by go_num, by go_num, by omega, HR2, hB2.trans (Dr.below (Dr.drewN (Dr.refl _) _) _)⟩
        case measure => simp [intOf]; omega
    · skip
      have HR2 : Hid (r = P.length) := by show _ = _; rw [hr.out, List.take_of_length_le (by omega), HPF.out]
      rw [HR2.out]
      have hself : ((P.length : Int) == (P.length : Int)) = true := by simp
      clear hr HR2 hrk
      go_wp2
      go_ret
      exact ⟨rfl, BB⟩

end Go.Proofs.Ytehoagbpgahopaa
