/- The walk of FnAllPatterns: it returns true and writes nothing that was there. -/
import Derived.Test.YtmmebcjebphfcaaLFnAllTests
namespace Go.Proofs.Ytmmebcjebphfcaa
open Go.RowKit

theorem pat_str {m r : List Int} {t : Int} {k : Nat} (h : okM m = true) (ht : inR t 0 m.length = true) (hr : (apL m t)[k]? = some r) : strV m r = t := by
  have h1 := List.mem_of_getElem? hr
  rw [ap_yes h ht, mem_patS h] at h1
  rw [strV_yes h h1.1, h1.2]
theorem cnt_step {m : List Int} {k : Nat} (h : okM m = true) (hk : k ≤ m.length) : cntP m k + (apL m (k : Int)).length = cntP m (k + 1) := by
  rw [cntP_succ, ap_yes h (inR_true.2 (by omega))]
  unfold patS
  simp
theorem cnt_le {m : List Int} (h : okM m = true) : ∀ k : Nat, cntP m k ≤ k * 1024
  | 0 => by simp [cntP]
  | k + 1 => by
    have h1 := cnt_le h k
    have h2 : (patsR m k).length ≤ 1024 := by
      have := patS_len (head := []) h (k : Int)
      unfold patS at this
      simpa using this
    rw [cntP_succ]; omega

set_option maxRecDepth 100000 in
set_option maxHeartbeats 2000000 in
theorem law_FnAllPatterns {m0 : Nat} {a0 : Option Addr} {c0 : Nat} {w : World} (f0 : RB w w.heap.size a0 m0) (l0 : m0 ≤ c0) :
    Calls Try.prog 10 #[.slice a0 m0 c0] w (Tru w) := by
  by_cases hb : m0 ≤ 1048576
  case neg =>
    go_enter Try.func10, Try.ntmps10
    go_wp2
    go_ret
    exact ⟨rfl, Below.refl _ _⟩
  go_enter Try.func10, Try.ntmps10
  go_wp2_with fail
  refine (s_DrawAllPatterns f0 l0 hb).mono ?_
  rintro e w1 ⟨a1, c1, m, t, rfl, ⟨hG, ht0, ht1⟩, B1⟩
  have z1 := B1.size
  have hm := hG.ri
  have hl10 := hG.lp.1
  have hcap := hG.cap
  clear hG
  clear f0
  obtain ⟨L, hL⟩ : ∃ L, apL m t = L := ⟨_, rfl⟩
  have HL := Lib.hid hL
  have HLN := @apL_len m t
  have HGR := Lib.hid (@apL_g m t)
  have heqL : eqII L L = true := eqII_true.2 rfl
  rw [hL] at HLN HGR
  clear hL
  cases hok : okM m
  · skip
    have HOK := Lib.hid hok; clear hok
    go_wp2_with fail
    refine (i_AllPatterns hm (by omega) (by omega) (by omega) (by omega)).mono ?_
    rintro e w2 ⟨Aa, Ac, rfl, A, b2⟩
    have z2 := b2.size
    have hm := hm.below b2 (by omega)
    have B2 := B1.trans (b2.mono (by omega))
    clear b2 B1
    rw [HL.out] at A
    rw [HL.out]
    go_wp2_with fail
    refine (s_AllPatterns hm (by omega) (by omega) (by omega) (by omega)).mono ?_
    rintro e w3 ⟨Sa, Sc, rfl, S, b3⟩
    have z3 := b3.size
    have hm := hm.below b3 (by omega)
    have A := A.below b3 (by omega)
    have B3 := B2.trans (b3.mono (by omega))
    clear b3 B2
    rw [HL.out] at S
    rw [HL.out]
    go_wp2_with fail
    refine (l_equalLists A.rii S.rii (by omega) (by omega) HGR.out HGR.out).mono ?_
    rintro e w4 ⟨rfl, d4⟩
    have b4 := Dr.below d4 w3.heap.size
    have z4 := Dr.le d4
    clear d4
    have hm := hm.below b4 (by omega)
    have A := A.below b4 (by omega)
    have S := S.below b4 (by omega)
    have B4 := B3.trans (b4.mono (by omega))
    clear b4 B3
    rw [heqL]
    go_wp2_with fail
    refine (i_ValidModel hm (by omega)).mono ?_
    rintro e w5 ⟨rfl, d5⟩
    have b5 := Dr.below d5 w4.heap.size
    have z5 := Dr.le d5
    clear d5
    have hm := hm.below b5 (by omega)
    have A := A.below b5 (by omega)
    have B5 := B4.trans (b5.mono (by omega))
    clear b5 B4
    rw [HOK.out]
    go_wp2_with fail
    refine (s_AllPatterns hm (by omega) (by omega) (by omega) (by omega)).mono ?_
    rintro e w6 ⟨Ta, Tc, rfl, T, b6⟩
    have z6 := b6.size
    have hm := hm.below b6 (by omega)
    have A := A.below b6 (by omega)
    have B6 := B5.trans (b6.mono (by omega))
    clear b6 B5
    rw [HL.out] at T
    rw [HL.out]
    go_wp2_with fail
    refine (l_equalLists A.rii T.rii (by omega) (by omega) HGR.out HGR.out).mono ?_
    rintro e w7 ⟨rfl, d7⟩
    have b7 := Dr.below d7 w6.heap.size
    have z7 := Dr.le d7
    clear d7
    have hm := hm.below b7 (by omega)
    have A := A.below b7 (by omega)
    have T := T.below b7 (by omega)
    have B7 := B6.trans (b7.mono (by omega))
    clear b7 B6
    rw [heqL]
    go_wp2
    go_ret
    exact ⟨rfl, B7⟩
  have HOK := Lib.hid hok; clear hok
  by_cases hlo : t < 0
  · skip
    go_wp2_with fail
    refine (i_AllPatterns hm (by omega) (by omega) (by omega) (by omega)).mono ?_
    rintro e w2 ⟨Aa, Ac, rfl, A, b2⟩
    have z2 := b2.size
    have hm := hm.below b2 (by omega)
    have B2 := B1.trans (b2.mono (by omega))
    clear b2 B1
    rw [HL.out] at A
    rw [HL.out]
    go_wp2_with fail
    refine (s_AllPatterns hm (by omega) (by omega) (by omega) (by omega)).mono ?_
    rintro e w3 ⟨Sa, Sc, rfl, S, b3⟩
    have z3 := b3.size
    have hm := hm.below b3 (by omega)
    have A := A.below b3 (by omega)
    have B3 := B2.trans (b3.mono (by omega))
    clear b3 B2
    rw [HL.out] at S
    rw [HL.out]
    go_wp2_with fail
    refine (l_equalLists A.rii S.rii (by omega) (by omega) HGR.out HGR.out).mono ?_
    rintro e w4 ⟨rfl, d4⟩
    have b4 := Dr.below d4 w3.heap.size
    have z4 := Dr.le d4
    clear d4
    have hm := hm.below b4 (by omega)
    have A := A.below b4 (by omega)
    have S := S.below b4 (by omega)
    have B4 := B3.trans (b4.mono (by omega))
    clear b4 B3
    rw [heqL]
    go_wp2_with fail
    refine (i_ValidModel hm (by omega)).mono ?_
    rintro e w5 ⟨rfl, d5⟩
    have b5 := Dr.below d5 w4.heap.size
    have z5 := Dr.le d5
    clear d5
    have hm := hm.below b5 (by omega)
    have A := A.below b5 (by omega)
    have B5 := B4.trans (b5.mono (by omega))
    clear b5 B4
    rw [HOK.out]
    go_wp2_with fail
    refine (s_AllPatterns hm (by omega) (by omega) (by omega) (by omega)).mono ?_
    rintro e w6 ⟨Ta, Tc, rfl, T, b6⟩
    have z6 := b6.size
    have hm := hm.below b6 (by omega)
    have A := A.below b6 (by omega)
    have B6 := B5.trans (b6.mono (by omega))
    clear b6 B5
    rw [HL.out] at T
    rw [HL.out]
    go_wp2_with fail
    refine (l_equalLists A.rii T.rii (by omega) (by omega) HGR.out HGR.out).mono ?_
    rintro e w7 ⟨rfl, d7⟩
    have b7 := Dr.below d7 w6.heap.size
    have z7 := Dr.le d7
    clear d7
    have hm := hm.below b7 (by omega)
    have A := A.below b7 (by omega)
    have T := T.below b7 (by omega)
    have B7 := B6.trans (b7.mono (by omega))
    clear b7 B6
    rw [heqL]
    go_wp2
    go_ret
    exact ⟨rfl, B7⟩
  by_cases hhi : (m.length : Int) < t
  · skip
    go_wp2_with fail
    refine (i_AllPatterns hm (by omega) (by omega) (by omega) (by omega)).mono ?_
    rintro e w2 ⟨Aa, Ac, rfl, A, b2⟩
    have z2 := b2.size
    have hm := hm.below b2 (by omega)
    have B2 := B1.trans (b2.mono (by omega))
    clear b2 B1
    rw [HL.out] at A
    rw [HL.out]
    go_wp2_with fail
    refine (s_AllPatterns hm (by omega) (by omega) (by omega) (by omega)).mono ?_
    rintro e w3 ⟨Sa, Sc, rfl, S, b3⟩
    have z3 := b3.size
    have hm := hm.below b3 (by omega)
    have A := A.below b3 (by omega)
    have B3 := B2.trans (b3.mono (by omega))
    clear b3 B2
    rw [HL.out] at S
    rw [HL.out]
    go_wp2_with fail
    refine (l_equalLists A.rii S.rii (by omega) (by omega) HGR.out HGR.out).mono ?_
    rintro e w4 ⟨rfl, d4⟩
    have b4 := Dr.below d4 w3.heap.size
    have z4 := Dr.le d4
    clear d4
    have hm := hm.below b4 (by omega)
    have A := A.below b4 (by omega)
    have S := S.below b4 (by omega)
    have B4 := B3.trans (b4.mono (by omega))
    clear b4 B3
    rw [heqL]
    go_wp2_with fail
    refine (i_ValidModel hm (by omega)).mono ?_
    rintro e w5 ⟨rfl, d5⟩
    have b5 := Dr.below d5 w4.heap.size
    have z5 := Dr.le d5
    clear d5
    have hm := hm.below b5 (by omega)
    have A := A.below b5 (by omega)
    have B5 := B4.trans (b5.mono (by omega))
    clear b5 B4
    rw [HOK.out]
    go_wp2_with fail
    refine (s_AllPatterns hm (by omega) (by omega) (by omega) (by omega)).mono ?_
    rintro e w6 ⟨Ta, Tc, rfl, T, b6⟩
    have z6 := b6.size
    have hm := hm.below b6 (by omega)
    have A := A.below b6 (by omega)
    have B6 := B5.trans (b6.mono (by omega))
    clear b6 B5
    rw [HL.out] at T
    rw [HL.out]
    go_wp2_with fail
    refine (l_equalLists A.rii T.rii (by omega) (by omega) HGR.out HGR.out).mono ?_
    rintro e w7 ⟨rfl, d7⟩
    have b7 := Dr.below d7 w6.heap.size
    have z7 := Dr.le d7
    clear d7
    have hm := hm.below b7 (by omega)
    have A := A.below b7 (by omega)
    have T := T.below b7 (by omega)
    have B7 := B6.trans (b7.mono (by omega))
    clear b7 B6
    rw [heqL]
    go_wp2
    go_ret
    exact ⟨rfl, B7⟩
  have hm5 := okM_len HOK.out
  have HCNT := Lib.hid (cnt_all (okM_ge HOK.out))
  have HIN := Lib.hid (inR_true.2 (show 0 ≤ t ∧ t ≤ (m.length : Int) by omega))
  have hself : (t != t) = false := bne_self_eq_false t
  go_wp2_with fail
  refine (i_AllPatterns hm (by omega) (by omega) (by omega) (by omega)).mono ?_
  rintro e w2 ⟨Aa, Ac, rfl, A, b2⟩
  have z2 := b2.size
  have hm := hm.below b2 (by omega)
  have B2 := B1.trans (b2.mono (by omega))
  clear b2 B1
  rw [HL.out] at A
  rw [HL.out]
  go_wp2_with fail
  refine (s_AllPatterns hm (by omega) (by omega) (by omega) (by omega)).mono ?_
  rintro e w3 ⟨Sa, Sc, rfl, S, b3⟩
  have z3 := b3.size
  have hm := hm.below b3 (by omega)
  have A := A.below b3 (by omega)
  have B3 := B2.trans (b3.mono (by omega))
  clear b3 B2
  rw [HL.out] at S
  rw [HL.out]
  go_wp2_with fail
  refine (l_equalLists A.rii S.rii (by omega) (by omega) HGR.out HGR.out).mono ?_
  rintro e w4 ⟨rfl, d4⟩
  have b4 := Dr.below d4 w3.heap.size
  have z4 := Dr.le d4
  clear d4
  have hm := hm.below b4 (by omega)
  have A := A.below b4 (by omega)
  have S := S.below b4 (by omega)
  have B4 := B3.trans (b4.mono (by omega))
  clear b4 B3
  rw [heqL]
  go_wp2_with fail
  refine (i_ValidModel hm (by omega)).mono ?_
  rintro e w5 ⟨rfl, d5⟩
  have b5 := Dr.below d5 w4.heap.size
  have z5 := Dr.le d5
  clear d5
  have hm := hm.below b5 (by omega)
  have A := A.below b5 (by omega)
  have B5 := B4.trans (b5.mono (by omega))
  clear b5 B4
  rw [HOK.out]
  go_wp2
  go_loopw [6] (fun i wr => ∃ k : Nat, k ≤ L.length ∧ i = .int .i64 k ∧ Dr w5 wr) (fun i _ => L.length - (intOf i).toNat)
  case atStart => exact ⟨0, Nat.zero_le _, rfl, Dr.refl _⟩
  case round =>
    obtain ⟨k, hk, rfl, hd⟩ := hrel
    by_cases hlt : k < L.length
    · skip
      obtain ⟨b, o, a3, c3, r, ha, _, _, hcell, hr, hx⟩ := (A.rii.dr hd).at hlt
      have hidx := idxII ha hlt Ac
      have hrl := HGR.out r (List.mem_of_getElem? hx.out)
      have hmd := hm.dr hd
      have hval : strV m r = t := pat_str HOK.out HIN.out (by rw [HL.out]; exact hx.out)
      by_cases hk0 : k = 0
      · skip
        have hdk : decide (0 < k) = false := by rw [decide_eq_false_iff_not]; omega
        clear ha hm A hk0
        go_wp2_with fail
        go_quiet ((go_at_call 26; exact RO.quiet (i_StrengthOf (hmd.drewN _) (by omega) (hr.drewN _) (by omega))))
        go_wp2
        go_roundw
        case rel => exact ⟨k + 1, by omega, by go_num, hd.drewN _⟩
        case measure => simp [intOf]; omega
      · skip
        obtain ⟨b2, o2, a4, c4, r2, ha2, _, _, hcell2, hr2, hx2⟩ := (A.rii.dr hd).at (show k - 1 < L.length by omega)
        have hidx2 := idxII ha2 (show k - 1 < L.length by omega) Ac
        have e1 : ((k - 1 : Nat) : Int) = (k : Int) - 1 := by omega
        rw [e1] at hidx2
        have hrl2 := HGR.out r2 (List.mem_of_getElem? hx2.out)
        have hne : eqI r2 r = false := eqI_ne (nodup_at (HL.out ▸ apL_nodup) hx2.out hx.out (by omega))
        have hdk : decide (0 < k) = true := by rw [decide_eq_true_iff]; omega
        clear ha ha2 hm A hk0 e1
        go_wp2_with fail
        go_quiet ((first | (go_at_call 26; exact RO.quiet (i_StrengthOf (hmd.drewN _) (by omega) (hr.drewN _) (by omega))) | (go_at_call 37; exact RO.quiet (l_equalInts (hr2.drewN _) (hr.drewN _) hrl2 hrl))))
        go_wp2
        go_roundw
        case rel => exact ⟨k + 1, by omega, by go_num, hd.drewN _⟩
        case measure => simp [intOf]; omega
    · skip
      have hz := Dr.le hd
      have hm := hm.dr hd
      have BB := B5.trans (Dr.below hd _)
      clear A heqL hself
      obtain ⟨w9, rfl⟩ : ∃ x, x = wr := ⟨_, rfl⟩
      go_wp2
      go_loopw [7, 8] (fun v i wr => ∃ k q : Nat, k ≤ m.length + 1 ∧ i = .int .i64 k ∧ v = .int .i64 q ∧ q ≤ k * 1024 ∧ Hid (q = cntP m k) ∧ Below w9.heap.size w9 wr) (fun _ i _ => m.length + 1 - (intOf i).toNat)
      case atStart => exact ⟨0, 0, Nat.zero_le _, rfl, rfl, Nat.le_refl _, by simp [Hid, cntP], Below.refl _ _⟩
      case round =>
        obtain ⟨k2, q, hk2, rfl, rfl, hqk, hq, hBl⟩ := hrel
        have hz2 := hBl.size
        by_cases hlt2 : k2 ≤ m.length
        · skip
          have hm2 := hm.below hBl (by omega)
          have HST := Lib.hid (cnt_step HOK.out hlt2)
          have hl2 := @apL_len m (k2 : Int)
          clear hm
          go_wp2_with fail
          refine (i_AllPatterns hm2 (by omega) (by omega) (by omega) (by omega)).mono ?_
          rintro e v2 ⟨Pa, Pc, rfl, P, b2⟩
          clear P
          obtain ⟨p, hp⟩ : ∃ p, (apL m (k2 : Int)).length = p := ⟨_, rfl⟩
          have HQ2 : Hid (q + p = cntP m (k2 + 1)) := by show _ = _; rw [hq.out, ← hp]; exact HST.out
          rw [hp] at hl2 ⊢
          clear hp hq
          have hBl2 := hBl.trans (b2.mono (by omega))
          clear b2 hBl
          go_wp2
          go_roundw
          case rel => exact ⟨k2 + 1, q + p, by omega, by go_num, by go_num, by omega, HQ2, hBl2⟩
          case measure => simp [intOf]; omega
        · skip
          have HK : Hid (k2 = m.length + 1) := by show _ = _; omega
          have HQ3 : Hid ((q : Int) = prodL 1 m) := by show _ = _; rw [hq.out, HK.out]; exact HCNT.out
          have hm2 := hm.below hBl (by omega)
          go_wp2_with fail
          refine (l_product HOK.out hm2 (by omega) (by omega)).mono ?_
          rintro e v3 ⟨rfl, d3⟩
          rw [← HQ3.out]
          have hself2 : ((q : Int) == (q : Int)) = true := by simp
          go_wp2
          go_ret
          exact ⟨rfl, BB.trans ((hBl.trans (Dr.below d3 _)).mono (by omega))⟩

end Go.Proofs.Ytmmebcjebphfcaa
