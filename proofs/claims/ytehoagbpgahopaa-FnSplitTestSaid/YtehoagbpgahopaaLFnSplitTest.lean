/- The walk of FnSplitTest: it returns true and writes nothing that was there. -/
import Derived.Test.YtehoagbpgahopaaRc
import Derived.Test.YtehoagbpgahopaaNf
import Derived.Test.YtehoagbpgahopaaTf
import Derived.Test.YtehoagbpgahopaaWg
import Derived.Test.YtehoagbpgahopaaWs
import Derived.Test.YtehoagbpgahopaaTg
namespace Go.Proofs.Ytehoagbpgahopaa
open Go.RowKit

theorem i_MatchesB' {m p t : List Int} {a a' a'' : Option Addr} {c c' c'' lo hi lo' hi' lo'' hi'' : Nat} {w w' : World} {x : Bool} (hb : Below w.heap.size w w') (hm : RI w lo hi a m) (hlm : m.length ≤ 9223372036854775807) (hp : RI w lo' hi' a' p) (hlp : p.length ≤ 9223372036854775807) (ht : RI w lo'' hi'' a'' t) (hlt : t.length ≤ 9223372036854775807)
    (h1 : hi ≤ w.heap.size) (h2 : hi' ≤ w.heap.size) (h3 : hi'' ≤ w.heap.size) (hx : (okM m && okP m p && okT m t && mB p t) = x) :
    Calls Try.prog 57 #[.slice a m.length c, .slice a' p.length c', .slice a'' t.length c''] w' (fun e v => e = .returned (.bool x) ∧ Below w.heap.size w v) := by
  refine (i_Matches (hm.below hb h1) hlm (hp.below hb h2) hlp (ht.below hb h3) hlt (Nat.le_trans h2 hb.size) (Nat.le_trans h3 hb.size)).mono ?_
  rintro e v ⟨rfl, hv⟩
  exact ⟨by rw [hx], hb.trans (hv.mono hb.size)⟩
/-- some of the first k tests parts the patterns -/
def ptdB (ps ts : List (List Int)) (k : Nat) : Bool := (ts.take k).any fun x => decide (0 < frP ps x) && decide (frP ps x < ps.length)
theorem ptd_step {ps ts : List (List Int)} {k : Nat} {x : List Int} (hx : ts[k]? = some x) : ptdB ps ts (k + 1) = (ptdB ps ts k || (decide (0 < frP ps x) && decide (frP ps x < ps.length))) := by
  unfold ptdB; rw [take_snoc hx, List.any_append]; simp
theorem ptd_end {m : List Int} {ps : List (List Int)} {k : Nat} (hm : okM m = true) (hk : (apL m m.length).length ≤ k) : ptdB ps (apL m m.length) k = spB m ps := by
  unfold ptdB
  rw [List.take_of_length_le hk, ap_full hm, Bool.eq_iff_iff, List.any_eq_true, sp_iff hm]
  simp only [Bool.and_eq_true, decide_eq_true_eq]
theorem frP_snoc2 {ps : List (List Int)} {x p : List Int} {k : Nat} (hp : ps[k]? = some p) : frP (ps.take (k + 1)) x = frP (ps.take k) x + if mB p x then 1 else 0 := by
  unfold frP; rw [take_snoc hp, List.countP_append]; simp

set_option maxRecDepth 100000 in
set_option maxHeartbeats 2000000 in
theorem law_FnSplitTest {m0 : Nat} {a0 : Option Addr} {c0 : Nat} {w : World} (f0 : RB w w.heap.size a0 m0) (l0 : m0 ≤ c0) :
    Calls Try.prog 24 #[.slice a0 m0 c0] w (Tru w) := by
  by_cases hb : m0 ≤ 1048576
  case neg =>
    go_enter Try.func24, Try.ntmps24
    go_wp2
    go_ret
    exact ⟨rfl, Below.refl _ _⟩
  go_enter Try.func24, Try.ntmps24
  go_wp2_with fail
  refine (s_DrawSplitTest f0 l0 hb).mono ?_
  rintro e w1 ⟨a1, c1, m, a2, c2, s, rfl, ⟨hG, hS⟩, B1⟩
  have z1 := B1.size
  have hm := hG.ri
  have hs := hS.ric
  have hl10 := hG.lp.1
  have hsl := hS.sq.1
  have scap := hS.ric.cap
  have HSR : Hid (∀ r ∈ s, r.length ≤ 12) := fun r h => (hS.sq.2 r h).1
  have HSG : Hid (∀ r ∈ s, r.length ≤ 9223372036854775807) := fun r h => by have := (hS.sq.2 r h).1; omega
  clear hG hS
  clear f0
  obtain ⟨L, hL⟩ : ∃ L, stL m s = L := ⟨_, rfl⟩
  obtain ⟨b, hB⟩ : ∃ b, stB m s = b := ⟨_, rfl⟩
  have HL := Lib.hid hL
  have HB := Lib.hid hB
  have HLN := @stL_len m s
  rw [hL] at HLN
  have heqL : eqI L L = true := eqI_true.2 rfl
  have hbb : (b != b) = false := by cases b <;> rfl
  have hbe : (b == b) = true := by cases b <;> rfl
  clear hL hB
  cases hok : okM m
  · skip
    have HOK := Lib.hid hok; clear hok
    go_wp2_with fail
    refine (i_SplitTest hm (by omega) hs.rii (by omega) HSG.out (by omega) (by omega)).mono ?_
    rintro e w2 ⟨Aa, Ac, rfl, A, b2⟩
    have z2 := b2.size
    have hm := hm.below b2 (by omega)
    have hs := hs.below b2 (by omega)
    have B2 := B1.trans (b2.mono (by omega))
    clear b2 B1
    rw [HL.out] at A
    rw [HL.out, HB.out]
    go_wp2_with fail
    refine (s_SplitTest hm (by omega) hs.rii (by omega) HSG.out (by omega) (by omega)).mono ?_
    rintro e w3 ⟨Sa, Sc, rfl, S, b3⟩
    have z3 := b3.size
    have hm := hm.below b3 (by omega)
    have hs := hs.below b3 (by omega)
    have A := A.below b3 (by omega)
    have B3 := B2.trans (b3.mono (by omega))
    clear b3 B2
    rw [HL.out] at S
    rw [HL.out, HB.out]
    go_wp2_with fail
    refine (l_equalInts A.ri S (by omega) (by omega)).mono ?_
    rintro e w4 ⟨rfl, d4⟩
    have b4 := Dr.below d4 w3.heap.size
    have z4 := Dr.le d4
    clear d4
    have hm := hm.below b4 (by omega)
    have hs := hs.below b4 (by omega)
    have A := A.below b4 (by omega)
    have S := S.below b4 (by omega)
    have B4 := B3.trans (b4.mono (by omega))
    clear b4 B3
    rw [heqL]
    go_wp2_with fail
    refine (i_ValidModel hm (by omega)).mono ?_
    rintro e w5 ⟨rfl, d5⟩
    have b5 := Dr.below d5 w4.heap.size
    have z5 := Dr.le d5
    clear d5
    have hm := hm.below b5 (by omega)
    have hs := hs.below b5 (by omega)
    have A := A.below b5 (by omega)
    have S := S.below b5 (by omega)
    have B5 := B4.trans (b5.mono (by omega))
    clear b5 B4
    rw [HOK.out]
    go_wp2_with fail
    refine (l_equalInts A.ri S (by omega) (by omega)).mono ?_
    rintro e w6 ⟨rfl, d6⟩
    have b6 := Dr.below d6 w5.heap.size
    have z6 := Dr.le d6
    clear d6
    have hm := hm.below b6 (by omega)
    have hs := hs.below b6 (by omega)
    have A := A.below b6 (by omega)
    have S := S.below b6 (by omega)
    have B6 := B5.trans (b6.mono (by omega))
    clear b6 B5
    rw [heqL]
    go_wp2
    go_ret
    exact ⟨rfl, B6⟩
  have HOK := Lib.hid hok; clear hok
  have hm5 := okM_len HOK.out
  go_wp2_with fail
  refine (i_SplitTest hm (by omega) hs.rii (by omega) HSG.out (by omega) (by omega)).mono ?_
  rintro e w2 ⟨Aa, Ac, rfl, A, b2⟩
  have z2 := b2.size
  have hm := hm.below b2 (by omega)
  have hs := hs.below b2 (by omega)
  have B2 := B1.trans (b2.mono (by omega))
  clear b2 B1
  rw [HL.out] at A
  rw [HL.out, HB.out]
  go_wp2_with fail
  refine (s_SplitTest hm (by omega) hs.rii (by omega) HSG.out (by omega) (by omega)).mono ?_
  rintro e w3 ⟨Sa, Sc, rfl, S, b3⟩
  have z3 := b3.size
  have hm := hm.below b3 (by omega)
  have hs := hs.below b3 (by omega)
  have A := A.below b3 (by omega)
  have B3 := B2.trans (b3.mono (by omega))
  clear b3 B2
  rw [HL.out] at S
  rw [HL.out, HB.out]
  go_wp2_with fail
  refine (l_equalInts A.ri S (by omega) (by omega)).mono ?_
  rintro e w4 ⟨rfl, d4⟩
  have b4 := Dr.below d4 w3.heap.size
  have z4 := Dr.le d4
  clear d4
  have hm := hm.below b4 (by omega)
  have hs := hs.below b4 (by omega)
  have A := A.below b4 (by omega)
  have S := S.below b4 (by omega)
  have B4 := B3.trans (b4.mono (by omega))
  clear b4 B3
  rw [heqL]
  go_wp2_with fail
  refine (i_ValidModel hm (by omega)).mono ?_
  rintro e w5 ⟨rfl, d5⟩
  have b5 := Dr.below d5 w4.heap.size
  have z5 := Dr.le d5
  clear d5
  have hm := hm.below b5 (by omega)
  have hs := hs.below b5 (by omega)
  have A := A.below b5 (by omega)
  have S := S.below b5 (by omega)
  have B5 := B4.trans (b5.mono (by omega))
  clear b5 B4
  rw [HOK.out]
  clear S hbb hbe heqL
  have h0 : Hid ((s.take 0).all (okP m) = true) := by show _ = _; simp
  go_wp2
  go_loopw [9] (fun i wr => ∃ k : Nat, k ≤ s.length ∧ i = .int .i64 k ∧ Hid ((s.take k).all (okP m) = true) ∧ Below w5.heap.size w5 wr) (fun i _ => s.length - (intOf i).toNat)
  case atStart => exact ⟨0, Nat.zero_le _, rfl, h0, Below.refl _ _⟩
  case round =>
    clear h0
    obtain ⟨k, hk, rfl, HA, hd⟩ := hrel
    have hz := hd.size
    have hm := hm.below hd (by omega)
    have hs := hs.below hd (by omega)
    have A := A.below hd (by omega)
    have BB := B5.trans (hd.mono (by omega))
    by_cases hlt : k < s.length
    · skip
      obtain ⟨b1, o1, a3, c3, p, ha, _, hbh, hcell, hp, hx⟩ := hs.rii.at hlt
      have hidx := idxII ha hlt c2
      have hpl := HSR.out p (List.mem_of_getElem? hx.out)
      clear ha
      cases hop : okP m p
      · skip
        have HV : Hid ((okM m && okP m p) = false) := by show _ = _; rw [hop]; simp
        have HBF : Hid (b = false) := by
          show _ = _
          rw [← HB.out]
          cases h : stB m s
          · rfl
          · have h2 := (stG_m (stB_m h).1).2.1 p (List.mem_of_getElem? hx.out); rw [hop] at h2; cases h2
        clear hop
        obtain ⟨b2, hb2⟩ : ∃ x, x = b := ⟨_, rfl⟩
        obtain rfl : b = false := HBF.out
        clear hb2
        go_wp2_with fail
        refine (i_ValidPattern hm (by omega) hp (by omega)).mono ?_
        rintro e v1 ⟨rfl, d1⟩
        rw [HV.out]
        go_wp2
        go_ret
        exact ⟨rfl, BB.trans (Dr.below d1 _)⟩
      · skip
        have HV : Hid ((okM m && okP m p) = true) := by show _ = _; rw [hop, HOK.out]; rfl
        have HA1 : Hid ((s.take (k + 1)).all (okP m) = true) := all_snoc hx.out HA.out hop
        clear hop
        go_wp2_with fail
        refine (i_ValidPattern hm (by omega) hp (by omega)).mono ?_
        rintro e v1 ⟨rfl, d1⟩
        rw [HV.out]
        have hd1 := hd.trans (Dr.below d1 _)
        go_wp2
        go_roundw
        case rel => exact ⟨k + 1, by omega, by go_num, HA1, hd1⟩
        case measure => simp [intOf]; omega
    · skip
      have HAL : Hid (s.all (okP m) = true) := all_whole HA.out (show s.length ≤ k by omega)
      have HBS : Hid (b = spB m s) := by
        show _ = _
        rw [← HB.out]; unfold stB; rw [stG_mk HOK.out (fun p hp => List.all_eq_true.1 HAL.out p hp) (by omega)]; rfl
      obtain ⟨P, hP⟩ : ∃ P, apL m m.length = P := ⟨_, rfl⟩
      have HP := Lib.hid hP
      have HPN := @apL_len m m.length
      have HPR : Hid (∀ r ∈ P, r.length ≤ 5) := fun r hr => by have := apL_row r (by rw [hP]; exact hr); omega
      have HMT : Hid (∀ p ∈ s, ∀ x ∈ P, (okM m && okP m p && okT m x && mB p x) = mB p x) := fun p hp x hx => by
        rw [← hP, ap_full HOK.out] at hx
        rw [HOK.out, List.all_eq_true.1 HAL.out p hp, (ext_mem HOK.out).1 hx]; rfl
      have HEND : Hid (∀ k, P.length ≤ k → ptdB s P k = b) := fun k hk => by rw [HBS.out, ← hP]; exact ptd_end HOK.out (by rw [hP]; exact hk)
      rw [hP] at HPN
      clear hP HA
      go_wp2_with fail
      refine (i_AllTests hm (by omega) (by omega)).mono ?_
      rintro e v1 ⟨Ta, Tc, rfl, T, b1⟩
      rw [HP.out] at T ⊢
      have hzz := b1.size
      have hm := hm.below b1 (by omega)
      have hs := hs.below b1 (by omega)
      have BB := BB.trans (b1.mono (by omega))
      have hp0 : Hid (ptdB s P 0 = false) := rfl
      go_wp2
      go_loopw [10, 12, 13, 14] (fun g i _ _ wr => ∃ (k : Nat) (x : Bool), k ≤ P.length ∧ i = .int .i64 k ∧ g = .bool x ∧ Hid (ptdB s P k = x) ∧ Below v1.heap.size v1 wr) (fun _ i _ _ _ => P.length - (intOf i).toNat)
      case atStart => exact ⟨0, false, Nat.zero_le _, rfl, rfl, hp0, Below.refl _ _⟩
      case round =>
        clear hp0
        obtain ⟨k, x, hk, rfl, rfl, HX, hd⟩ := hrel
        have hz := hd.size
        have BB := BB.trans (hd.mono (by omega))
        by_cases hlt : k < P.length
        · skip
          obtain ⟨wo, rfl⟩ : ∃ y : World, y = wr := ⟨_, rfl⟩
          have hm := hm.below hd (by omega)
          have hs := hs.below hd (by omega)
          obtain ⟨b1, o1, a3, c3, q, ha, _, hbh, hcell, hq, hx⟩ := (T.rii.below hd (by omega)).at hlt
          have hidx := idxII ha hlt Tc
          have hql := HPR.out q (List.mem_of_getElem? hx.out)
          have HST := Lib.hid (ptd_step (ps := s) hx.out)
          have hf0 : Hid (frP (s.take 0) q = 0) := by show _ = _; simp [frP]
          clear ha
          go_wp2
          go_loopw [13, 14] (fun c j wr => ∃ i : Nat, i ≤ s.length ∧ j = .int .i64 i ∧ c = .int .i64 (frP (s.take i) q : Nat) ∧ Below wo.heap.size wo wr) (fun _ j _ => s.length - (intOf j).toNat)
          case atStart => exact ⟨0, Nat.zero_le _, rfl, by rw [hf0.out]; rfl, Below.refl _ _⟩
          case round =>
            clear hf0
            obtain ⟨i, hi, rfl, rfl, hd2⟩ := hrel
            have hz2 := hd2.size
            by_cases hlt2 : i < s.length
            · skip
              obtain ⟨b2, o2, a4, c4, p, ha2, _, hbh2, hcell2, hp, hx2⟩ := (hs.rii.below hd2 (by omega)).at hlt2
              have hidx2 := idxII ha2 hlt2 c2
              have hpl := HSR.out p (List.mem_of_getElem? hx2.out)
              have hmm := hm.below hd2 (by omega)
              have hqq := hq.below hd2 (by omega)
              have hcq := (hd2.cell (p := ⟨b1, o1 + k, none⟩) (by show b1 < _; omega)).trans hcell
              have HF := Lib.hid (frP_snoc2 (x := q) hx2.out)
              have hfl : frP (s.take i) q ≤ 24 := by have := frP_all_le (s.take i) q; simp at this; omega
              have HMQ := Lib.hid (HMT.out p (List.mem_of_getElem? hx2.out) q (List.mem_of_getElem? hx.out))
              obtain ⟨f, hf⟩ : ∃ f, frP (s.take i) q = f := ⟨_, rfl⟩
              rw [hf] at hfl HF
              rw [hf]
              clear hf
              have HS : Hid (∀ w', Below wr.heap.size wr w' → w'.cell? ⟨b1, o1 + k, none⟩ = some (.slice a3 q.length c3) ∧ w'.cell? ⟨b2, o2 + i, none⟩ = some (.slice a4 p.length c4)) := fun w' hb => ⟨(hb.cell (p := ⟨b1, o1 + k, none⟩) (by show b1 < _; omega)).trans hcq, (hb.cell (p := ⟨b2, o2 + i, none⟩) (by show b2 < _; omega)).trans hcell2⟩
              obtain ⟨y, hy⟩ : ∃ y, mB p q = y := ⟨_, rfl⟩
              have HMY : Hid ((okM m && okP m p && okT m q && mB p q) = y) := HMQ.out.trans hy
              rw [hy] at HF
              clear hy HMQ
              have HC1 : Hid (∀ w', Below wr.heap.size wr w' → Calls Try.prog 57 #[.slice a1 m.length c1, .slice a4 p.length c4, .slice a3 q.length c3] w' (fun e v => e = .returned (.bool y) ∧ Below wr.heap.size wr v)) := fun w' hb => i_MatchesB' hb hmm (by omega) hp (by omega) hqq (by omega) (by omega) (by omega) (by omega) HMY.out
              have hqs : Below wr.heap.size wr wr := Below.refl _ _
              clear hcell2 hcq hp hqq hmm hx2 ha2
              cases y
              all_goals
                go_wp2_with fail
                go_region_held3 (fun w' => w'.cell? ⟨b1, o1 + k, none⟩ = some (.slice a3 q.length c3) ∧ w'.cell? ⟨b2, o2 + i, none⟩ = some (.slice a4 p.length c4)) (first | exact HS.out _ (by first | exact hqs | exact hqs.drew) | go_keep) ((first
                  | (go_at_call 57; ((with_reducible refine Calls.mono (HC1.out _ (by first | exact hqs | exact hqs.drew)) ?_)); rintro e v2 ⟨rfl, hqs⟩)
                  | fail))
                all_goals
                  have hd3 := hd2.trans (hqs.mono (by omega))
                  go_wp2
                  go_roundw
                  case rel => exact ⟨i + 1, by omega, by go_num, by rw [HF.out]; first | rfl | go_num | simp, hd3⟩
                  case measure => simp [intOf]; omega
            · skip
              have HT : Hid (s.take i = s) := List.take_of_length_le (by omega)
              have hd3 := hd.trans (hd2.mono (by omega))
              rw [HT.out]
              have hfl := frP_all_le s q
              obtain ⟨f, hf⟩ : ∃ f, frP s q = f := ⟨_, rfl⟩
              rw [hf] at hfl HST
              rw [hf]
              clear hf
              rw [HX.out] at HST
              cases x
              · skip
                by_cases h1 : 0 < f
                · skip
                  have e1 : decide ((0 : Int) < (f : Int)) = true := decide_eq_true (by omega)
                  have e1b : decide (0 < f) = true := decide_eq_true h1
                  by_cases h2 : f < s.length
                  · skip
                    have HN : Hid (ptdB s P (k + 1) = true) := by show _ = _; rw [HST.out]; simp <;> omega
                    clear HST
                    go_wp2
                    go_roundw
                    case rel => exact ⟨k + 1, true, by omega, by go_num, rfl, HN, hd3⟩
                    case measure => simp [intOf]; omega
                  · skip
                    have HN : Hid (ptdB s P (k + 1) = false) := by show _ = _; rw [HST.out]; simp <;> omega
                    clear HST
                    go_wp2
                    go_roundw
                    case rel => exact ⟨k + 1, false, by omega, by go_num, rfl, HN, hd3⟩
                    case measure => simp [intOf]; omega
                · skip
                  have HN : Hid (ptdB s P (k + 1) = false) := by show _ = _; rw [HST.out]; simp <;> omega
                  clear HST
                  go_wp2
                  go_roundw
                  case rel => exact ⟨k + 1, false, by omega, by go_num, rfl, HN, hd3⟩
                  case measure => simp [intOf]; omega
              · skip
                have HN : Hid (ptdB s P (k + 1) = true) := by show _ = _; rw [HST.out]; simp <;> omega
                clear HST
                go_wp2
                go_roundw
                case rel => exact ⟨k + 1, true, by omega, by go_num, rfl, HN, hd3⟩
                case measure => simp [intOf]; omega
        · skip
          obtain rfl : x = b := by rw [← HX.out]; exact HEND.out k (by omega)
          have hbe2 : (x == x) = true := by cases x <;> rfl
          go_wp2
          go_ret
          exact ⟨rfl, BB⟩

end Go.Proofs.Ytehoagbpgahopaa
