/- Walks: what is possible, by the program. -/
import Derived.Test.YtpfojkhgelmciaaZl
import Derived.Test.YtpfojkhgelmciaaYd
namespace Go.Proofs.Ytpfojkhgelmciaa
open Go.RowKit

set_option maxRecDepth 100000 in
set_option maxHeartbeats 2000000 in
theorem i_possible {m : List Int} {b : List (List Int)} {v : Value} {a : Option Addr} {c lo hi B : Nat} {w0 w : World} {t : Int} (hm : RI w lo hi a m) (hhi : hi ≤ w.heap.size) (ho : OwnBn w0 B v b) (hb0 : Below w0.heap.size w0 w) (hok : okM m = true) (hob : okBn m b = true) (ht0 : 0 ≤ t) (ht1 : t ≤ m.length) :
    Calls Try.prog 116 #[.agg #[.slice a m.length c, v], .int .i64 t] w (NewP w (posP m b t)) := by
  have hs0 := hb0.size
  have hm5 := okM_len hok
  have HOK := Lib.hid hok; have HOB := Lib.hid hob
  have hA := Lib.hid (heap_alloc_new w (.cells #[.slice a m.length c, v] 89))
  have hbA := (Below.refl w.heap.size w).alloc (Nat.le_refl _) (.cells #[.slice a m.length c, v] 89)
  obtain ⟨W, hWe⟩ : ∃ W, w.alloc (.cells #[.slice a m.length c, v] 89) = W := ⟨_, rfl⟩
  have hWs : W.heap.size = w.heap.size + 1 := by rw [← hWe]; simp
  rw [hWe] at hA hbA
  have hmW := hm.below hbA hhi
  have HS : Hid (∀ w', Below W.heap.size W w' → w'.cell? ⟨w.heap.size, 0, none⟩ = some (.slice a m.length c) ∧ w'.cell? ⟨w.heap.size, 1, none⟩ = some v) := fun w' hb => by
    have h := (hb.block w.heap.size (by omega)).trans hA.out
    rw [cell_of_row _ _ 0 _ _ _ h, cell_of_row _ _ 1 _ _ _ h]; exact ⟨rfl, rfl⟩
  have hmD : RI W.drew lo hi a m := hmW.below ((Below.refl W.heap.size W).drew) (by omega)
  have hPat := Lib.hid (patS_len (head := []) HOK.out t)
  have hq1 : Below W.heap.size W W := Below.refl _ _
  obtain ⟨ps, hps⟩ : ∃ ps, patS m [] t = ps := ⟨_, rfl⟩
  have HP := Lib.hid hps
  have HC1 : Hid (Calls Try.prog 72 #[.slice a m.length c, .int .i64 t] W.drew (NewP W.drew ps)) := by
    rw [← hps]; exact i_patternsOf HOK.out hmD (by simp; omega) ht0 ht1
  have HC2 : Hid (∀ w2 v2, Below W.heap.size W w2 → OwnP w2 W.heap.size v2 ps → Calls Try.prog 121 #[v2, .func (.func 112) #[.agg #[.slice a m.length c, v]] #[]] w2 (NewP w2 (posP m b t))) := fun w2 v2 hb hop => by
    have hq : posP m b t = ps.filter (hasP (alL m b)) := by unfold posP; rw [hps]
    rw [hq]
    refine i_keptPos (B := W.heap.size) _ _ hop (Below.refl _ _) (by rw [← hps]; exact Nat.le_trans hPat.out (by omega)) fun l hl w' hb' => ?_
    have hz := hb.size
    have hbb : Below W.heap.size W w' := hb.trans (hb'.mono hz)
    rw [← hps] at hl
    exact i_isPossible (hmW.below hbb (by omega)) (by have := hbb.size; omega) ho (hb0.trans ((hbA.trans (hbb.mono (by omega))).mono hs0)) HOK.out HOB.out ((mem_patS HOK.out).1 hl).1
  clear hok hob hm hmW hmD hps
  go_enter Try.func116, Try.ntmps116
  go_wp2_with fail
  try rw [hWe]
  clear hWe
  go_region_held3 (fun w' => w'.cell? ⟨w.heap.size, 0, none⟩ = some (.slice a m.length c) ∧ w'.cell? ⟨w.heap.size, 1, none⟩ = some v)
    (first | exact HS.out _ (by first | exact hq3 | exact hq2 | exact hq1.drew | exact hq1) | go_keep) ((first
    | (go_at_call 72; refine HC1.out.mono ?_; rintro e w2 ⟨v2, rfl, ho2, hb2⟩; have hq2 : Below W.heap.size W w2 := hq1.drew.trans hb2; have hz2 := hq2.size)
    | (go_at_call 121; refine (HC2.out w2 v2 hq2 ho2).mono ?_; rintro e w3 ⟨v3, rfl, ho3, hb3⟩; have hq3 : Below W.heap.size W w3 := hq2.trans (hb3.mono hz2))))
  all_goals
    have hbF := hbA.trans (hq3.mono (by omega))
    go_wp2
    go_ret
    exact ⟨_, rfl, ho3.mono (by omega), hbF⟩


set_option maxHeartbeats 2000000 in
theorem i_PossiblePatterns {m : List Int} {a : Option Addr} {c lo hi : Nat} {s : List (List Int)} {a1 : Option Addr} {c1 lo1 hi1 : Nat} {t : Int} {w : World} (hm : RI w lo hi a m) (hlm : m.length ≤ 9223372036854775807) (hs : RII w lo1 hi1 a1 s) (hls : s.length ≤ 9223372036854775807) (hg : ∀ r ∈ s, r.length ≤ 9223372036854775807) (_ht0 : -9223372036854775808 ≤ t) (_ht1 : t ≤ 9223372036854775807) (hB : hi ≤ w.heap.size) (hB1 : hi1 ≤ w.heap.size)  :
    Calls Try.prog 53 #[.slice a m.length c, .slice a1 s.length c1, .int .i64 t] w (NewII w (poL m s t)) := by
  have HG := Lib.hid hg; clear hg
  have D0 : Dr w w := Dr.refl w
  cases hHIB : okM m && okBn m s
  · have HIB := Lib.hid hHIB; clear hHIB
    go_enter Try.func53, Try.ntmps53
    go_wp2_with fail
    refine (i_ValidBans (hm.dr D0) hlm (hs.dr D0) hls HG.out).mono ?_
    rintro e w1 ⟨rfl, d1⟩
    rw [HIB.out]
    have D1 := Dr.trans D0 d1
    clear d1
    go_wp2
    go_ret
    exact NewII.none (po_no (show bnT m s t = false by unfold bnT; first | (rw [HIB.out]; rfl) | (rw [HIB.out, HIB.out]; rfl))) (Dr.below D1 _)
  have HIB := Lib.hid hHIB; clear hHIB
  cases hHIN : inR t 0 m.length
  · have HIN := Lib.hid hHIN; clear hHIN
    go_enter Try.func53, Try.ntmps53
    go_wp2_with fail
    refine (i_ValidBans (hm.dr D0) hlm (hs.dr D0) hls HG.out).mono ?_
    rintro e w1 ⟨rfl, d1⟩
    rw [HIB.out]
    have D1 := Dr.trans D0 d1
    clear d1
    go_wp2_with fail
    refine (i_isStrength hlm).mono ?_
    rintro e w2 ⟨rfl, d2⟩
    rw [HIN.out]
    have D2 := Dr.trans D1 d2
    clear d2
    go_wp2
    go_ret
    exact NewII.none (po_no (show bnT m s t = false by unfold bnT; first | (rw [HIN.out]; rfl) | (rw [HIB.out, HIN.out]; rfl))) (Dr.below D2 _)
  have HIN := Lib.hid hHIN; clear hHIN
  have hE := HIB.out
  rw [Bool.and_eq_true] at hE
  have HOK := Lib.hid hE.1
  have HOB := Lib.hid hE.2
  clear hE
  have hsl := okBn_len HOB.out
  have HR := Lib.hid (bn_rows HOB.out)
  have hm5 := okM_len HOK.out
  have ht := inR_true.1 HIN.out
  have HPO := Lib.hid (po_yes (bnT_mk HOK.out HOB.out ht.1 ht.2))
  have HLN := Lib.hid (poL_len (m := m) (b := s) (t := t))
  have HRW := Lib.hid (poL_row (m := m) (b := s) (t := t))
  rw [HPO.out] at HLN HRW
  go_enter Try.func53, Try.ntmps53
  go_wp2_with fail
  refine (i_ValidBans (hm.dr D0) hlm (hs.dr D0) hls HG.out).mono ?_
  rintro e w1 ⟨rfl, d1⟩
  rw [HIB.out]
  have D1 := Dr.trans D0 d1
  clear d1
  go_wp2_with fail
  refine (i_isStrength hlm).mono ?_
  rintro e w2 ⟨rfl, d2⟩
  rw [HIN.out]
  have D2 := Dr.trans D1 d2
  clear d2
  have Z2 := Dr.le D2
  go_wp2_with fail
  refine (i_rulesOf m.length (hs.dr D2) (by omega) hsl (fun r hr => by have := HR.out r hr; omega)).mono ?_
  rintro e w3 ⟨v, rfl, ho3, hb3⟩
  have hz3 := hb3.size
  have hm3 := (hm.dr D2).below hb3 (by omega)
  go_wp2_with fail
  refine (i_possible hm3 (by omega) ho3 (Below.refl _ _) HOK.out HOB.out ht.1 ht.2).mono ?_
  rintro e w4 ⟨v4, rfl, ho4, hb4⟩
  have hz4 := hb4.size
  go_wp2_with fail
  refine (i_listsOf ho4 hm5.1 hm5.2 (Nat.le_trans HLN.out (by omega)) (fun l hl => (HRW.out l hl).1)).mono ?_
  rintro e w5 ⟨a5, c5, rfl, h5, hb5⟩
  have hb03 := (Dr.below D2 w.heap.size).trans ((hb3.trans ((hb4.trans (hb5.mono (by omega))).mono (by omega))).mono (by omega))
  go_wp2
  go_ret
  rw [HPO.out]
  exact ⟨_, _, rfl, h5.wide (by omega) (Nat.le_refl _), hb03⟩


theorem mis_more {s ps : List (List Int)} {k : Nat} {x : List Int} (hx : s[k]? = some x) : rstP (misP (s.take k) ps) x = misP (s.take (k + 1)) ps := by
  unfold rstP misP
  rw [List.filter_filter]
  apply List.filter_congr
  intro p _
  unfold hasP
  rw [take_snoc hx, List.any_append]
  simp [Bool.and_comm]
theorem mis_zero (ps : List (List Int)) : misP [] ps = ps := by
  unfold misP hasP; rw [List.filter_eq_self]; simp
theorem mis_all (s ps : List (List Int)) : decide ((((misP s ps).length : Nat) : Int) = 0) = ps.all (hasP s) := by
  rw [Bool.eq_iff_iff, decide_eq_true_eq, List.all_eq_true]
  constructor
  · intro h p hp
    have h0 : misP s ps = [] := List.eq_nil_of_length_eq_zero (by omega)
    unfold misP at h0
    rw [List.filter_eq_nil_iff] at h0
    simpa using h0 p hp
  · intro h
    have h0 : misP s ps = [] := by
      unfold misP; rw [List.filter_eq_nil_iff]
      intro p hp; simp [h p hp]
    rw [h0]; rfl

set_option maxRecDepth 100000 in
set_option maxHeartbeats 2000000 in
theorem s_IsAllowedCovering {m : List Int} {a : Option Addr} {c lo hi : Nat} {s : List (List Int)} {a1 : Option Addr} {c1 lo1 hi1 : Nat} {u : List (List Int)} {a2 : Option Addr} {c2 lo2 hi2 : Nat} {t : Int} {w : World} (hm : RI w lo hi a m) (hlm : m.length ≤ 9223372036854775807) (hs : RII w lo1 hi1 a1 s) (hls : s.length ≤ 9223372036854775807) (hg : ∀ r ∈ s, r.length ≤ 9223372036854775807) (hu : RII w lo2 hi2 a2 u) (hlu : u.length ≤ 9223372036854775807) (hgu : ∀ r ∈ u, r.length ≤ 9223372036854775807) (_ht0 : -9223372036854775808 ≤ t) (_ht1 : t ≤ 9223372036854775807) (hB : hi ≤ w.heap.size) (hB1 : hi1 ≤ w.heap.size) (hB2 : hi2 ≤ w.heap.size)  :
    Calls Try.prog 60 #[.slice a m.length c, .slice a1 s.length c1, .slice a2 u.length c2, .int .i64 t] w (NewV w (.bool (iaB m s u t))) := by
  have HG := Lib.hid hg; clear hg
  have HGU := Lib.hid hgu; clear hgu
  have D0 : Dr w w := Dr.refl w
  cases hHOC : okC m u t
  · have HOC := Lib.hid hHOC; clear hHOC
    go_enter Try.func60, Try.ntmps60
    go_wp2_with fail
    refine (s_good (hm.dr D0) hlm (hu.dr D0) hlu HGU.out).mono ?_
    rintro e w1 ⟨rfl, d1⟩
    rw [HOC.out]
    have D1 := Dr.trans D0 d1
    clear d1
    go_wp2
    go_ret
    exact ⟨by rw [ia_no (m := m) (b := s) (s := u) (t := t) (by first | (rw [HOC.out]; rfl) | (rw [HOC.out, HOC.out]; rfl) | (rw [HOC.out]; simp))]; rfl, Dr.below D1 _⟩
  have HOC := Lib.hid hHOC; clear hHOC
  have HOK := Lib.hid (okC_parts HOC.out).1
  cases hHOB : okBn m s
  · have HOB := Lib.hid hHOB; clear hHOB
    go_enter Try.func60, Try.ntmps60
    go_wp2_with fail
    refine (s_good (hm.dr D0) hlm (hu.dr D0) hlu HGU.out).mono ?_
    rintro e w1 ⟨rfl, d1⟩
    rw [HOC.out]
    have D1 := Dr.trans D0 d1
    clear d1
    go_wp2_with fail
    refine (s_validBans (hm.dr D1) (hs.dr D1) HOK.out hls HG.out).mono ?_
    rintro e w2 ⟨rfl, d2⟩
    rw [HOB.out]
    have D2 := Dr.trans D1 d2
    clear d2
    go_wp2
    go_ret
    exact ⟨by rw [ia_no (m := m) (b := s) (s := u) (t := t) (by first | (rw [HOB.out]; rfl) | (rw [HOC.out, HOB.out]; rfl) | (rw [HOB.out]; simp))]; rfl, Dr.below D2 _⟩
  have HOB := Lib.hid hHOB; clear hHOB
  have hp := okC_parts HOC.out
  have hul := hp.2.2.1
  have ht := hp.2.1
  have HRU := Lib.hid hp.2.2.2
  clear hp
  have hsl := okBn_len HOB.out
  have HR := Lib.hid (bn_rows HOB.out)
  have hm5 := okM_len HOK.out
  obtain ⟨PP, hPP⟩ : ∃ PP, posP m s t = PP := ⟨_, rfl⟩
  have HPP := Lib.hid hPP
  have HPL : Hid (PP.length ≤ 1024) := by show _ ≤ _; rw [← hPP]; exact patS_flt_len HOK.out
  have HPR : Hid (∀ r ∈ PP, r.length = m.length) := fun r hr => by rw [← hPP] at hr; exact patS_flt_row r hr
  clear hPP
  go_enter Try.func60, Try.ntmps60
  go_wp2_with fail
  refine (s_good (hm.dr D0) hlm (hu.dr D0) hlu HGU.out).mono ?_
  rintro e w1 ⟨rfl, d1⟩
  rw [HOC.out]
  have D1 := Dr.trans D0 d1
  clear d1
  go_wp2_with fail
  refine (s_validBans (hm.dr D1) (hs.dr D1) HOK.out hls HG.out).mono ?_
  rintro e w2 ⟨rfl, d2⟩
  rw [HOB.out]
  have D2 := Dr.trans D1 d2
  clear d2
  have Z2 := Dr.le D2
  go_wp2
  go_loopw [9] (fun i wr => ∃ k : Nat, k ≤ u.length ∧ i = .int .i64 k ∧ Dr w2 wr ∧ Hid ((u.take k).all (fun x => !bnB s x) = true)) (fun i _ => u.length - (intOf i).toNat)
  case atStart => exact ⟨0, Nat.zero_le _, rfl, Dr.refl _, by simp [Hid]⟩
  case round =>
    obtain ⟨k, hk, rfl, hd, hA⟩ := hrel
    have hDD := Dr.trans D2 hd
    have hzz := Dr.le hDD
    by_cases hlt : k < u.length
    · obtain ⟨b, o, a5, c5, r, ha, _, _, hcell, hr, hx⟩ := (hu.dr hDD).at hlt
      have hidx := idxII ha hlt c2
      have hrl : r.length = m.length := HRU.out r (List.mem_of_getElem? hx.out)
      have hrl5 : r.length ≤ 9223372036854775807 := by omega
      have H5 : Hid (∀ q ∈ s, q.length ≤ r.length) := fun q hq => by have := HR.out q hq; omega
      have hsd := hs.dr hDD
      replace hrl := Lib.hid hrl
      clear ha hu hs hm
      cases hb : bnB s r
      · have HBN := Lib.hid hb; clear hb
        go_wp2_with fail
        refine (s_allowed hsd hr (by omega) H5.out hrl5).mono ?_
        rintro e w5 ⟨rfl, d5⟩
        rw [HBN.out]
        go_wp2
        go_roundw
        case rel => exact ⟨k + 1, by omega, by go_num, Dr.trans hd d5, all_snoc hx.out hA.out (by rw [HBN.out]; rfl)⟩
        case measure => simp [intOf]; omega
      · have HBN := Lib.hid hb; clear hb
        go_wp2_with fail
        refine (s_allowed hsd hr (by omega) H5.out hrl5).mono ?_
        rintro e w5 ⟨rfl, d5⟩
        rw [HBN.out]
        go_wp2
        go_ret
        exact ⟨by rw [ia_ban (m := m) (b := s) (t := t) (all_fails hx.out (by rw [HBN.out]; rfl))]; rfl, Dr.below (Dr.trans hDD d5) _⟩
    · have HAL := Lib.hid (all_whole hA.out (show u.length ≤ k by omega))
      have HIA := Lib.hid (ia_yes HOC.out HOB.out HAL.out)
      have hmd := hm.dr hDD
      have hsd := hs.dr hDD
      have hud := hu.dr hDD
      clear hm hs hu
      go_wp2_with fail
      refine (s_possiblePatterns HOK.out hmd (by omega) hsd (by omega) (by omega) HR.out ht.1 ht.2).mono ?_
      rintro e w6 ⟨a6, c6, rfl, h6, hb6⟩
      have hall := h6.rii
      rw [HPP.out] at hall ⊢
      have hPl := HPL.out
      have hu6 := hud.below hb6 (by omega)
      have hb06 : Below w.heap.size w w6 := (Dr.below hDD w.heap.size).trans (hb6.mono (by omega))
      clear h6 hmd hsd hud hb6
      go_wp2
      go_loopw [11] (fun i wr => ∃ k : Nat, k ≤ PP.length ∧ i = .int .i64 k ∧ Dr w6 wr ∧ Hid ((PP.take k).all (hasP u) = true)) (fun i _ => PP.length - (intOf i).toNat)
      case atStart => exact ⟨0, Nat.zero_le _, rfl, Dr.refl _, by simp [Hid]⟩
      case round =>
        obtain ⟨j, hj, rfl, hd2, hA2⟩ := hrel
        have hbw := hb06.trans (Dr.below hd2 _)
        by_cases hlt2 : j < PP.length
        · obtain ⟨b, o, a5, c5, r, ha, _, _, hcell, hr, hx⟩ := (hall.dr hd2).at hlt2
          have hidx := idxII ha hlt2 c6
          have hrl : r.length = m.length := HPR.out r (List.mem_of_getElem? hx.out)
          have H5 : Hid (∀ q ∈ u, r.length ≤ q.length ∧ q.length ≤ 9223372036854775807) := fun q hq => by have := HRU.out q hq; omega
          have hud := hu6.dr hd2
          replace hrl := Lib.hid hrl
          clear ha hall hu6
          cases hb : hasP u r
          · have HBN := Lib.hid hb; clear hb
            go_wp2_with fail
            refine (s_covers hud hr (by omega) H5.out).mono ?_
            rintro e w7 ⟨rfl, d7⟩
            rw [HBN.out]
            go_wp2
            go_ret
            refine ⟨?_, hbw.trans (Dr.below d7 _)⟩
            rw [HIA.out, HPP.out, all_fails hx.out HBN.out]; rfl
          · have HBN := Lib.hid hb; clear hb
            go_wp2_with fail
            refine (s_covers hud hr (by omega) H5.out).mono ?_
            rintro e w7 ⟨rfl, d7⟩
            rw [HBN.out]
            go_wp2
            go_roundw
            case rel => exact ⟨j + 1, by omega, by go_num, Dr.trans hd2 d7, all_snoc hx.out hA2.out HBN.out⟩
            case measure => simp [intOf]; omega
        · have HEN := Lib.hid (all_whole hA2.out (show PP.length ≤ j by omega))
          go_wp2
          go_ret
          refine ⟨?_, hbw⟩
          rw [HIA.out, HPP.out, HEN.out]; rfl

set_option maxRecDepth 100000 in
set_option maxHeartbeats 2000000 in
theorem i_IsAllowedCovering {m : List Int} {a : Option Addr} {c lo hi : Nat} {s : List (List Int)} {a1 : Option Addr} {c1 lo1 hi1 : Nat} {u : List (List Int)} {a2 : Option Addr} {c2 lo2 hi2 : Nat} {t : Int} {w : World} (hm : RI w lo hi a m) (hlm : m.length ≤ 9223372036854775807) (hs : RII w lo1 hi1 a1 s) (hls : s.length ≤ 9223372036854775807) (hg : ∀ r ∈ s, r.length ≤ 9223372036854775807) (hu : RII w lo2 hi2 a2 u) (hlu : u.length ≤ 9223372036854775807) (hgu : ∀ r ∈ u, r.length ≤ 9223372036854775807) (_ht0 : -9223372036854775808 ≤ t) (_ht1 : t ≤ 9223372036854775807) (hB : hi ≤ w.heap.size) (hB1 : hi1 ≤ w.heap.size) (hB2 : hi2 ≤ w.heap.size)  :
    Calls Try.prog 61 #[.slice a m.length c, .slice a1 s.length c1, .slice a2 u.length c2, .int .i64 t] w (NewV w (.bool (iaB m s u t))) := by
  have HG := Lib.hid hg; clear hg
  have HGU := Lib.hid hgu; clear hgu
  have D0 : Dr w w := Dr.refl w
  cases hHIB : okM m && okBn m s
  · have HIB := Lib.hid hHIB; clear hHIB
    go_enter Try.func61, Try.ntmps61
    go_wp2_with fail
    refine (i_ValidBans (hm.dr D0) hlm (hs.dr D0) hls HG.out).mono ?_
    rintro e w1 ⟨rfl, d1⟩
    rw [HIB.out]
    have D1 := Dr.trans D0 d1
    clear d1
    go_wp2
    go_ret
    exact ⟨by rw [ia_no (m := m) (b := s) (s := u) (t := t) (by first | (rw [HIB.out]; rfl) | (have := HIB.out; revert this; unfold okC; cases okM m <;> cases okBn m s <;> simp))]; rfl, Dr.below D1 _⟩
  have HIB := Lib.hid hHIB; clear hHIB
  cases hHOC : okC m u t
  · have HOC := Lib.hid hHOC; clear hHOC
    go_enter Try.func61, Try.ntmps61
    go_wp2_with fail
    refine (i_ValidBans (hm.dr D0) hlm (hs.dr D0) hls HG.out).mono ?_
    rintro e w1 ⟨rfl, d1⟩
    rw [HIB.out]
    have D1 := Dr.trans D0 d1
    clear d1
    go_wp2_with fail
    refine (i_canCover (hm.dr D1) hlm (hu.dr D1) hlu HGU.out).mono ?_
    rintro e w2 ⟨rfl, d2⟩
    rw [HOC.out]
    have D2 := Dr.trans D1 d2
    clear d2
    go_wp2
    go_ret
    exact ⟨by rw [ia_no (m := m) (b := s) (s := u) (t := t) (by first | (rw [HOC.out]; rfl) | (have := HOC.out; revert this; unfold okC; cases okM m <;> cases okBn m s <;> simp))]; rfl, Dr.below D2 _⟩
  have HOC := Lib.hid hHOC; clear hHOC
  have hE := HIB.out
  rw [Bool.and_eq_true] at hE
  have HOK := Lib.hid hE.1
  have HOB := Lib.hid hE.2
  clear hE
  have hsl := okBn_len HOB.out
  have HR := Lib.hid (bn_rows HOB.out)
  have hm5 := okM_len HOK.out
  have hp := okC_parts HOC.out
  have hul := hp.2.2.1
  have ht := hp.2.1
  have HRU := Lib.hid hp.2.2.2
  clear hp
  obtain ⟨PP, hPP⟩ : ∃ PP, posP m s t = PP := ⟨_, rfl⟩
  have HPP := Lib.hid hPP
  have HPL : Hid (PP.length ≤ 1024) := by show _ ≤ _; rw [← hPP]; exact patS_flt_len HOK.out
  have HPR : Hid (∀ r ∈ PP, r.length = m.length) := fun r hr => by rw [← hPP] at hr; exact patS_flt_row r hr
  clear hPP
  go_enter Try.func61, Try.ntmps61
  go_wp2_with fail
  refine (i_ValidBans (hm.dr D0) hlm (hs.dr D0) hls HG.out).mono ?_
  rintro e w1 ⟨rfl, d1⟩
  rw [HIB.out]
  have D1 := Dr.trans D0 d1
  clear d1
  go_wp2_with fail
  refine (i_canCover (hm.dr D1) hlm (hu.dr D1) hlu HGU.out).mono ?_
  rintro e w2 ⟨rfl, d2⟩
  rw [HOC.out]
  have D2 := Dr.trans D1 d2
  clear d2
  have Z2 := Dr.le D2
  go_wp2_with fail
  refine (i_rulesOf m.length (hs.dr D2) (by omega) hsl (fun r hr => by have := HR.out r hr; omega)).mono ?_
  rintro e w3 ⟨v, rfl, ho3, hb3⟩
  have hz3 := hb3.size
  obtain ⟨vB, vc, rfl, ho3⟩ := ho3.slice
  have hA3 := Lib.hid (heap_alloc_new w3 (.cells #[.slice a m.length c, .slice vB s.length vc] 89))
  have hbA3 := (Below.refl w3.heap.size w3).alloc (Nat.le_refl _) (.cells #[.slice a m.length c, .slice vB s.length vc] 89)
  have hbw4 : Below w.heap.size w (w3.alloc (.cells #[.slice a m.length c, .slice vB s.length vc] 89)) := ((Dr.below D2 w.heap.size).trans (hb3.mono (by omega))).trans (hbA3.mono (by omega))
  have hm4 := hm.below hbw4 hB
  have hu4 := hu.below hbw4 hB2
  go_wp2_with fail
  refine (i_possible hm4 (by simp; omega) ho3 hbA3 HOK.out HOB.out ht.1 ht.2).mono ?_
  rintro e w5 ⟨v5, rfl, ho5, hb5⟩
  have hz5 := hb5.size
  simp only [World.size_alloc] at hz5
  rw [HPP.out] at ho5
  have hbw5 : Below w.heap.size w w5 := hbw4.trans (hb5.mono (by simp; omega))
  have hR5 := Lib.hid ((hb5.block w3.heap.size (by simp)).trans hA3.out)
  have hbA5 : Below w3.heap.size w3 w5 := hbA3.trans (hb5.mono (by simp))
  have ho5 : OwnP w5 (w3.heap.size + 1) v5 PP := by simpa using ho5
  have hu5 := hu.below hbw5 hB2
  clear hm hs hu hm4 hu4 hbA3 hbw4 hb5
  go_wp2
  go_loopw [10, 33] (fun x i wr => ∃ k : Nat, k ≤ u.length ∧ i = .int .i64 k ∧ OwnP wr (w3.heap.size + 1) x (misP (u.take k) PP) ∧ Below (w3.heap.size + 1) w5 wr ∧ Hid ((u.take k).all (fun x => !bnB s x) = true)) (fun _ i _ => u.length - (intOf i).toNat)
  case atStart => exact ⟨0, Nat.zero_le _, rfl, by simpa [mis_zero] using ho5, Below.refl _ _, by simp [Hid]⟩
  case round =>
    obtain ⟨k, hk, rfl, hown, hBr, hA⟩ := hrel
    have hzr := hBr.size
    have hbwr : Below w.heap.size w wr := hbw5.trans (hBr.mono (by omega))
    by_cases hlt : k < u.length
    · obtain ⟨b, o, a6, c6, r, ha, _, _, hcell, hr, hx⟩ := (hu5.below (hBr.mono (show w.heap.size ≤ _ by omega)) hB2).at hlt
      have hidx := idxII ha hlt c2
      have hrl : r.length = m.length := HRU.out r (List.mem_of_getElem? hx.out)
      have hrl5 : r.length ≤ 5 := by omega
      have HRL := Lib.hid hrl
      clear hrl ha hu5
      have hml := flt_len (fun p => !hasP (u.take k) p) PP PP.length
      have hmL : (misP (u.take k) PP).length ≤ 1048576 := by have := HPL.out; have h2 : (misP (u.take k) PP).length ≤ PP.length := List.length_filter_le _ _; omega
      clear hml
      go_wp2_with fail
      refine (i_patternOf hr (by omega) hrl5).mono ?_
      rintro e w6 ⟨rfl, hb6⟩
      have hz6 := hb6.size
      have hbA6 := (Below.refl w6.heap.size w6).alloc (Nat.le_refl _) (.cells #[.int .i64 (at5 r 0), .int .i64 (at5 r 1), .int .i64 (at5 r 2), .int .i64 (at5 r 3), .int .i64 (at5 r 4)] 53)
      have hcr := Lib.hid (heap_alloc_new w6 (.cells #[.int .i64 (at5 r 0), .int .i64 (at5 r 1), .int .i64 (at5 r 2), .int .i64 (at5 r 3), .int .i64 (at5 r 4)] 53))
      have hb56 : Below (w3.heap.size + 1) w5 (w6.alloc (.cells #[.int .i64 (at5 r 0), .int .i64 (at5 r 1), .int .i64 (at5 r 2), .int .i64 (at5 r 3), .int .i64 (at5 r 4)] 53)) := (hBr.trans (hb6.mono (by omega))).trans (hbA6.mono (by omega))
      obtain ⟨p0, p1, p2, p3, p4⟩ := cells5' hcr.out
      have hR6 := (hb56.block w3.heap.size (by omega)).trans hR5.out
      have q0 : (w6.alloc (.cells #[.int .i64 (at5 r 0), .int .i64 (at5 r 1), .int .i64 (at5 r 2), .int .i64 (at5 r 3), .int .i64 (at5 r 4)] 53)).cell? ⟨w3.heap.size, 0, none⟩ = some (.slice a m.length c) := by rw [cell_of_row _ _ 0 _ _ _ hR6]; rfl
      have q1 : (w6.alloc (.cells #[.int .i64 (at5 r 0), .int .i64 (at5 r 1), .int .i64 (at5 r 2), .int .i64 (at5 r 3), .int .i64 (at5 r 4)] 53)).cell? ⟨w3.heap.size, 1, none⟩ = some (.slice vB s.length vc) := by rw [cell_of_row _ _ 1 _ _ _ hR6]; rfl
      have hfb := Lib.hid (fun w9 (h : Below w3.heap.size w3 w9) => i_forbid (mv := .slice a m.length c) (w := w9) (at5 r) ho3 h (by omega))
      have hb36 : Below w3.heap.size w3 (w6.alloc (.cells #[.int .i64 (at5 r 0), .int .i64 (at5 r 1), .int .i64 (at5 r 2), .int .i64 (at5 r 3), .int .i64 (at5 r 4)] 53)) := hbA5.trans (hb56.mono (by omega))
      have hown6 : OwnP (w6.alloc (.cells #[.int .i64 (at5 r 0), .int .i64 (at5 r 1), .int .i64 (at5 r 2), .int .i64 (at5 r 3), .int .i64 (at5 r 4)] 53)) (w3.heap.size + 1) _ (misP (u.take k) PP) := (hown.kept fun j hj _ => hb6.block j hj).kept fun j hj _ => hbA6.block j hj
      clear hR6 hr hcell
      have hfe : fbB s (at5 r) = bnB s r := by
        unfold fbB bnB
        rw [Bool.eq_iff_iff, List.any_eq_true, List.any_eq_true]
        constructor
        · rintro ⟨q, hq, h⟩; exact ⟨q, hq, by rwa [meet5_mB (by have := HR.out q hq; have := HRL.out; omega) (by have := HR.out q hq; omega)] at h⟩
        · rintro ⟨q, hq, h⟩; exact ⟨q, hq, by rwa [meet5_mB (by have := HR.out q hq; have := HRL.out; omega) (by have := HR.out q hq; omega)]⟩
      replace hfe := Lib.hid hfe
      cases hb : bnB s r
      · have HBN := Lib.hid hb; clear hb
        go_wp2_with fail
        refine (hfb.out _ hb36).mono ?_
        rintro e w7 ⟨rfl, hb7⟩
        rw [hfe.out, HBN.out]
        have hz7 := hb7.size
        simp only [World.size_alloc] at hz7
        obtain ⟨e0, e1, e2, e3, e4⟩ := cells5' ((hb7.block _ (by simp)).trans hcr.out)
        have hown7 := hown6.kept fun j hj _ => hb7.block j hj
        have hb57 := hb56.trans (hb7.mono (by simp; omega))
        clear p0 p1 p2 p3 p4 q0 q1 hown6 hown
        go_wp2_with fail
        refine (i_unmetBy (at5 r) hown7 (Below.refl _ _) hmL).mono ?_
        rintro e w8 ⟨v8, rfl, ho8, hb8⟩
        rw [un_rst hrl5 (fun p hp => by have := HPR.out p (List.mem_filter.1 hp).1; have := HRL.out; omega), mis_more hx.out] at ho8
        have hb58 := hb57.trans (hb8.mono (by omega))
        have ho8 := ho8.mono (show w3.heap.size + 1 ≤ _ by omega)
        clear hown7
        go_wp2
        go_roundw
        case rel => exact ⟨k + 1, by omega, by go_num, ho8, hb58, all_snoc hx.out hA.out (by rw [HBN.out]; rfl)⟩
        case measure => simp [intOf]; omega
      · have HBN := Lib.hid hb; clear hb
        go_wp2_with fail
        refine (hfb.out _ hb36).mono ?_
        rintro e w7 ⟨rfl, hb7⟩
        rw [hfe.out, HBN.out]
        have hbw7 := (hbw5.trans (hb56.mono (by omega))).trans (hb7.mono (B' := w.heap.size) (by simp; omega))
        go_wp2
        go_ret
        exact ⟨by rw [ia_ban (m := m) (b := s) (t := t) (all_fails hx.out (by rw [HBN.out]; rfl))]; rfl, hbw7⟩
    · have HKE : Hid (u.take k = u) := List.take_of_length_le (by omega)
      have HAL := Lib.hid (all_whole hA.out (show u.length ≤ k by omega))
      have HIA := Lib.hid (ia_yes HOC.out HOB.out HAL.out)
      rw [HKE.out] at hown
      have hown := hown
      obtain ⟨av, cv, rfl, _⟩ := hown.at
      have HMA := Lib.hid (mis_all u PP)
      go_wp2
      go_ret
      refine ⟨?_, hbwr⟩
      rw [HIA.out, HPP.out, ← HMA.out]; rfl


end Go.Proofs.Ytpfojkhgelmciaa
