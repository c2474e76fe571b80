/- Walks: GrowRuns of the model. -/
import Derived.Test.YtkboggohkhjciaaUn
namespace Go.Proofs.Ytkboggohkhjciaa
open Go Go.RowKit

theorem grE_out {all : List (List Int)} {n : Nat} {out left : List (List Int)} (h : left = [] ∨ n = 0) : grE all n out left = out := by
  rcases h with rfl | rfl
  · exact grE_done _ _ _
  · rfl
theorem gw_f1 {n t : Int} (h : inR n 1 5 = false) : gwG n t = false := by unfold gwG; rw [h]; rfl
theorem gw_f2 {n t : Int} (h : inR t 0 n = false) : gwG n t = false := by unfold gwG; rw [h]; simp

theorem gwL_row {n t : Int} : ∀ r ∈ gwL n t, r.length ≤ 5 := by
  intro r hr
  cases hb : gwB n t
  · rw [(gw_no hb).1] at hr; cases hr
  · have hg : gwG n t = true := by unfold gwB at hb; simp at hb; exact hb.1
    have hm := gw_m hg
    unfold gwL at hr; rw [hb] at hr
    exact grE_rows (P := fun x => x.length ≤ 5) (alE_ne (N := n.toNat) (by omega)) (fun x hx => by have := alE_row hx; omega) 21 [] _ (by simp) r hr
theorem gwL_len {n t : Int} : (gwL n t).length ≤ 20 := by
  cases hb : gwB n t
  · rw [(gw_no hb).1]; simp
  · have hl : (gwR n t).length ≤ 20 := by unfold gwB at hb; simp at hb; exact hb.2
    unfold gwL; rw [hb]; exact hl
theorem gwL_sum {n t : Int} : sumL (gwL n t) ≤ 100 := sum5 gwL_row gwL_len
theorem gwL_gr {n t : Int} : True ∧ ∀ r ∈ gwL n t, r.length ≤ 4611686018427387904 := ⟨trivial, fun r hr => by have := gwL_row r hr; omega⟩

set_option maxRecDepth 100000 in
set_option maxHeartbeats 4000000 in
theorem s_GrowRuns {n t : Int} {w : World} (_h0 : -9223372036854775808 ≤ n) (_h1 : n ≤ 9223372036854775807) (_ht0 : -9223372036854775808 ≤ t) (_ht1 : t ≤ 9223372036854775807) :
    Calls Try.prog 37 #[.int .i64 n, .int .i64 t] w (NewLB w (gwL n t) (gwB n t)) := by
  cases hv : inR n 1 5
  · have HV := Lib.hid hv; clear hv
    have HNO := Lib.hid (gw_no (gw_g (gw_f1 (t := t) HV.out)))
    go_enter Try.func37, Try.ntmps37
    go_wp2_with fail
    refine (s_inRange n 1 5 w).mono ?_
    rintro e w1 ⟨rfl, d1⟩
    rw [HV.out]
    go_wp2
    go_ret2
    exact NewLB.none HNO.out (Dr.below d1 _)
  cases htt : inR t 0 n
  · have HV := Lib.hid hv; clear hv
    have HT := Lib.hid htt; clear htt
    have HNO := Lib.hid (gw_no (gw_g (gw_f2 (n := n) HT.out)))
    go_enter Try.func37, Try.ntmps37
    go_wp2_with fail
    refine (s_inRange n 1 5 w).mono ?_
    rintro e w1 ⟨rfl, d1⟩
    rw [HV.out]
    have d1 : Dr w w1 := d1
    go_wp2_with fail
    refine (s_inRange t 0 n w1).mono ?_
    rintro e w2 ⟨rfl, d2⟩
    rw [HT.out]
    have d2 : Dr w1 w2 := d2
    go_wp2
    go_ret2
    exact NewLB.none HNO.out (Dr.below (Dr.trans d1 d2) _)
  have hgg : gwG n t = true := by unfold gwG; rw [hv, htt]; rfl
  have hn := gw_m hgg
  have HGG := Lib.hid hgg
  have HV := Lib.hid hv
  have HT := Lib.hid htt
  clear hv htt hgg
  obtain ⟨N, rfl⟩ := Int.eq_ofNat_of_zero_le (show 0 ≤ n by omega)
  obtain ⟨q, rfl⟩ := Int.eq_ofNat_of_zero_le (show 0 ≤ t by omega)
  have HALL : Hid (∀ r ∈ alE N N, r.length = N ∧ okE ((N : Int) - 1) r = true) := fun r hr => alE_row hr
  have HLEF : Hid (∀ l ∈ alE N q, l.length ≤ 1048576) := fun l hl => by have := (alE_row hl).1; omega
  have HAN := Lib.hid (alE_ne (N := N) (by omega))
  have hal := alE_len (n := N) (t := N) (by omega) (by omega)
  have hll := alE_len (n := N) (t := q) (by omega) (by omega)
  have HGR : Hid (gwR (N : Int) (q : Int) = grE (alE N N) 21 [] (alE N q)) := rfl
  obtain ⟨R, hR⟩ : ∃ R, gwR (N : Int) (q : Int) = R := ⟨_, rfl⟩
  have HS : Hid (R.length ≤ 20 → gwL (N : Int) (q : Int) = R ∧ gwB (N : Int) (q : Int) = true) := fun h => by rw [← hR] at h ⊢; exact gw_some HGG.out h
  have HB : Hid (20 < R.length → gwL (N : Int) (q : Int) = [] ∧ gwB (N : Int) (q : Int) = false) := fun h => by rw [← hR] at h; exact gw_big h
  rw [hR] at HGR
  obtain ⟨all, hall⟩ : ∃ all, alE N N = all := ⟨_, rfl⟩
  obtain ⟨lf, hlf⟩ : ∃ lf, alE N q = lf := ⟨_, rfl⟩
  have HAE : Hid (lsN N N [[]] = all) := hall
  obtain ⟨M, hM⟩ : ∃ M, all.length = M := ⟨_, rfl⟩
  have HM := Lib.hid hM
  have HLE : Hid (lsN N q [[]] = lf) := hlf
  rw [hall, hlf] at HGR
  rw [hall] at HALL HAN hal
  rw [hM] at hal
  rw [hlf] at HLEF hll
  clear hR hall hlf hM
  go_enter Try.func37, Try.ntmps37
  go_wp2_with fail
  refine (s_inRange (N : Int) 1 5 w).mono ?_
  rintro e w1 ⟨rfl, d1⟩
  rw [HV.out]
  have d1 : Dr w w1 := d1
  go_wp2_with fail
  refine (s_inRange (q : Int) 0 (N : Int) w1).mono ?_
  rintro e w2 ⟨rfl, d2⟩
  rw [HT.out]
  have d2 : Dr w1 w2 := d2
  have D2 := Dr.trans d1 d2
  have Z2 := Dr.le D2
  have hbA := (Below.refl w2.heap.size w2).alloc (Nat.le_refl _) (.cells #[] 3)
  clear d1 d2
  go_wp2_with fail
  refine (s_lists (n := N) (t := N) (by omega) (by omega) N [] ⟨w2.heap.size, 0, none⟩ 0 0 0 _ (by simp) (RI.nil _ _ _ _) (by simp)).mono ?_
  rintro e w3 ⟨ad3, c3, rfl, h3, b3⟩
  rw [HAE.out] at h3
  rw [HAE.out, HM.out]
  have hb23 := hbA.trans (b3.mono (by simp))
  have z3 := hb23.size
  have h3' : RII w3 w2.heap.size w3.heap.size (some ad3) all := h3.oii.rii.wide (by simp) (Nat.le_refl _)
  have hb03 := (Dr.below D2 w.heap.size).trans (hb23.mono (by omega))
  have hbC := (Below.refl w3.heap.size w3).alloc (Nat.le_refl _) (.cells #[] 3)
  clear h3 b3 hbA hb23
  go_wp2_with fail
  refine (s_lists (n := N) (t := q) (by omega) (by omega) q [] ⟨w3.heap.size, 0, none⟩ 0 0 0 _ (by simp) (RI.nil _ _ _ _) (by simp)).mono ?_
  rintro e w4 ⟨ad4, c4, rfl, h4, b4⟩
  rw [HLE.out] at h4
  rw [HLE.out]
  have hb34 := hbC.trans (b4.mono (by simp))
  have z4 := hb34.size
  have h4' : OIIc w4 w3.heap.size w4.heap.size (some ad4) c4 lf := ⟨h4.oii.wide (by simp) (Nat.le_refl _), h4.cap⟩
  have hA4 := h3'.below hb34 (Nat.le_refl _)
  have hb04 := hb03.trans (hb34.mono (by omega))
  have hbD := (Below.refl w4.heap.size w4).alloc (Nat.le_refl _) (.cells #[] 29)
  have hox0 : OIX (w4.alloc (.cells #[] 29)) w3.heap.size w4.heap.size (w4.heap.size + 1) (some ad4) c4 lf := (OIX.of h4' (Nat.le_refl _)).below hbD (Nat.le_refl _)
  have hst := OwnLL.made w4 w4.heap.size (Nat.le_refl _)
  clear h4 b4 hbC h3' h4' hb03 hb34
  go_wp2
  go_loopw [7, 8, 9, 10] (fun vl vo _ _ wr => ∃ (out left : List (List Int)) (ag av : Option Addr) (cg cv Bq : Nat), vo = .slice ag out.length cg ∧ vl = .slice av left.length cv ∧ OwnLL wr w4.heap.size (.slice ag out.length cg) out ∧ OIX wr w3.heap.size w4.heap.size Bq av cv left ∧ (∀ g, (Value.slice ag out.length cg).ownBlock = some g → w4.heap.size ≤ g ∧ g < Bq) ∧ Bq ≤ wr.heap.size ∧ Below w4.heap.size w4 wr ∧ out.length ≤ 21 ∧ left.length ≤ 3125 ∧
    Hid (grE all (21 - out.length) out left = R ∧ ∀ l ∈ left, l.length ≤ 1048576)) (fun _ vo _ _ _ => 21 - lenV5 vo)
  case atStart => exact ⟨[], lf, some ⟨w4.heap.size, 0, none⟩, some ad4, 0, c4, w4.heap.size + 1, rfl, rfl, hst, hox0, (fun g hg => by cases hg; exact ⟨Nat.le_refl _, Nat.lt_succ_self _⟩), by simp, hbD, by simp, hll, HGR.out.symm, HLEF.out⟩
  case round =>
    clear hst hox0 hbD
    obtain ⟨out, left, ag, av, cg, cv, Bq, rfl, rfl, hown, hox, hgB, hBq, hd, hol, hlen, hI⟩ := hrel
    have hz := hd.size
    obtain ⟨wo, rfl⟩ : ∃ x : World, x = wr := ⟨_, rfl⟩
    have hfin : left = [] ∨ 21 - out.length = 0 → Hid (R = out) := fun h => by show _ = _; rw [← hI.out.1, grE_out h]
    by_cases hl0 : left.length = 0
    · have HE := hfin (.inl (List.eq_nil_of_length_eq_zero hl0))
      obtain ⟨a5, c5, hv5, h5⟩ := hown.slice
      cases hv5
      clear hfin
      by_cases h20 : out.length ≤ 20
      · have hdg : decide (20 < out.length) = false := decide_eq_false (by omega)
        have HYE := Lib.hid (HS.out (by rw [HE.out]; exact h20))
        rw [HE.out] at HYE
        go_wp2
        go_ret2
        exact NewLB.some HYE.out rfl ⟨h5.oii.wide (by omega) (Nat.le_refl _), h5.cap⟩ (hb04.trans (hd.mono (by omega)))
      · have hdg : decide (20 < out.length) = true := decide_eq_true (by omega)
        have HNO := Lib.hid (HB.out (by rw [HE.out]; omega))
        go_wp2
        go_ret2
        exact NewLB.none HNO.out (hb04.trans (hd.mono (by omega)))
    by_cases h20 : out.length ≤ 20
    case neg =>
      have HE := hfin (.inr (by omega))
      have hdg : decide (20 < out.length) = true := decide_eq_true (by omega)
      have hdg2 : decide (out.length ≤ 20) = false := decide_eq_false (by omega)
      have HNO := Lib.hid (HB.out (by rw [HE.out]; omega))
      clear hfin
      go_wp2
      go_ret2
      exact NewLB.none HNO.out (hb04.trans (hd.mono (by omega)))
    clear hfin
    have hAo := hA4.below hd (by omega)
    have hlr := hox.rii (by omega)
    have hLH := Lib.hid hlr
    have hlen0 : 0 < all.length := by have := HAN.out; cases hq : all with | nil => exact absurd hq this | cons _ _ => simp
    have hlenM : 0 < M := by have := HM.out; omega
    obtain ⟨b0, o0, a0, c0, r0, ha0, _, hbh0, hcell0, hr0, hx0, hcp0⟩ := hAo.atc hlen0
    obtain rfl : ad3 = ⟨b0, o0, none⟩ := by simpa using ha0
    rw [Nat.add_zero] at hcell0
    have hst : Hid (r0 = bstL (nwN left) (all.take 1)) := by show _ = _; rw [take_snoc (k := 0) hx0.out]; simp [bstL_one]
    have HLH := Lib.hid hI.out.2
    have hdg3 : decide ((out.length : Int) ≤ 20) = true := decide_eq_true (by omega)
    clear ha0 hx0 hlen0
    go_wp2
    clear hcell0
    go_loopw [9, 10] (fun v i wr => ∃ (k : Nat) (ab : Option Addr) (cb : Nat) (rb : List Int), 1 ≤ k ∧ k ≤ M ∧ i = .int .i64 k ∧ v = .slice ab rb.length cb ∧ RI wo w2.heap.size w3.heap.size ab rb ∧ rb.length ≤ cb ∧ Hid (rb = bstL (nwN left) (all.take k)) ∧ Dr wo wr) (fun _ i _ => M - (intOf i).toNat)
    case atStart => exact ⟨1, a0, c0, r0, Nat.le_refl _, hlenM, rfl, rfl, hr0, hcp0, hst, Dr.refl _⟩
    case round =>
      clear hr0 hst
      obtain ⟨k, ab, cb, rb, hk1, hk, rfl, rfl, hrb, hcb, hX, hdr⟩ := hrel
      by_cases hlt : k < M
      · obtain ⟨b, o, a1, c1, r, ha, _, hbh, hcell0, hr1, hx, hcp⟩ := hAo.atc (show k < all.length by have := HM.out; omega)
        obtain ⟨rfl, rfl⟩ : b0 = b ∧ o0 = o := by simpa using ha
        have hidx := idxII (a := some ⟨b0, o0, none⟩) rfl hlt c3
        have hbs : b0 < wo.heap.size := by omega
        have hcell := ((Dr.below hdr wo.heap.size).cell (p := ⟨b0, o0 + k, none⟩) hbs).trans hcell0
        have hr2 := hr1.dr hdr
        have hrb2 := hrb.dr hdr
        have hlr2 := hlr.dr hdr
        have hrl : r.length ≤ 1048576 := by have := (HALL.out r (List.mem_of_getElem? hx.out)).1; omega
        have hrbl : rb.length ≤ 1048576 := by
          have h9 := (HALL.out rb (by rw [hX.out]; exact List.mem_of_mem_take (bstL_mem _ (take_ne (by omega) hx.out)))).1
          omega
        obtain ⟨fr, hfr⟩ : ∃ q, nwN left r = q := ⟨_, rfl⟩
        obtain ⟨fb, hfb⟩ : ∃ q, nwN left rb = q := ⟨_, rfl⟩
        have HC1 := Lib.hid (fun (wx : World) (d : Dr wr wx) => s_newIn (c := c1) (c' := cv) (hr2.dr d) (hlr2.dr d) (by omega) (by omega) HLH.out)
        have HC2 := Lib.hid (fun (wx : World) (d : Dr wr wx) => s_newIn (c := cb) (c' := cv) (hrb2.dr d) (hlr2.dr d) hrbl (by omega) HLH.out)
        rw [hfr] at HC1; rw [hfb] at HC2
        have HFR := Lib.hid hfr
        have HFB := Lib.hid hfb
        have HT := Lib.hid (bstL_snoc (nwN left) (all := all.take k) r (take_ne (by omega) hx.out))
        have HX := Lib.hid hx.out
        clear hfr hfb ha hx hcell0 hr2 hrb2 hlr2
        by_cases hgt : (fb : Int) < (fr : Int)
        · have HX2 : Hid (r = bstL (nwN left) (all.take (k + 1))) := by
            show _ = _
            rw [take_snoc HX.out, HT.out, ← hX.out, btr_yes]
            rw [HFR.out, HFB.out]; omega
          go_wp2_with fail
          refine (HC1.out wr (Dr.refl _)).mono ?_
          rintro e w5 ⟨rfl, d5⟩
          have d5 : Dr wr w5 := d5
          have hcell1 := ((Dr.below d5 wr.heap.size).cell (p := ⟨b0, o0 + k, none⟩) (show b0 < wr.heap.size by have := Dr.le hdr; omega)).trans hcell
          go_wp2_with fail
          refine (HC2.out w5 d5).mono ?_
          rintro e w6 ⟨rfl, d6⟩
          have d6 : Dr w5 w6 := d6
          have hcell2 := ((Dr.below d6 w5.heap.size).cell (p := ⟨b0, o0 + k, none⟩) (show b0 < w5.heap.size by have := Dr.le hdr; have := Dr.le d5; omega)).trans hcell1
          have hd6 := Dr.trans hdr (Dr.trans d5 d6)
          clear hcell hcell1 d5 d6 hdr
          go_wp2
          go_roundw
          case rel => exact ⟨k + 1, a1, c1, r, by omega, by omega, by go_num, rfl, hr1, hcp, HX2, hd6⟩
          case measure => simp [intOf]; omega
        · have HX2 : Hid (rb = bstL (nwN left) (all.take (k + 1))) := by
            show _ = _
            rw [take_snoc HX.out, HT.out, ← hX.out, btr_no]
            rw [HFR.out, HFB.out]; omega
          go_wp2_with fail
          refine (HC1.out wr (Dr.refl _)).mono ?_
          rintro e w5 ⟨rfl, d5⟩
          have d5 : Dr wr w5 := d5
          go_wp2_with fail
          refine (HC2.out w5 d5).mono ?_
          rintro e w6 ⟨rfl, d6⟩
          have d6 : Dr w5 w6 := d6
          have hd6 := Dr.trans hdr (Dr.trans d5 d6)
          clear hcell d5 d6 hdr
          go_wp2
          go_roundw
          case rel => exact ⟨k + 1, ab, cb, rb, by omega, by omega, by go_num, rfl, hrb, hcb, HX2, hd6⟩
          case measure => simp [intOf]; omega
      · have HBE : Hid (rb = bstL (nwN left) all) := by
          have h9 := hX.out
          rwa [List.take_of_length_le (by have := HM.out; omega)] at h9
        have hbm : rb ∈ all := by rw [HBE.out]; exact bstL_mem _ HAN.out
        have hbrl := (HALL.out rb hbm).1
        have hrbne : rb ≠ [] := by intro e; rw [e] at hbrl; simp at hbrl; omega
        have hrb5 : rb.length ≤ 5 := by omega
        obtain ⟨bb, ob, _, hab, _, _, _⟩ := hrb.at (show 0 < rb.length by omega)
        subst hab
        have hnext : Hid (grE all (21 - (out ++ [rb]).length) (out ++ [rb]) (hidA rb left) = R) := by
          show _ = _
          rw [← hI.out.1, show 21 - out.length = (20 - out.length) + 1 from by omega, grE_step _ _ _ (by intro e; rw [e] at hl0; simp at hl0), ← HBE.out]
          simp only [List.length_append, List.length_cons, List.length_nil]
          rw [show 21 - (out.length + (0 + 1)) = 20 - out.length from by omega]
        have HI2 : Hid (∀ l ∈ hidA rb left, l.length ≤ 1048576) := fun l hl => hI.out.2 l (List.mem_filter.1 (show l ∈ left.filter _ from hl)).1
        have hnl := hid_nw left rb
        have hbd := Dr.below hdr wo.heap.size
        have zr := Dr.le hdr
        have hown2 := hown.below hbd
        have hox2 := hox.below hbd (by omega)
        have hrb2 := hrb.dr hdr
        have hdw := hd.trans (hbd.mono hz)
        have hbA := (Below.refl wr.heap.size wr).alloc (Nat.le_refl _) (.cells #[] 3)
        have hstr := OwnL.made wr wr.heap.size (Nat.le_refl _)
        have hhs := hrb2.below hbA (by omega)
        have hkl : out.length ≤ 1099511627776 := by omega
        have hrbl : rb.length ≤ 1099511627776 := by omega
        clear hbm hbrl hrbne hX HBE hbd hdr hown hox hlr hAo
        go_wp2_with (first
          | (at_builtin; refine wpList_appS rfl (.tmp 61) (.tmp 62) rfl wr.heap.size _ [] rfl hstr rb w2.heap.size w3.heap.size cb _ rfl hhs (by simp) hrbl (by simp) ?_; intro v5 w5 hown5 hb5; have hb05 := chain1 hb5; have hs05 := hb05.size; simp only [List.nil_append] at hown5; obtain ⟨a5, c5, rfl, ho5⟩ := hown5.slice; have hO := OII.one5 (t := 29) (c := c5) rfl ho5 hs05 (Nat.le_refl _); have hb6 := hb05.alloc hs05 (.cells #[.slice a5 rb.length c5] 29); obtain ⟨A4, C4, G4, hf4, hc4⟩ := Fam.of5 hO; have hox6 := hox2.below hb6 (by omega); have hrb6 := hrb2.below hb6 (by omega); have hW6 := hb6.size; have hB6 : w4.heap.size ≤ wr.heap.size := (by omega); clear hown5 hb5 hO hstr hhs hox2 hrb2)
          | (at_builtin; refine wpList_appLLg (W0 := wr) rfl (.tmp 60) (.tmp 64) rfl w4.heap.size (.slice ag out.length cg) out [rb] rfl hown2 hb6 hB6 ⟨w5.heap.size, 0, none⟩ 1 1 rfl rfl A4 C4 G4 hf4 hc4 hkl (by simp) ?_; intro v7 w7 hown7 hb7 hnn7 g2 g4; obtain ⟨a7, c7, hv7, _⟩ := hown7.slice; subst hv7; have z7 := hb7.size; have hox7 := hox6.kept (w' := w7) (fun k hk => hb7.block k hk) (fun g hg1 hg2 => g2.block g hg2 (fun e => by have := hgB g e.symm; omega)) z7; have hrb7 := hrb6.below hb7 (by omega); have hbE := (Below.refl w7.heap.size w7).alloc (Nat.le_refl _) (.cells #[.slice (some ⟨bb, ob, none⟩) rb.length cb] 29); have hn7 := heap_alloc_new w7 (.cells #[.slice (some ⟨bb, ob, none⟩) rb.length cb] 29); have hox8 := hox7.below hbE (by omega); have hRR : RII (w7.alloc (.cells #[.slice (some ⟨bb, ob, none⟩) rb.length cb] 29)) 0 (w7.heap.size + 1) (some ⟨w7.heap.size, 0, none⟩) [rb] := (fun k hk => by
              have hk0 : k = 0 := by simp at hk; omega
              subst hk0
              exact ⟨w7.heap.size, 0, _, cb, rb, rfl, Nat.zero_le _, by omega, rfl, by rw [cell_of_row _ _ _ _ _ _ hn7]; rfl, (hrb7.below hbE (by omega)).wide (Nat.zero_le _) (by omega), hcb⟩); clear hox6 hrb6 hn7 hox7)
          | (go_at_call 57; refine (s_unseenX (runs := [rb]) hRR (by simp) hox8 (by simp; omega) (by omega) (by simp) (fun r hr => by rw [List.mem_singleton.1 hr]; omega) hI.out.2).mono ?_; rintro e w9 ⟨a9, c9, rfl, h9, b9⟩)
          | go_in)
        rw [unA_one] at h9 ⊢
        have hb79 := hbE.trans (b9.mono (by simp))
        have z9 := hb79.size
        have hown9 := hown7.below hb79
        have hlt7 := hown7.lt
        have hd9 := (hdw.trans ((hb6.mono (by omega)).trans hb7)).trans (hb79.mono (by omega))
        have hgB9 : ∀ g, (Value.slice a7 (out ++ [rb]).length c7).ownBlock = some g → w4.heap.size ≤ g ∧ g < w7.heap.size + 1 := fun g hg => by have := hlt7 g hg; omega
        have h9' : OIX w9 w3.heap.size w4.heap.size (w7.heap.size + 1) a9 c9 (hidA rb left) := by simpa using h9
        have z91 : w7.heap.size + 1 ≤ w9.heap.size := by have := b9.size; simp at this; omega
        clear hown7 hown2 b9 hb79 hbE hb7 hb6 hf4 hc4 hnn7 g2 g4 hd hdw hox8 hRR h9 hlt7 hgB hb05
        go_roundw
        case rel => exact ⟨out ++ [rb], hidA rb left, a7, a9, c7, c9, _, by simp, rfl, hown9, h9', hgB9, z91, hd9, by simp; omega, by omega, hnext.out, HI2.out⟩
        case measure => simp [lenV5]; omega

end Go.Proofs.Ytkboggohkhjciaa
