/- Walks: ImpliedBans, by the program. -/
import Derived.Test.YtehoagbpgahopaaVe
import Derived.Test.YtehoagbpgahopaaZl
import Derived.Test.YtehoagbpgahopaaZu
namespace Go.Proofs.Ytehoagbpgahopaa
open Go.RowKit

theorem imp_eq {m : List Int} {s : List (List Int)} {t : Int} (hok : okM m = true) (hob : okBn m s = true) : (ubP s (patS m [] t)).filter (fun l => !hasP (alL m s) l) = impP m s t := by
  unfold ubP impP
  rw [List.filter_filter]
  apply List.filter_congr
  intro x hx
  have hxl := patS_row x hx
  have hm5 := (okM_len hok).2
  have hfb : fbB s (at5 x) = bnB s x := by
    unfold fbB bnB
    rw [Bool.eq_iff_iff, List.any_eq_true, List.any_eq_true]
    constructor
    · rintro ⟨p, h1, h2⟩
      exact ⟨p, h1, by rwa [meet5_mB (by rw [okW_len (okBn_all hob h1), hxl]) (by rw [okW_len (okBn_all hob h1)]; exact hm5)] at h2⟩
    · rintro ⟨p, h1, h2⟩
      exact ⟨p, h1, by rwa [meet5_mB (by rw [okW_len (okBn_all hob h1), hxl]) (by rw [okW_len (okBn_all hob h1)]; exact hm5)]⟩
  unfold impF
  rw [hfb, Bool.and_comm]

set_option maxRecDepth 100000 in
set_option maxHeartbeats 4000000 in
theorem i_ImpliedBans {m : List Int} {a : Option Addr} {c lo hi : Nat} {s : List (List Int)} {a1 : Option Addr} {c1 lo1 hi1 : Nat} {t : Int} {w : World} (hm : RI w lo hi a m) (hlm : m.length ≤ 9223372036854775807) (hs : RII w lo1 hi1 a1 s) (hls : s.length ≤ 9223372036854775807) (hg : ∀ r ∈ s, r.length ≤ 9223372036854775807) (_ht0 : -9223372036854775808 ≤ t) (_ht1 : t ≤ 9223372036854775807) (hB : hi ≤ w.heap.size) (hB1 : hi1 ≤ w.heap.size)  :
    Calls Try.prog 78 #[.slice a m.length c, .slice a1 s.length c1, .int .i64 t] w (NewII w (imL m s t)) := by
  have HG := Lib.hid hg; clear hg
  have D0 : Dr w w := Dr.refl w
  cases hHIB : okM m && okBn m s
  · have HIB := Lib.hid hHIB; clear hHIB
    go_enter Try.func78, Try.ntmps78
    go_wp2_with fail
    refine (i_ValidBans (hm.dr D0) hlm (hs.dr D0) hls HG.out).mono ?_
    rintro e w1 ⟨rfl, d1⟩
    rw [HIB.out]
    have D1 := Dr.trans D0 d1
    clear d1
    go_wp2
    go_ret
    exact NewII.none (im_no (show bnT m s t = false by unfold bnT; rw [HIB.out]; rfl)) (Dr.below D1 _)
  have HIB := Lib.hid hHIB; clear hHIB
  cases hHIN : inR t 0 m.length
  · have HIN := Lib.hid hHIN; clear hHIN
    go_enter Try.func78, Try.ntmps78
    go_wp2_with fail
    refine (i_ValidBans (hm.dr D0) hlm (hs.dr D0) hls HG.out).mono ?_
    rintro e w1 ⟨rfl, d1⟩
    rw [HIB.out]
    have D1 := Dr.trans D0 d1
    clear d1
    go_wp2_with fail
    refine (i_isStrength hlm).mono ?_
    rintro e w2 ⟨rfl, d2⟩
    rw [HIN.out]
    have D2 := Dr.trans D1 d2
    clear d2
    go_wp2
    go_ret
    exact NewII.none (im_no (show bnT m s t = false by unfold bnT; rw [HIB.out, HIN.out]; rfl)) (Dr.below D2 _)
  have HIN := Lib.hid hHIN; clear hHIN
  have hE := HIB.out
  rw [Bool.and_eq_true] at hE
  have HOK := Lib.hid hE.1
  have HOB := Lib.hid hE.2
  clear hE
  have hsl := okBn_len HOB.out
  have HR := Lib.hid (bn_rows HOB.out)
  have hm5 := okM_len HOK.out
  have ht := inR_true.1 HIN.out
  have hbt := bnT_mk HOK.out HOB.out ht.1 ht.2
  have HIM := Lib.hid (im_yes hbt)
  have hln := imL_len (m := m) (b := s) (t := t)
  have hrw := imL_row (m := m) (b := s) (t := t)
  rw [HIM.out] at hln hrw
  have HLN := Lib.hid hln; have HRW := Lib.hid hrw
  have hie := imp_eq (t := t) HOK.out HOB.out
  have hpl := patS_len (head := []) HOK.out t
  have hpo : ∀ l ∈ patS m [] t, okP m l = true := fun l hl => ((mem_patS HOK.out).1 hl).1
  obtain ⟨ps, hps⟩ : ∃ ps, patS m [] t = ps := ⟨_, rfl⟩
  rw [hps] at hie hpl hpo
  have hul := ub_len s ps
  have HIE := Lib.hid hie; have HPO := Lib.hid hpo; have HPS := Lib.hid hps
  clear hln hrw hbt hie hpo hps
  go_enter Try.func78, Try.ntmps78
  go_wp2_with fail
  refine (i_ValidBans (hm.dr D0) hlm (hs.dr D0) hls HG.out).mono ?_
  rintro e w1 ⟨rfl, d1⟩
  rw [HIB.out]
  have D1 := Dr.trans D0 d1
  clear d1
  go_wp2_with fail
  refine (i_isStrength hlm).mono ?_
  rintro e w2 ⟨rfl, d2⟩
  rw [HIN.out]
  have D2 := Dr.trans D1 d2
  clear d2
  have Z2 := Dr.le D2
  go_wp2_with fail
  refine (i_rulesOf m.length (hs.dr D2) (by omega) hsl (fun r hr => by have := HR.out r hr; omega)).mono ?_
  rintro e w3 ⟨v, rfl, ho3, hb3⟩
  obtain ⟨va, vc, hv3, ho3⟩ := ho3.slice
  subst hv3
  have hz3 := hb3.size
  have hm3 := (hm.dr D2).below hb3 (by omega)
  have hA := Lib.hid (heap_alloc_new w3 (.cells #[.slice a m.length c, .slice va s.length vc] 93))
  have hbA := (Below.refl w3.heap.size w3).alloc (Nat.le_refl _) (.cells #[.slice a m.length c, .slice va s.length vc] 93)
  obtain ⟨W, hWe⟩ : ∃ W, w3.alloc (.cells #[.slice a m.length c, .slice va s.length vc] 93) = W := ⟨_, rfl⟩
  have hWs : W.heap.size = w3.heap.size + 1 := by rw [← hWe]; simp
  rw [hWe] at hA hbA
  have hWl : w3.heap.size + 1 ≤ W.heap.size ∧ W.heap.size ≤ w3.heap.size + 1 := by omega
  have HS : Hid (∀ w', Below W.heap.size W w' → w'.cell? ⟨w3.heap.size, 0, none⟩ = some (.slice a m.length c) ∧ w'.cell? ⟨w3.heap.size, 1, none⟩ = some (.slice va s.length vc)) := fun w' hb => by
    have h := (hb.block w3.heap.size (by omega)).trans hA.out
    rw [cell_of_row _ _ 0 _ _ _ h, cell_of_row _ _ 1 _ _ _ h]; exact ⟨rfl, rfl⟩
  have HMW : Hid (∀ w', Below W.heap.size W w' → RI w' lo hi a m) := fun w' hb => (hm3.below hbA (by omega)).below hb (by omega)
  have HC1 : Hid (∀ w', Below W.heap.size W w' → Calls Try.prog 144 #[.slice a m.length c, .int .i64 t] w' (NewP w' ps)) := fun w' hb => by
    rw [← HPS.out]
    exact i_patternsOf HOK.out (HMW.out w' hb) (by have := hb.size; omega) ht.1 ht.2
  have HC2 : Hid (∀ w2 v2, Below W.heap.size W w2 → OwnP w2 W.heap.size v2 ps → Calls Try.prog 190 #[.agg #[.slice a m.length c, .slice va s.length vc], v2] w2 (fun e w' => ∃ v', e = .returned v' ∧ OwnP w' W.heap.size v' (ubP s ps) ∧ GrP w2 w' v2 v')) := fun w2 v2 hb hop =>
    i_unbanned ho3 (hbA.trans (hb.mono (by omega))) (by omega) hop (by omega) (by omega)
  have HC3 : Hid (∀ w3' v3, Below W.heap.size W w3' → OwnP w3' W.heap.size v3 (ubP s ps) → Calls Try.prog 181 #[v3, .func (.func 132) #[.agg #[.slice a m.length c, .slice va s.length vc]] #[]] w3' (fun e w' => ∃ v', e = .returned v' ∧ OwnP w' W.heap.size v' (impP m s t) ∧ GrP w3' w' v3 v')) := fun w3' v3 hb hop => by
    have hlt := hop.lt
    rw [← HIE.out]
    refine x_DelPos _ (fun l => hasP (alL m s) l) hop (by omega) fun l hl w' hgr => ?_
    have hbw : Below W.heap.size W w' := ⟨hgr.os.trans hb.os, hgr.tape.trans hb.tape, hgr.output.trans hb.output, Nat.le_trans hb.size hgr.size, fun k hk => (hgr.block k (by have := hb.size; omega) (fun e => by have := (hlt _ e.symm).1; omega)).trans (hb.block k hk)⟩
    exact i_isPossible (HMW.out w' hbw) (by have := hbw.size; omega) ho3 (hbA.trans (hbw.mono (by omega))) HOK.out HOB.out (HPO.out l (List.mem_filter.1 hl).1)
  have hbW : Below w.heap.size w W := ((Dr.below D2 w.heap.size).trans (hb3.mono (by omega))).trans (hbA.mono (by omega))
  have hq1 : Below W.heap.size W W := Below.refl _ _
  clear hbA hm3 hm hs hWs hb3 ho3 HMW
  go_wp2_with fail
  try rw [hWe]
  clear hWe
  go_region_held3 (fun w' => w'.cell? ⟨w3.heap.size, 0, none⟩ = some (.slice a m.length c) ∧ w'.cell? ⟨w3.heap.size, 1, none⟩ = some (.slice va s.length vc))
    (first | exact HS.out _ (by first | exact hq7 | exact hq6 | exact hq5 | exact hq1.drew | exact hq1) | go_keep) ((first
    | (go_at_call 144; refine (HC1.out _ (by first | exact hq1.drew | exact hq1)).mono ?_; rintro e w5 ⟨v5, rfl, ho5, hb5⟩; have ho5 := ho5.mono (B' := W.heap.size) (by simp); have hq5 : Below W.heap.size W w5 := (by first | exact hq1.drew.trans hb5 | exact hq1.trans hb5))
    | (go_at_call 190; refine (HC2.out w5 _ hq5 ho5).mono ?_; rintro e w6 ⟨v6, rfl, ho6, hg6⟩; have hq6 : Below W.heap.size W w6 := hq5.trans (hg6.below (fun g hg => (ho5.lt g hg).1) hq5.size))
    | (go_at_call 181; refine (HC3.out w6 _ hq6 ho6).mono ?_; rintro e w7 ⟨v7, rfl, ho7, hg7⟩; have hq7 : Below W.heap.size W w7 := hq6.trans (hg7.below (fun g hg => (ho6.lt g hg).1) hq6.size))))
  all_goals
    have hz7 := hq7.size
    have hzW := hbW.size
    go_wp2_with fail
    refine (i_listsOf ho7 hm5.1 hm5.2 (Nat.le_trans HLN.out (by omega)) (fun l hl => (HRW.out l hl).1)).mono ?_
    rintro e w8 ⟨a8, c8, rfl, h8, hb8⟩
    have hbF := (hbW.trans (hq7.mono (by omega))).trans (hb8.mono (by omega))
    go_wp2
    go_ret
    rw [HIM.out]
    exact ⟨_, _, rfl, h8.wide (by omega) (Nat.le_refl _), hbF⟩

/- Walks: ImpliedBans, by the model. -/
open Go.RowKit

set_option maxHeartbeats 400000 in
theorem s_within {p t : List Int} {a a' : Option Addr} {c c' lo hi lo' hi' : Nat} {w : World} (hp : RI w lo hi a p) (ht : RI w lo' hi' a' t) (hl : p.length ≤ t.length) (hl' : t.length ≤ 9223372036854775807) :
    Calls Try.prog 191 #[.slice a p.length c, .slice a' t.length c'] w (RO w (.bool (mB p t))) := by
  go_enter Try.func191, Try.ntmps191
  go_wp2
  go_loopw [5] (fun i wr => ∃ k : Nat, k ≤ p.length ∧ i = .int .i64 k ∧ Dr w wr ∧ Hid (((p.zip t).take k).all (fun q => q.1 == -1 || q.1 == q.2) = true)) (fun i _ => p.length - (intOf i).toNat)
  case atStart => exact ⟨0, Nat.zero_le _, rfl, Dr.refl _, by simp [Hid]⟩
  case round =>
    obtain ⟨k, hk, rfl, hd, hA⟩ := hrel
    by_cases hlt : k < p.length
    · obtain ⟨b, o, x, ha, _, _, hcell, hx⟩ := (hp.dr hd).at hlt
      obtain ⟨b2, o2, y, ha2, _, _, hcell2, hy⟩ := (ht.dr hd).at (show k < t.length by omega)
      have hidx := idxI ha hlt c
      have hidx2 := idxI ha2 (show k < t.length by omega) c'
      clear ha ha2 hp ht
      by_cases hx1 : x = -1
      · have HX := Lib.hid hx1
        have hc : (x != -1) = false := by rw [hx1]; rfl
        clear hx1
        go_wp2_with fail
        go_quiet (fail)
        go_wp2
        go_roundw
        case rel => exact ⟨k + 1, by omega, by go_num, hd.drewN _, mB_step hx.out hy.out hA.out (.inl HX.out)⟩
        case measure => simp [intOf]; omega
      · have HX := Lib.hid hx1
        have hc : (x != -1) = true := by rw [bne_iff_ne]; exact hx1
        clear hx1
        by_cases hxy : x = y
        · have HXY := Lib.hid hxy
          have hc2 : (x != y) = false := by rw [hxy]; exact bne_self_eq_false y
          clear hxy
          go_wp2_with fail
          go_quiet (fail)
          go_wp2
          go_roundw
          case rel => exact ⟨k + 1, by omega, by go_num, hd.drewN _, mB_step hx.out hy.out hA.out (.inr HXY.out)⟩
          case measure => simp [intOf]; omega
        · have HXY := Lib.hid hxy
          have hc2 : (x != y) = true := by rw [bne_iff_ne]; exact hxy
          clear hxy
          go_wp2_with fail
          go_quiet (fail)
          go_wp2
          go_ret
          exact (hd.drewN _).boolD (b := false) (mB_fails hx.out hy.out HX.out HXY.out).symm
    · go_wp2
      go_ret
      exact hd.boolD (mB_end (by omega) hA.out).symm

set_option maxHeartbeats 2000000 in
theorem s_ImpliedBans {m : List Int} {a : Option Addr} {c lo hi : Nat} {s : List (List Int)} {a1 : Option Addr} {c1 lo1 hi1 : Nat} {t : Int} {w : World} (hm : RI w lo hi a m) (hlm : m.length ≤ 9223372036854775807) (hs : RII w lo1 hi1 a1 s) (hls : s.length ≤ 9223372036854775807) (hg : ∀ r ∈ s, r.length ≤ 9223372036854775807) (_ht0 : -9223372036854775808 ≤ t) (_ht1 : t ≤ 9223372036854775807) (hB : hi ≤ w.heap.size) (hB1 : hi1 ≤ w.heap.size)  :
    Calls Try.prog 79 #[.slice a m.length c, .slice a1 s.length c1, .int .i64 t] w (GotII w (imL m s t)) := by
  have HG := Lib.hid hg; clear hg
  have D0 : Dr w w := Dr.refl w
  cases hHOK : okM m
  · have HOK := Lib.hid hHOK; clear hHOK
    go_enter Try.func79, Try.ntmps79
    go_wp2_with fail
    refine (s_validModel (hm.dr D0) hlm).mono ?_
    rintro e w1 ⟨rfl, d1⟩
    rw [HOK.out]
    have D1 := Dr.trans D0 d1
    clear d1
    go_wp2
    go_ret
    exact GotII.none (im_no (show bnT m s t = false by unfold bnT; first | (rw [HOK.out]; rfl) | (rw [HOK.out, HOK.out]; rfl) | (rw [HOK.out, HOB.out, HOK.out]; rfl))) (Dr.below D1 _)
  have HOK := Lib.hid hHOK; clear hHOK
  cases hHOB : okBn m s
  · have HOB := Lib.hid hHOB; clear hHOB
    go_enter Try.func79, Try.ntmps79
    go_wp2_with fail
    refine (s_validModel (hm.dr D0) hlm).mono ?_
    rintro e w1 ⟨rfl, d1⟩
    rw [HOK.out]
    have D1 := Dr.trans D0 d1
    clear d1
    go_wp2_with fail
    refine (s_validBans (hm.dr D1) (hs.dr D1) HOK.out hls HG.out).mono ?_
    rintro e w2 ⟨rfl, d2⟩
    rw [HOB.out]
    have D2 := Dr.trans D1 d2
    clear d2
    go_wp2
    go_ret
    exact GotII.none (im_no (show bnT m s t = false by unfold bnT; first | (rw [HOB.out]; rfl) | (rw [HOK.out, HOB.out]; rfl) | (rw [HOK.out, HOB.out, HOB.out]; rfl))) (Dr.below D2 _)
  have HOB := Lib.hid hHOB; clear hHOB
  cases hHIN : inR t 0 m.length
  · have HIN := Lib.hid hHIN; clear hHIN
    go_enter Try.func79, Try.ntmps79
    go_wp2_with fail
    refine (s_validModel (hm.dr D0) hlm).mono ?_
    rintro e w1 ⟨rfl, d1⟩
    rw [HOK.out]
    have D1 := Dr.trans D0 d1
    clear d1
    go_wp2_with fail
    refine (s_validBans (hm.dr D1) (hs.dr D1) HOK.out hls HG.out).mono ?_
    rintro e w2 ⟨rfl, d2⟩
    rw [HOB.out]
    have D2 := Dr.trans D1 d2
    clear d2
    go_wp2_with fail
    refine (s_inRange _ _ _ _).mono ?_
    rintro e w3 ⟨rfl, d3⟩
    rw [HIN.out]
    have D3 := Dr.trans D2 d3
    clear d3
    go_wp2
    go_ret
    exact GotII.none (im_no (show bnT m s t = false by unfold bnT; first | (rw [HIN.out]; rfl) | (rw [HOK.out, HIN.out]; rfl) | (rw [HOK.out, HOB.out, HIN.out]; rfl))) (Dr.below D3 _)
  have HIN := Lib.hid hHIN; clear hHIN
  have HR := Lib.hid (bn_rows HOB.out)
  have hsl := okBn_len HOB.out
  have ht := inR_true.1 HIN.out
  have HPO := Lib.hid (im_yes (bnT_mk HOK.out HOB.out ht.1 ht.2))
  have hm5 := okM_len HOK.out
  have HRow := Lib.hid (patS_row (m := m) (t := t))
  have HLN := Lib.hid (patS_len (head := []) HOK.out t)
  have HAL := Lib.hid (alL_len2 (b := s) HOK.out)
  have HAR := Lib.hid (alL_row (m := m) (b := s))
  obtain ⟨AL, hAL⟩ : ∃ AL, alL m s = AL := ⟨_, rfl⟩
  have HAA := Lib.hid hAL
  go_enter Try.func79, Try.ntmps79
  go_wp2_with fail
  refine (s_validModel (hm.dr D0) hlm).mono ?_
  rintro e w1 ⟨rfl, d1⟩
  rw [HOK.out]
  have D1 := Dr.trans D0 d1
  clear d1
  go_wp2_with fail
  refine (s_validBans (hm.dr D1) (hs.dr D1) HOK.out hls HG.out).mono ?_
  rintro e w2 ⟨rfl, d2⟩
  rw [HOB.out]
  have D2 := Dr.trans D1 d2
  clear d2
  go_wp2_with fail
  refine (s_inRange _ _ _ _).mono ?_
  rintro e w3 ⟨rfl, d3⟩
  rw [HIN.out]
  have D3 := Dr.trans D2 d3
  clear d3
  have Z3 := Dr.le D3
  go_wp2_with fail
  have hs3 := hs.dr D3
  have hm3 := hm.dr D3
  have hbA := (Below.refl w3.heap.size w3).alloc (Nat.le_refl _) (.cells #[] 23)
  have hmA := hm3.below hbA (by omega)
  have hsA := hs3.below hbA (by omega)
  have hbWw := Dr.below D3 w.heap.size
  refine (s_allowedTests HOK.out hmA (by simp; omega) hsA (by simp; omega) (by omega) HR.out).mono ?_
  rintro e w0 ⟨a0, c0, rfl, h0, hb0⟩
  have hb00 : Below (w3.heap.size + 1) (w3.alloc (.cells #[] 23)) w0 := hb0.mono (by simp)
  have hs0 := hb0.size
  simp only [World.size_alloc] at hs0
  have hbW0 : Below w3.heap.size w3 w0 := hbA.trans (hb00.mono (by omega))
  have hal := h0.rii
  rw [hAL] at hal HAL HAR ⊢
  have hall0 := HAL.out
  have hbB := (Below.refl w0.heap.size w0).alloc (Nat.le_refl _) (.cells #[] 3)
  have hm4 := (hm3.below hbW0 (by omega)).below hbB (by omega)
  clear h0 hb0 hAL hmA hsA
  go_wp2_with fail
  refine (s_patterns HOK.out m.length [] a ⟨w0.heap.size, 0, none⟩ c 0 lo hi 0 0 _ t (by simp) hm4 (by simp; omega) (RI.nil _ _ _ _) (by simp) (by omega) (by omega)).mono ?_
  rintro e w4 ⟨ad1, cc1, rfl, h1, hb1⟩
  obtain ⟨ps, hps⟩ : ∃ ps, patS m [] t = ps := ⟨_, rfl⟩
  have HPS := Lib.hid hps
  rw [hps] at h1 HRow HLN ⊢
  clear hps
  have hb1a : Below w0.heap.size w0 w4 := hbB.trans (hb1.mono (by simp))
  have hb01 : Below w3.heap.size w3 w4 := hbW0.trans (hb1a.mono (by omega))
  have hs1 := hb1.size
  simp only [World.size_alloc] at hs1
  have hall : RII w4 (w3.heap.size + 1) w4.heap.size (some ad1) ps := by have := h1.rii; simp only [World.size_alloc] at this; exact this.wide (by omega) (Nat.le_refl _)
  have hst : OwnRR w4 w3.heap.size (w3.heap.size + 1) w4.heap.size (.slice (some ⟨w3.heap.size, 0, none⟩) 0 0) [] := OwnRR.start (Nat.le_refl _) (by omega) (hb00.trans (hb1a.mono (by omega)))
  have hs2 : RII w4 (w3.heap.size + 1) w4.heap.size a0 AL := (hal.below hb1a (Nat.le_refl _)).wide (by simp) (by have := hb1a.size; omega)
  have hsb : RII w4 lo1 hi1 a1 s := hs3.below hb01 (by omega)
  have hpl := HLN.out
  clear h1 hb1 hbA hbB hm3 hm4 hm hs hal hs3
  go_wp2
  go_loopw [7, 10] (fun v i wr => ∃ k : Nat, k ≤ ps.length ∧ i = .int .i64 k ∧ OwnRR wr w3.heap.size (w3.heap.size + 1) w4.heap.size v ((ps.take k).filter (impF m s)) ∧ Kp w3.heap.size (w3.heap.size + 1) w4.heap.size w4 wr) (fun _ i _ => ps.length - (intOf i).toNat)
  case atStart => exact ⟨0, Nat.zero_le _, rfl, by simpa using hst, Kp.refl _ _ _ _⟩
  case round =>
    clear hst
    obtain ⟨k, hk, rfl, hown, hK⟩ := hrel
    obtain ⟨wo, rfl⟩ : ∃ x : World, x = wr := ⟨_, rfl⟩
    have hsz := hK.size
    by_cases hlt : k < ps.length
    · obtain ⟨b, o, a2, c2, r, ha, _, hbh, hcell, hr1, hx, hcp⟩ := (hall.kp hK (Nat.le_refl _)).atc hlt
      have hidx := idxII ha hlt cc1
      have HRL := Lib.hid (HRow.out r (List.mem_of_getElem? hx.out))
      have hs3 := hs2.kp hK (Nat.le_refl _)
      have hsb3 : RII wo lo1 hi1 a1 s := hsb.below (hK.below (by omega)) (by omega)
      have hml := flt_len (impF m s) ps k
      have H5 : Hid (∀ q ∈ AL, r.length ≤ q.length ∧ q.length ≤ 9223372036854775807) := by
        intro q hq
        have := HAR.out q hq
        have := HRL.out
        omega
      have HSR : Hid (∀ q ∈ s, q.length ≤ r.length) := fun q hq => by rw [HR.out q hq, HRL.out]; exact Nat.le_refl _
      have hrl : r.length ≤ 5 := by have := HRL.out; omega
      have HIF : Hid (impF m s r = (!bnB s r && !hasP AL r)) := by show _ = _; unfold impF; rw [HAA.out]
      clear ha hall hs2 hsb
      go_wp2
      go_loopw [11, 12] (fun tv jv wr => ∃ j : Nat, j ≤ s.length ∧ jv = .int .i64 j ∧ tv = .bool (bnB (s.take j) r) ∧ Dr wo wr) (fun _ jv _ => s.length - (intOf jv).toNat)
      case atStart => exact ⟨0, Nat.zero_le _, rfl, by simp [bnB], Dr.refl _⟩
      case round =>
        obtain ⟨j, hj, rfl, rfl, hd⟩ := hrel
        have hcellr : wr.cell? ⟨b, o + k, none⟩ = some (.slice a2 r.length c2) := ((Dr.below hd wo.heap.size).cell (p := ⟨b, o + k, none⟩) (by show b < _; omega)).trans hcell
        have hrr := hr1.dr hd
        by_cases hjl : j < s.length
        · obtain ⟨b6, o6, a6, c6, q, ha6, _, _, hcell6, hq6, hx6⟩ := (hsb3.dr hd).at hjl
          have hidx6 := idxII ha6 hjl c1
          have hql := HSR.out q (List.mem_of_getElem? hx6.out)
          have HNX : Hid (bnB (s.take (j + 1)) r = (bnB (s.take j) r || mB q r)) := by
            show _ = _; unfold bnB; rw [take_snoc hx6.out, List.any_append]; simp
          have HC : Hid (∀ n, Calls Try.prog 191 #[.slice a6 q.length c6, .slice a2 r.length c2] (wr.drewN n) (RO (wr.drewN n) (.bool (mB q r)))) := fun n => s_within (hq6.drewN n) (hrr.drewN n) hql (by omega)
          clear ha6 hcell
          cases hb : bnB (s.take j) r
          · have HB := Lib.hid hb; clear hb
            obtain ⟨d, hdd⟩ : ∃ d, mB q r = d := ⟨_, rfl⟩
            have HDD := Lib.hid hdd
            have HC2 : Hid (∀ n, Calls Try.prog 191 #[.slice a6 q.length c6, .slice a2 r.length c2] (wr.drewN n) (RO (wr.drewN n) (.bool d))) := fun n => by rw [← hdd]; exact HC.out n
            have HT : Hid (bnB (s.take (j + 1)) r = d) := by show _ = _; rw [HNX.out, HB.out, HDD.out]; rfl
            clear hdd HC
            go_wp2_with fail
            go_quiet ((go_at_call 191; exact RO.quiet (HC2.out _)))
            go_wp2
            go_roundw
            case rel => exact ⟨j + 1, by omega, by go_num, by rw [HT.out], hd.drewN _⟩
            case measure => simp [intOf]; omega
          · have HB := Lib.hid hb; clear hb
            have HT : Hid (bnB (s.take (j + 1)) r = true) := by show _ = _; rw [HNX.out, HB.out]; rfl
            go_wp2_with fail
            go_quiet (fail)
            go_wp2
            go_roundw
            case rel => exact ⟨j + 1, by omega, by go_num, by rw [HT.out], hd.drewN _⟩
            case measure => simp [intOf]; omega
        · have HTK : Hid (s.take j = s) := List.take_of_length_le (by omega)
          rw [HTK.out]
          have hownD := hown.below (Dr.below hd _) (by omega)
          have hKD := hK.trans (Kp.ofBelow (Dr.below hd _))
          have hs5 := hs3.dr hd
          have hzD := Dr.le hd
          obtain ⟨T, hT⟩ : ∃ T, bnB s r = T := ⟨_, rfl⟩
          rw [hT]
          have HT := Lib.hid hT
          clear hT hown hK hcell hs3 hr1
          cases T
          · cases hc : hasP AL r
            · have HC := Lib.hid hc; clear hc
              have HM := Lib.hid (flt_step (f := impF m s) hx.out (by rw [HIF.out, HT.out, HC.out]; rfl))
              go_wp2_with (first
                | (go_at_call 154; refine (s_covers hs5 hrr (by omega) H5.out).mono ?_; rintro e w6 ⟨rfl, hd6⟩; rw [HC.out]; have hown2 := hownD.below (Dr.below hd6 _) (by omega); have hz6 := Dr.le hd6; have hr6 := hrr.dr hd6; have hcell6 : w6.cell? ⟨b, o + k, none⟩ = _ := ((Dr.below hd6 wr.heap.size).cell (p := ⟨b, o + k, none⟩) (by show b < _; omega)).trans hcellr; have hB02 := Dr.below hd6 wr.heap.size; clear hd6)
                | (at_builtin; refine wpList_appR1 rfl (.tmp 72) (.tmp 77) rfl w3.heap.size (w3.heap.size + 1) w4.heap.size _ ((ps.take k).filter (impF m s)) rfl hown2 (by omega) (by omega) r a2 r.length c2 rfl hr6 hcp w6.heap.size rfl rfl (by omega) ?_; intro v7 w7 hown7 hk7 _)
                | go_in)
              rw [← HM.out] at hown7
              have hK7 := hKD.trans ((Kp.ofBelow hB02).trans hk7)
              clear hKD hk7 hownD hown2
              go_roundw
              case rel => exact ⟨k + 1, by omega, by go_num, hown7, hK7⟩
              case measure => simp [intOf]; omega
            · have HC := Lib.hid hc; clear hc
              have HM := Lib.hid (flt_skip (f := impF m s) hx.out (by rw [HIF.out, HT.out, HC.out]; rfl))
              go_wp2_with fail
              refine (s_covers hs5 hrr (by omega) H5.out).mono ?_
              rintro e w6 ⟨rfl, hd6⟩
              rw [HC.out]
              have hown2 := hownD.below (Dr.below hd6 _) (by omega)
              rw [← HM.out] at hown2
              have hK2 := hKD.trans (Kp.ofBelow (Dr.below hd6 _))
              clear hKD hownD
              go_wp2
              go_roundw
              case rel => exact ⟨k + 1, by omega, by go_num, hown2, hK2⟩
              case measure => simp [intOf]; omega
          · have HM := Lib.hid (flt_skip (f := impF m s) hx.out (by rw [HIF.out, HT.out]; rfl))
            rw [← HM.out] at hownD
            go_wp2
            go_roundw
            case rel => exact ⟨k + 1, by omega, by go_num, hownD, hKD⟩
            case measure => simp [intOf]; omega
    · have HKE : Hid (ps.take k = ps) := List.take_of_length_le (by omega)
      have HMI : Hid (impP m s t = ps.filter (impF m s)) := by show _ = _; unfold impP; rw [HPS.out]
      go_wp2
      rw [HKE.out] at hown
      obtain ⟨a4, c4, rfl, ho4⟩ := hown.slice (by omega) (by omega)
      go_ret
      rw [HPO.out, HMI.out]
      exact ⟨_, _, rfl, ho4.wide (by omega) (Nat.le_refl _), hbWw.trans ((hb01.trans (hK.below (by omega))).mono (by omega))⟩

end Go.Proofs.Ytehoagbpgahopaa
