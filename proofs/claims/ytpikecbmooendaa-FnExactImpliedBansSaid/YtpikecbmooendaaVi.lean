/- Walks: ImpliedBans, by the program. -/
import Derived.Test.YtpikecbmooendaaVe
import Derived.Test.YtpikecbmooendaaZl
import Derived.Test.YtpikecbmooendaaZu
namespace Go.Proofs.Ytpikecbmooendaa
open Go.RowKit

theorem imp_eq {m : List Int} {s : List (List Int)} {t : Int} (hok : okM m = true) (hob : okBn m s = true) : (ubP s (patS m [] t)).filter (fun l => !hasP (alL m s) l) = impP m s t := by
  unfold ubP impP
  rw [List.filter_filter]
  apply List.filter_congr
  intro x hx
  have hxl := patS_row x hx
  have hm5 := (okM_len hok).2
  have hfb : fbB s (at5 x) = bnB s x := by
    unfold fbB bnB
    rw [Bool.eq_iff_iff, List.any_eq_true, List.any_eq_true]
    constructor
    · rintro ⟨p, h1, h2⟩
      exact ⟨p, h1, by rwa [meet5_mB (by rw [okW_len (okBn_all hob h1), hxl]) (by rw [okW_len (okBn_all hob h1)]; exact hm5)] at h2⟩
    · rintro ⟨p, h1, h2⟩
      exact ⟨p, h1, by rwa [meet5_mB (by rw [okW_len (okBn_all hob h1), hxl]) (by rw [okW_len (okBn_all hob h1)]; exact hm5)]⟩
  unfold impF
  rw [hfb, Bool.and_comm]

set_option maxRecDepth 100000 in
set_option maxHeartbeats 4000000 in
theorem i_ImpliedBans {m : List Int} {a : Option Addr} {c lo hi : Nat} {s : List (List Int)} {a1 : Option Addr} {c1 lo1 hi1 : Nat} {t : Int} {w : World} (hm : RI w lo hi a m) (hlm : m.length ≤ 9223372036854775807) (hs : RII w lo1 hi1 a1 s) (hls : s.length ≤ 9223372036854775807) (hg : ∀ r ∈ s, r.length ≤ 9223372036854775807) (_ht0 : -9223372036854775808 ≤ t) (_ht1 : t ≤ 9223372036854775807) (hB : hi ≤ w.heap.size) (hB1 : hi1 ≤ w.heap.size)  :
    Calls Try.prog 46 #[.slice a m.length c, .slice a1 s.length c1, .int .i64 t] w (NewII w (imL m s t)) := by
  have HG := Lib.hid hg; clear hg
  have D0 : Dr w w := Dr.refl w
  cases hHIB : okM m && okBn m s
  · have HIB := Lib.hid hHIB; clear hHIB
    go_enter Try.func46, Try.ntmps46
    go_wp2_with fail
    refine (i_ValidBans (hm.dr D0) hlm (hs.dr D0) hls HG.out).mono ?_
    rintro e w1 ⟨rfl, d1⟩
    rw [HIB.out]
    have D1 := Dr.trans D0 d1
    clear d1
    go_wp2
    go_ret
    exact NewII.none (im_no (show bnT m s t = false by unfold bnT; rw [HIB.out]; rfl)) (Dr.below D1 _)
  have HIB := Lib.hid hHIB; clear hHIB
  cases hHIN : inR t 0 m.length
  · have HIN := Lib.hid hHIN; clear hHIN
    go_enter Try.func46, Try.ntmps46
    go_wp2_with fail
    refine (i_ValidBans (hm.dr D0) hlm (hs.dr D0) hls HG.out).mono ?_
    rintro e w1 ⟨rfl, d1⟩
    rw [HIB.out]
    have D1 := Dr.trans D0 d1
    clear d1
    go_wp2_with fail
    refine (i_isStrength hlm).mono ?_
    rintro e w2 ⟨rfl, d2⟩
    rw [HIN.out]
    have D2 := Dr.trans D1 d2
    clear d2
    go_wp2
    go_ret
    exact NewII.none (im_no (show bnT m s t = false by unfold bnT; rw [HIB.out, HIN.out]; rfl)) (Dr.below D2 _)
  have HIN := Lib.hid hHIN; clear hHIN
  have hE := HIB.out
  rw [Bool.and_eq_true] at hE
  have HOK := Lib.hid hE.1
  have HOB := Lib.hid hE.2
  clear hE
  have hsl := okBn_len HOB.out
  have HR := Lib.hid (bn_rows HOB.out)
  have hm5 := okM_len HOK.out
  have ht := inR_true.1 HIN.out
  have hbt := bnT_mk HOK.out HOB.out ht.1 ht.2
  have HIM := Lib.hid (im_yes hbt)
  have hln := imL_len (m := m) (b := s) (t := t)
  have hrw := imL_row (m := m) (b := s) (t := t)
  rw [HIM.out] at hln hrw
  have HLN := Lib.hid hln; have HRW := Lib.hid hrw
  have hie := imp_eq (t := t) HOK.out HOB.out
  have hpl := patS_len (head := []) HOK.out t
  have hpo : ∀ l ∈ patS m [] t, okP m l = true := fun l hl => ((mem_patS HOK.out).1 hl).1
  obtain ⟨ps, hps⟩ : ∃ ps, patS m [] t = ps := ⟨_, rfl⟩
  rw [hps] at hie hpl hpo
  have hul := ub_len s ps
  have HIE := Lib.hid hie; have HPO := Lib.hid hpo; have HPS := Lib.hid hps
  clear hln hrw hbt hie hpo hps
  go_enter Try.func46, Try.ntmps46
  go_wp2_with fail
  refine (i_ValidBans (hm.dr D0) hlm (hs.dr D0) hls HG.out).mono ?_
  rintro e w1 ⟨rfl, d1⟩
  rw [HIB.out]
  have D1 := Dr.trans D0 d1
  clear d1
  go_wp2_with fail
  refine (i_isStrength hlm).mono ?_
  rintro e w2 ⟨rfl, d2⟩
  rw [HIN.out]
  have D2 := Dr.trans D1 d2
  clear d2
  have Z2 := Dr.le D2
  go_wp2_with fail
  refine (i_rulesOf m.length (hs.dr D2) (by omega) hsl (fun r hr => by have := HR.out r hr; omega)).mono ?_
  rintro e w3 ⟨v, rfl, ho3, hb3⟩
  obtain ⟨va, vc, hv3, ho3⟩ := ho3.slice
  subst hv3
  have hz3 := hb3.size
  have hm3 := (hm.dr D2).below hb3 (by omega)
  have hA := Lib.hid (heap_alloc_new w3 (.cells #[.slice a m.length c, .slice va s.length vc] 98))
  have hbA := (Below.refl w3.heap.size w3).alloc (Nat.le_refl _) (.cells #[.slice a m.length c, .slice va s.length vc] 98)
  obtain ⟨W, hWe⟩ : ∃ W, w3.alloc (.cells #[.slice a m.length c, .slice va s.length vc] 98) = W := ⟨_, rfl⟩
  have hWs : W.heap.size = w3.heap.size + 1 := by rw [← hWe]; simp
  rw [hWe] at hA hbA
  have hWl : w3.heap.size + 1 ≤ W.heap.size ∧ W.heap.size ≤ w3.heap.size + 1 := by omega
  have HS : Hid (∀ w', Below W.heap.size W w' → w'.cell? ⟨w3.heap.size, 0, none⟩ = some (.slice a m.length c) ∧ w'.cell? ⟨w3.heap.size, 1, none⟩ = some (.slice va s.length vc)) := fun w' hb => by
    have h := (hb.block w3.heap.size (by omega)).trans hA.out
    rw [cell_of_row _ _ 0 _ _ _ h, cell_of_row _ _ 1 _ _ _ h]; exact ⟨rfl, rfl⟩
  have HMW : Hid (∀ w', Below W.heap.size W w' → RI w' lo hi a m) := fun w' hb => (hm3.below hbA (by omega)).below hb (by omega)
  have HC1 : Hid (∀ w', Below W.heap.size W w' → Calls Try.prog 79 #[.slice a m.length c, .int .i64 t] w' (NewP w' ps)) := fun w' hb => by
    rw [← HPS.out]
    exact i_patternsOf HOK.out (HMW.out w' hb) (by have := hb.size; omega) ht.1 ht.2
  have HC2 : Hid (∀ w2 v2, Below W.heap.size W w2 → OwnP w2 W.heap.size v2 ps → Calls Try.prog 118 #[.agg #[.slice a m.length c, .slice va s.length vc], v2] w2 (fun e w' => ∃ v', e = .returned v' ∧ OwnP w' W.heap.size v' (ubP s ps) ∧ GrP w2 w' v2 v')) := fun w2 v2 hb hop =>
    i_unbanned ho3 (hbA.trans (hb.mono (by omega))) (by omega) hop (by omega) (by omega)
  have HC3 : Hid (∀ w3' v3, Below W.heap.size W w3' → OwnP w3' W.heap.size v3 (ubP s ps) → Calls Try.prog 105 #[v3, .func (.func 119) #[.agg #[.slice a m.length c, .slice va s.length vc]] #[]] w3' (fun e w' => ∃ v', e = .returned v' ∧ OwnP w' W.heap.size v' (impP m s t) ∧ GrP w3' w' v3 v')) := fun w3' v3 hb hop => by
    have hlt := hop.lt
    rw [← HIE.out]
    refine x_DelPos _ (fun l => hasP (alL m s) l) hop (by omega) fun l hl w' hgr => ?_
    have hbw : Below W.heap.size W w' := ⟨hgr.os.trans hb.os, hgr.tape.trans hb.tape, hgr.output.trans hb.output, Nat.le_trans hb.size hgr.size, fun k hk => (hgr.block k (by have := hb.size; omega) (fun e => by have := (hlt _ e.symm).1; omega)).trans (hb.block k hk)⟩
    exact i_isPossible (HMW.out w' hbw) (by have := hbw.size; omega) ho3 (hbA.trans (hbw.mono (by omega))) HOK.out HOB.out (HPO.out l (List.mem_filter.1 hl).1)
  have hbW : Below w.heap.size w W := ((Dr.below D2 w.heap.size).trans (hb3.mono (by omega))).trans (hbA.mono (by omega))
  have hq1 : Below W.heap.size W W := Below.refl _ _
  clear hbA hm3 hm hs hWs hb3 ho3 HMW
  go_wp2_with fail
  try rw [hWe]
  clear hWe
  go_region_held3 (fun w' => w'.cell? ⟨w3.heap.size, 0, none⟩ = some (.slice a m.length c) ∧ w'.cell? ⟨w3.heap.size, 1, none⟩ = some (.slice va s.length vc))
    (first | exact HS.out _ (by first | exact hq7 | exact hq6 | exact hq5 | exact hq1.drew | exact hq1) | go_keep) ((first
    | (go_at_call 79; refine (HC1.out _ (by first | exact hq1.drew | exact hq1)).mono ?_; rintro e w5 ⟨v5, rfl, ho5, hb5⟩; have ho5 := ho5.mono (B' := W.heap.size) (by simp); have hq5 : Below W.heap.size W w5 := (by first | exact hq1.drew.trans hb5 | exact hq1.trans hb5))
    | (go_at_call 118; refine (HC2.out w5 _ hq5 ho5).mono ?_; rintro e w6 ⟨v6, rfl, ho6, hg6⟩; have hq6 : Below W.heap.size W w6 := hq5.trans (hg6.below (fun g hg => (ho5.lt g hg).1) hq5.size))
    | (go_at_call 105; refine (HC3.out w6 _ hq6 ho6).mono ?_; rintro e w7 ⟨v7, rfl, ho7, hg7⟩; have hq7 : Below W.heap.size W w7 := hq6.trans (hg7.below (fun g hg => (ho6.lt g hg).1) hq6.size))))
  all_goals
    have hz7 := hq7.size
    have hzW := hbW.size
    go_wp2_with fail
    refine (i_listsOf ho7 hm5.1 hm5.2 (Nat.le_trans HLN.out (by omega)) (fun l hl => (HRW.out l hl).1)).mono ?_
    rintro e w8 ⟨a8, c8, rfl, h8, hb8⟩
    have hbF := (hbW.trans (hq7.mono (by omega))).trans (hb8.mono (by omega))
    go_wp2
    go_ret
    rw [HIM.out]
    exact ⟨_, _, rfl, h8.wide (by omega) (Nat.le_refl _), hbF⟩

end Go.Proofs.Ytpikecbmooendaa
