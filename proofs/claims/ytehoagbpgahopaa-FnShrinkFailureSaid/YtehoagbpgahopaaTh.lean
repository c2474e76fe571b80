/- Walks: ShrinkFailure, by the program and by the model. -/
import Derived.Test.YtehoagbpgahopaaTg
import Derived.Test.YtehoagbpgahopaaTb
import Derived.Test.YtehoagbpgahopaaZb
import Derived.Test.YtehoagbpgahopaaZa
import Derived.Test.YtehoagbpgahopaaWk
import Derived.Test.YtehoagbpgahopaaZg
namespace Go.Proofs.Ytehoagbpgahopaa
open Go Go.RowKit

theorem fb_bnB {m x : List Int} {b : List (List Int)} (hok : okM m = true) (hob : okBn m b = true) (hx : x.length = m.length) : fbB b (at5 x) = bnB b x := by
  have hm5 := (okM_len hok).2
  unfold fbB bnB
  rw [Bool.eq_iff_iff, List.any_eq_true, List.any_eq_true]
  constructor
  · rintro ⟨p, h1, h2⟩
    exact ⟨p, h1, by rwa [meet5_mB (by rw [okW_len (okBn_all hob h1), hx]) (by rw [okW_len (okBn_all hob h1)]; exact hm5)] at h2⟩
  · rintro ⟨p, h1, h2⟩
    exact ⟨p, h1, by rwa [meet5_mB (by rw [okW_len (okBn_all hob h1), hx]) (by rw [okW_len (okBn_all hob h1)]; exact hm5)]⟩

set_option maxRecDepth 100000 in
set_option maxHeartbeats 2000000 in
theorem i_ShrinkFailure {m bad fine : List Int} {b : List (List Int)} {a a1 a2 a3 : Option Addr} {c c1 c2 c3 lo hi lo1 hi1 lo2 hi2 lo3 hi3 : Nat} {w : World} (hm : RI w lo hi a m) (hlm : m.length ≤ 9223372036854775807) (hb : RII w lo1 hi1 a1 b) (hlb : b.length ≤ 9223372036854775807) (hgb : ∀ r ∈ b, r.length ≤ 9223372036854775807)
    (hd : RI w lo2 hi2 a2 bad) (hld : bad.length ≤ 9223372036854775807) (hf : RI w lo3 hi3 a3 fine) (hlf : fine.length ≤ 9223372036854775807) (hB : hi ≤ w.heap.size) (hB1 : hi1 ≤ w.heap.size) (hB2 : hi2 ≤ w.heap.size) (hB3 : hi3 ≤ w.heap.size) :
    Calls Try.prog 118 #[.slice a m.length c, .slice a1 b.length c1, .slice a2 bad.length c2, .slice a3 fine.length c3] w (NewIB w (shL m b bad fine) (shB' m b bad fine)) := by
  have HGB := Lib.hid hgb; clear hgb
  have D0 : Dr w w := Dr.refl w
  cases hvb : okM m && okBn m b
  · have HVB := Lib.hid hvb; clear hvb
    have HNO : Hid (shB' m b bad fine = false) := by show _ = _; unfold shB' shG; rw [HVB.out]; rfl
    go_enter Try.func118, Try.ntmps118
    go_wp2_with fail
    refine (i_ValidBans (hm.dr D0) hlm (hb.dr D0) hlb HGB.out).mono ?_
    rintro e w1 ⟨rfl, d1⟩
    rw [HVB.out]
    have D1 := Dr.trans D0 d1
    go_wp2
    go_ret2
    exact NewIB.none (l := shL m b bad fine) (b := shB' m b bad fine) ⟨sh_no' HNO.out, HNO.out⟩ (Dr.below D1 _)
  have HVB := Lib.hid hvb
  have HOK : Hid (okM m = true) := by show _ = _; rw [Bool.and_eq_true] at hvb; exact hvb.1
  have HOB : Hid (okBn m b = true) := by show _ = _; rw [Bool.and_eq_true] at hvb; exact hvb.2
  clear hvb
  cases hvd : okT m bad
  · have HVD : Hid ((okM m && okT m bad) = false) := by show _ = _; rw [hvd, Bool.and_false]
    have HNO : Hid (shB' m b bad fine = false) := by show _ = _; unfold shB' shG; rw [hvd]; simp
    clear hvd
    go_enter Try.func118, Try.ntmps118
    go_wp2_with fail
    refine (i_ValidBans (hm.dr D0) hlm (hb.dr D0) hlb HGB.out).mono ?_
    rintro e w1 ⟨rfl, d1⟩
    rw [HVB.out]
    have D1 := Dr.trans D0 d1
    go_wp2_with fail
    refine (i_ValidTest (hm.dr D1) hlm (hd.dr D1) hld).mono ?_
    rintro e w2 ⟨rfl, d2⟩
    rw [HVD.out]
    have D2 := Dr.trans D1 d2
    go_wp2
    go_ret2
    exact NewIB.none (l := shL m b bad fine) (b := shB' m b bad fine) ⟨sh_no' HNO.out, HNO.out⟩ (Dr.below D2 _)
  have HTD := Lib.hid hvd
  have HVD : Hid ((okM m && okT m bad) = true) := by show _ = _; rw [HOK.out, hvd]; rfl
  clear hvd
  cases hvf : okT m fine
  · have HVF : Hid ((okM m && okT m fine) = false) := by show _ = _; rw [hvf, Bool.and_false]
    have HNO : Hid (shB' m b bad fine = false) := by show _ = _; unfold shB' shG; rw [hvf]; simp
    clear hvf
    go_enter Try.func118, Try.ntmps118
    go_wp2_with fail
    refine (i_ValidBans (hm.dr D0) hlm (hb.dr D0) hlb HGB.out).mono ?_
    rintro e w1 ⟨rfl, d1⟩
    rw [HVB.out]
    have D1 := Dr.trans D0 d1
    go_wp2_with fail
    refine (i_ValidTest (hm.dr D1) hlm (hd.dr D1) hld).mono ?_
    rintro e w2 ⟨rfl, d2⟩
    rw [HVD.out]
    have D2 := Dr.trans D1 d2
    go_wp2_with fail
    refine (i_ValidTest (hm.dr D2) hlm (hf.dr D2) hlf).mono ?_
    rintro e w3 ⟨rfl, d3⟩
    rw [HVF.out]
    have D3 := Dr.trans D2 d3
    go_wp2
    go_ret2
    exact NewIB.none (l := shL m b bad fine) (b := shB' m b bad fine) ⟨sh_no' HNO.out, HNO.out⟩ (Dr.below D3 _)
  have HTF := Lib.hid hvf
  have HVF : Hid ((okM m && okT m fine) = true) := by show _ = _; rw [HOK.out, hvf]; rfl
  clear hvf
  have HG : Hid (shG m b bad fine = true) := by show _ = _; unfold shG; rw [HOK.out, HOB.out, HTD.out, HTF.out]; rfl
  have HBE : Hid (shB' m b bad fine = (bnB b bad && !bnB b fine)) := by show _ = _; unfold shB'; rw [HG.out, Bool.true_and]
  have hm5 := okM_len HOK.out
  have hbl := okBn_len HOB.out
  have HBL := Lib.hid (okW_len HTD.out)
  have HFL := Lib.hid (okW_len HTF.out)
  have hbd5 : bad.length ≤ 5 := by have := HBL.out; omega
  have hfn5 : fine.length ≤ 5 := by have := HFL.out; omega
  have HRB : Hid (∀ r ∈ b, r.length ≤ 5) := fun r hr => by have := okW_len (okBn_all HOB.out hr); omega
  go_enter Try.func118, Try.ntmps118
  go_wp2_with fail
  refine (i_ValidBans (hm.dr D0) hlm (hb.dr D0) hlb HGB.out).mono ?_
  rintro e w1 ⟨rfl, d1⟩
  rw [HVB.out]
  have D1 := Dr.trans D0 d1
  go_wp2_with fail
  refine (i_ValidTest (hm.dr D1) hlm (hd.dr D1) hld).mono ?_
  rintro e w2 ⟨rfl, d2⟩
  rw [HVD.out]
  have D2 := Dr.trans D1 d2
  go_wp2_with fail
  refine (i_ValidTest (hm.dr D2) hlm (hf.dr D2) hlf).mono ?_
  rintro e w3 ⟨rfl, d3⟩
  rw [HVF.out]
  have D3 := Dr.trans D2 d3
  have Z3 := Dr.le D3
  clear d1 d2 d3 D1 D2 D0
  go_wp2_with fail
  refine (i_rulesOf m.length (hb.dr D3) (by omega) hbl HRB.out).mono ?_
  rintro e w4 ⟨v, rfl, ho4, hb4⟩
  obtain ⟨va, vc, hv4, ho4⟩ := ho4.slice
  subst hv4
  have hz4 := hb4.size
  have hd4 := (hd.dr D3).below hb4 (by omega)
  have hf4 := (hf.dr D3).below hb4 (by omega)
  have hA := Lib.hid (heap_alloc_new w4 (.cells #[.slice a m.length c, .slice va b.length vc] 93))
  have hbA := (Below.refl w4.heap.size w4).alloc (Nat.le_refl _) (.cells #[.slice a m.length c, .slice va b.length vc] 93)
  obtain ⟨W, hWe⟩ : ∃ W, w4.alloc (.cells #[.slice a m.length c, .slice va b.length vc] 93) = W := ⟨_, rfl⟩
  have hWs : W.heap.size = w4.heap.size + 1 := by rw [← hWe]; simp
  rw [hWe] at hA hbA
  have hWl : w4.heap.size + 1 ≤ W.heap.size ∧ W.heap.size ≤ w4.heap.size + 1 := by omega
  have hdW := hd4.below hbA (by omega)
  have hfW := hf4.below hbA (by omega)
  have hbW : Below w.heap.size w W := ((Dr.below D3 w.heap.size).trans (hb4.mono (by omega))).trans (hbA.mono (by omega))
  clear hm hd hf hb hd4 hf4 D3 hb4
  go_wp2_with fail
  try rw [hWe]
  refine (i_patternOf hdW (by omega) hbd5).mono ?_
  rintro e w5 ⟨rfl, hb5⟩
  have hz5 := hb5.size
  have hA5 := Lib.hid (heap_alloc_new w5 (.cells #[.int .i64 (at5 bad 0), .int .i64 (at5 bad 1), .int .i64 (at5 bad 2), .int .i64 (at5 bad 3), .int .i64 (at5 bad 4)] 97))
  have hbA5 := (Below.refl w5.heap.size w5).alloc (Nat.le_refl _) (.cells #[.int .i64 (at5 bad 0), .int .i64 (at5 bad 1), .int .i64 (at5 bad 2), .int .i64 (at5 bad 3), .int .i64 (at5 bad 4)] 97)
  obtain ⟨V, hVe⟩ : ∃ V, w5.alloc (.cells #[.int .i64 (at5 bad 0), .int .i64 (at5 bad 1), .int .i64 (at5 bad 2), .int .i64 (at5 bad 3), .int .i64 (at5 bad 4)] 97) = V := ⟨_, rfl⟩
  have hVs : V.heap.size = w5.heap.size + 1 := by rw [← hVe]; simp
  rw [hVe] at hA5 hbA5
  have hVl : w5.heap.size + 1 ≤ V.heap.size ∧ V.heap.size ≤ w5.heap.size + 1 := by omega
  have hfV := (hfW.below hb5 (by omega)).below hbA5 (by omega)
  have hWV : Below W.heap.size W V := hb5.trans (hbA5.mono (by omega))
  have HS : Hid (∀ w', Below w5.heap.size V w' → w'.cell? ⟨w4.heap.size, 0, none⟩ = some (.slice a m.length c) ∧ w'.cell? ⟨w4.heap.size, 1, none⟩ = some (.slice va b.length vc)) := fun w' hb => by
    have h := (hb.block w4.heap.size (by omega)).trans ((hWV.block w4.heap.size (by omega)).trans hA.out)
    rw [cell_of_row _ _ 0 _ _ _ h, cell_of_row _ _ 1 _ _ _ h]; exact ⟨rfl, rfl⟩
  have HFB : Hid (∀ w' x, x.length = m.length → Below w5.heap.size V w' → Calls Try.prog 150 #[.agg #[.slice a m.length c, .slice va b.length vc], .agg #[.int .i64 (at5 x 0), .int .i64 (at5 x 1), .int .i64 (at5 x 2), .int .i64 (at5 x 3), .int .i64 (at5 x 4)]] w' (NewV w' (.bool (bnB b x)))) := fun w' x hx hb => by
    have h := i_forbid (at5 x) (mv := .slice a m.length c) (w := w') ho4 (hbA.trans ((hWV.mono (by omega)).trans (hb.mono (by omega)))) (by omega)
    rw [fb_bnB HOK.out HOB.out hx] at h; exact h
  have hbV : Below w.heap.size w V := hbW.trans (hWV.mono (by have := hbW.size; omega))
  have HFV : Hid (∀ w', Below w5.heap.size V w' → RI w' lo3 hi3 a3 fine) := fun w' hb => hfV.below hb (by omega)
  obtain ⟨X, hX⟩ : ∃ X, bnB b bad = X := ⟨_, rfl⟩
  obtain ⟨Y, hY⟩ : ∃ Y, bnB b fine = Y := ⟨_, rfl⟩
  have HX := Lib.hid hX; have HY := Lib.hid hY
  have HV : Hid (∀ w', Below V.heap.size V w' → Below w5.heap.size V w') := fun w' hb => hb.mono (by omega)
  have HP : Hid (∀ w', Below V.heap.size V w' → w'.heap[w5.heap.size]? = some (.cells #[.int .i64 (at5 bad 0), .int .i64 (at5 bad 1), .int .i64 (at5 bad 2), .int .i64 (at5 bad 3), .int .i64 (at5 bad 4)] 97 (0, 0))) := fun w' hb => (hb.block _ (by omega)).trans hA5.out
  clear hX hY hdW hfW hb5 hbA5 hbA ho4 hfV hWV
  go_wp2_with fail
  try rw [hVe]
  clear hVe hWe
  clear hVs hWs
  refine wp_region_new (by rfl) (by kernel_rfl) ?_
  cases X
  · have HNO : Hid (shB' m b bad fine = false) := by show _ = _; rw [HBE.out, HX.out]; rfl
    (refine wpQuiet_step (fun K hK => ?_); go_simp; refine ⟨.agg #[.slice a m.length c, .slice va b.length vc], fun wq hq => ?_, hK _ ?_⟩; (obtain ⟨s0, s1⟩ := HS.out wq (HV.out _ hq); simp [s0, s1, Result.andThen]); clear hK K)
    (refine wpQuiet_step (fun K hK => ?_); go_simp; refine ⟨.agg #[.int .i64 (at5 bad 0), .int .i64 (at5 bad 1), .int .i64 (at5 bad 2), .int .i64 (at5 bad 3), .int .i64 (at5 bad 4)], fun wq hq => ?_, hK _ ?_⟩; (obtain ⟨p0, p1, p2, p3, p4⟩ := cells5' (HP.out wq hq); simp [p0, p1, p2, p3, p4, Result.andThen]); clear hK K)
    (refine wpQuiet_step (fun K hK => ?_); go_simp; refine ⟨.bool false, fun wq hq => (HFB.out wq bad HBL.out (HV.out _ hq)).mono ?_, hK _ ?_⟩; (rintro e wr ⟨rfl, hbr⟩; exact ⟨by rw [HX.out], hq.trans (hbr.mono hq.size)⟩); clear hK K)
    (refine wpQuiet_step (fun K hK => ?_); go_simp; first | refine hK _ ?_ | refine ⟨_, fun _ _ => rfl, hK _ ?_⟩; clear hK K)
    (refine wpQuiet_step (fun K hK => ?_); go_simp; first | refine hK _ ?_ | refine ⟨_, fun _ _ => rfl, hK _ ?_⟩; clear hK K)
    (refine wpQuiet_step (fun K hK => ?_); go_simp; first | refine hK _ ?_ | refine ⟨_, fun _ _ => rfl, hK _ ?_⟩; clear hK K)
    (refine wpQuiet_step (fun K hK => ?_); go_simp; first | refine hK _ ?_ | refine ⟨_, fun _ _ => rfl, hK _ ?_⟩; clear hK K)
    (refine wpQuiet_step (fun K hK => ?_); go_simp; first | refine hK _ ?_ | refine ⟨_, fun _ _ => rfl, hK _ ?_⟩; clear hK K)
    (refine wpQuiet_step (fun K hK => ?_); go_simp; first | refine hK _ ?_ | refine ⟨_, fun _ _ => rfl, hK _ ?_⟩; clear hK K)
    (refine wpQuiet_step (fun K hK => ?_); go_simp; first | refine hK _ ?_ | refine ⟨_, fun _ _ => rfl, hK _ ?_⟩; clear hK K)
    refine wpQuiet_nil ?_
    intro w6 hb6
    go_wp2
    go_ret2
    exact NewIB.none (l := shL m b bad fine) (b := shB' m b bad fine) ⟨sh_no' HNO.out, HNO.out⟩ (hbV.trans (hb6.mono (by have := hbV.size; omega)))
  cases Y
  case true =>
    have HNO : Hid (shB' m b bad fine = false) := by show _ = _; rw [HBE.out, HX.out, HY.out]; rfl
    (refine wpQuiet_step (fun K hK => ?_); go_simp; refine ⟨.agg #[.slice a m.length c, .slice va b.length vc], fun wq hq => ?_, hK _ ?_⟩; (obtain ⟨s0, s1⟩ := HS.out wq (HV.out _ hq); simp [s0, s1, Result.andThen]); clear hK K)
    (refine wpQuiet_step (fun K hK => ?_); go_simp; refine ⟨.agg #[.int .i64 (at5 bad 0), .int .i64 (at5 bad 1), .int .i64 (at5 bad 2), .int .i64 (at5 bad 3), .int .i64 (at5 bad 4)], fun wq hq => ?_, hK _ ?_⟩; (obtain ⟨p0, p1, p2, p3, p4⟩ := cells5' (HP.out wq hq); simp [p0, p1, p2, p3, p4, Result.andThen]); clear hK K)
    (refine wpQuiet_step (fun K hK => ?_); go_simp; refine ⟨.bool true, fun wq hq => (HFB.out wq bad HBL.out (HV.out _ hq)).mono ?_, hK _ ?_⟩; (rintro e wr ⟨rfl, hbr⟩; exact ⟨by rw [HX.out], hq.trans (hbr.mono hq.size)⟩); clear hK K)
    (refine wpQuiet_step (fun K hK => ?_); go_simp; first | refine hK _ ?_ | refine ⟨_, fun _ _ => rfl, hK _ ?_⟩; clear hK K)
    (refine wpQuiet_step (fun K hK => ?_); go_simp; first | refine hK _ ?_ | refine ⟨_, fun _ _ => rfl, hK _ ?_⟩; clear hK K)
    (refine wpQuiet_step (fun K hK => ?_); go_simp; refine ⟨.agg #[.slice a m.length c, .slice va b.length vc], fun wq hq => ?_, hK _ ?_⟩; (obtain ⟨s0, s1⟩ := HS.out wq (HV.out _ hq); simp [s0, s1, Result.andThen]); clear hK K)
    (refine wpQuiet_step (fun K hK => ?_); go_simp; first | refine hK _ ?_ | refine ⟨_, fun _ _ => rfl, hK _ ?_⟩; clear hK K)
    (refine wpQuiet_step (fun K hK => ?_); go_simp; refine ⟨.agg #[.int .i64 (at5 fine 0), .int .i64 (at5 fine 1), .int .i64 (at5 fine 2), .int .i64 (at5 fine 3), .int .i64 (at5 fine 4)], fun wq hq => (i_patternOf (HFV.out wq (HV.out _ hq)) (by have := hq.size; omega) hfn5).mono ?_, hK _ ?_⟩; (rintro e wr ⟨rfl, hbr⟩; exact ⟨rfl, hq.trans (hbr.mono hq.size)⟩); clear hK K)
    (refine wpQuiet_step (fun K hK => ?_); go_simp; refine ⟨.bool true, fun wq hq => (HFB.out wq fine HFL.out (HV.out _ hq)).mono ?_, hK _ ?_⟩; (rintro e wr ⟨rfl, hbr⟩; exact ⟨by rw [HY.out], hq.trans (hbr.mono hq.size)⟩); clear hK K)
    (refine wpQuiet_step (fun K hK => ?_); go_simp; first | refine hK _ ?_ | refine ⟨_, fun _ _ => rfl, hK _ ?_⟩; clear hK K)
    refine wpQuiet_nil ?_
    intro w6 hb6
    go_wp2
    go_ret2
    exact NewIB.none (l := shL m b bad fine) (b := shB' m b bad fine) ⟨sh_no' HNO.out, HNO.out⟩ (hbV.trans (hb6.mono (by have := hbV.size; omega)))
  have HYES : Hid (shB' m b bad fine = true) := by show _ = _; rw [HBE.out, HX.out, HY.out]; rfl
  (refine wpQuiet_step (fun K hK => ?_); go_simp; refine ⟨.agg #[.slice a m.length c, .slice va b.length vc], fun wq hq => ?_, hK _ ?_⟩; (obtain ⟨s0, s1⟩ := HS.out wq (HV.out _ hq); simp [s0, s1, Result.andThen]); clear hK K)
  (refine wpQuiet_step (fun K hK => ?_); go_simp; refine ⟨.agg #[.int .i64 (at5 bad 0), .int .i64 (at5 bad 1), .int .i64 (at5 bad 2), .int .i64 (at5 bad 3), .int .i64 (at5 bad 4)], fun wq hq => ?_, hK _ ?_⟩; (obtain ⟨p0, p1, p2, p3, p4⟩ := cells5' (HP.out wq hq); simp [p0, p1, p2, p3, p4, Result.andThen]); clear hK K)
  (refine wpQuiet_step (fun K hK => ?_); go_simp; refine ⟨.bool true, fun wq hq => (HFB.out wq bad HBL.out (HV.out _ hq)).mono ?_, hK _ ?_⟩; (rintro e wr ⟨rfl, hbr⟩; exact ⟨by rw [HX.out], hq.trans (hbr.mono hq.size)⟩); clear hK K)
  (refine wpQuiet_step (fun K hK => ?_); go_simp; first | refine hK _ ?_ | refine ⟨_, fun _ _ => rfl, hK _ ?_⟩; clear hK K)
  (refine wpQuiet_step (fun K hK => ?_); go_simp; first | refine hK _ ?_ | refine ⟨_, fun _ _ => rfl, hK _ ?_⟩; clear hK K)
  (refine wpQuiet_step (fun K hK => ?_); go_simp; refine ⟨.agg #[.slice a m.length c, .slice va b.length vc], fun wq hq => ?_, hK _ ?_⟩; (obtain ⟨s0, s1⟩ := HS.out wq (HV.out _ hq); simp [s0, s1, Result.andThen]); clear hK K)
  (refine wpQuiet_step (fun K hK => ?_); go_simp; first | refine hK _ ?_ | refine ⟨_, fun _ _ => rfl, hK _ ?_⟩; clear hK K)
  (refine wpQuiet_step (fun K hK => ?_); go_simp; refine ⟨.agg #[.int .i64 (at5 fine 0), .int .i64 (at5 fine 1), .int .i64 (at5 fine 2), .int .i64 (at5 fine 3), .int .i64 (at5 fine 4)], fun wq hq => (i_patternOf (HFV.out wq (HV.out _ hq)) (by have := hq.size; omega) hfn5).mono ?_, hK _ ?_⟩; (rintro e wr ⟨rfl, hbr⟩; exact ⟨rfl, hq.trans (hbr.mono hq.size)⟩); clear hK K)
  (refine wpQuiet_step (fun K hK => ?_); go_simp; refine ⟨.bool false, fun wq hq => (HFB.out wq fine HFL.out (HV.out _ hq)).mono ?_, hK _ ?_⟩; (rintro e wr ⟨rfl, hbr⟩; exact ⟨by rw [HY.out], hq.trans (hbr.mono hq.size)⟩); clear hK K)
  (refine wpQuiet_step (fun K hK => ?_); go_simp; first | refine hK _ ?_ | refine ⟨_, fun _ _ => rfl, hK _ ?_⟩; clear hK K)
  refine wpQuiet_nil ?_
  intro w6 hb6
  have hst : w6.heap[w5.heap.size]? = some (.cells #[.int .i64 (at5 (shR b fine bad 0) 0), .int .i64 (at5 (shR b fine bad 0) 1), .int .i64 (at5 (shR b fine bad 0) 2), .int .i64 (at5 (shR b fine bad 0) 3), .int .i64 (at5 (shR b fine bad 0) 4)] 97 (0, 0)) := HP.out w6 hb6
  have hbs := HV.out w6 hb6
  clear hb6 HP HV
  go_wp2
  go_loopw [47] (fun i wr => ∃ k : Nat, k ≤ m.length ∧ i = .int .i64 k ∧ wr.heap[w5.heap.size]? = some (.cells #[.int .i64 (at5 (shR b fine bad k) 0), .int .i64 (at5 (shR b fine bad k) 1), .int .i64 (at5 (shR b fine bad k) 2), .int .i64 (at5 (shR b fine bad k) 3), .int .i64 (at5 (shR b fine bad k) 4)] 97 (0, 0)) ∧ Below w5.heap.size V wr) (fun i _ => m.length - (intOf i).toNat)
  case atStart => exact ⟨0, Nat.zero_le _, rfl, hst, hbs⟩
  case round =>
    clear hst hbs
    obtain ⟨k, hk, rfl, hrow, hd⟩ := hrel
    have hz := hd.size
    obtain ⟨out, hout⟩ : ∃ out, shR b fine bad k = out := ⟨_, rfl⟩
    have HOUT := Lib.hid hout
    have HOL : Hid (out.length = m.length) := by show _ = _; rw [← hout, shR_len, HBL.out]
    rw [hout] at hrow
    clear hout
    by_cases hlt : k < m.length
    · obtain ⟨t0, t1, t2, t3, t4⟩ := cells5' hrow
      obtain ⟨bf, of, y, haf, _, hbf, hcf, hyx⟩ := (HFV.out wr hd).at (show k < fine.length by have := HFL.out; omega)
      have hidf := idxI haf (show k < fine.length by have := HFL.out; omega) c3
      have HAT : Hid (at5 fine k = y) := at5_of hyx.out
      have hix := idxAt5 wr.heap.size (show k < 5 by omega)
      have hlist : ([.int .i64 (at5 out 0), .int .i64 (at5 out 1), .int .i64 (at5 out 2), .int .i64 (at5 out 3), .int .i64 (at5 out 4)] : List Value).set k (.int .i64 y) = [.int .i64 (at5 (out.set k y) 0), .int .i64 (at5 (out.set k y) 1), .int .i64 (at5 (out.set k y) 2), .int .i64 (at5 (out.set k y) 3), .int .i64 (at5 (out.set k y) 4)] := by
        have h : ∀ i, at5 (out.set k y) i = if i = k then y else at5 out i := fun i => by
          unfold at5 List.getD
          rw [List.getElem?_set]
          by_cases e : i = k
          · subst e; rw [if_pos rfl, if_pos rfl, if_pos (by have := HOL.out; omega)]; rfl
          · rw [if_neg (fun h => e h.symm), if_neg e]
        rcases (by omega : k = 0 ∨ k = 1 ∨ k = 2 ∨ k = 3 ∨ k = 4) with e | e | e | e | e <;> subst e <;> simp [h]
      have hget : ([.int .i64 (at5 out 0), .int .i64 (at5 out 1), .int .i64 (at5 out 2), .int .i64 (at5 out 3), .int .i64 (at5 out 4)] : List Value)[k]? = some (.int .i64 (at5 out k)) := by
        rcases (by omega : k = 0 ∨ k = 1 ∨ k = 2 ∨ k = 3 ∨ k = 4) with e | e | e | e | e <;> subst e <;> rfl
      have hfr := frozen5 (heap_alloc_new wr (.cells #[.int .i64 (at5 out 0), .int .i64 (at5 out 1), .int .i64 (at5 out 2), .int .i64 (at5 out 3), .int .i64 (at5 out 4)] 97)) k
      have hbN := (Below.refl wr.heap.size wr).alloc (Nat.le_refl _) (.cells #[.int .i64 (at5 (out.set k y) 0), .int .i64 (at5 (out.set k y) 1), .int .i64 (at5 (out.set k y) 2), .int .i64 (at5 (out.set k y) 3), .int .i64 (at5 (out.set k y) 4)] 97)
      have hdN := hd.trans (hbN.mono (by omega))
      obtain ⟨s0, s1⟩ := HS.out wr hd
      have hbf2 : bf < wr.heap.size := by omega
      have h42 : w4.heap.size < wr.heap.size := by omega
      have h52 : w5.heap.size < wr.heap.size := by omega
      obtain ⟨nx, hnx⟩ : ∃ nx, out.set k y = nx := ⟨_, rfl⟩
      have HNL : Hid (nx.length = m.length) := by show _ = _; rw [← hnx, List.length_set, HOL.out]
      have HSR : Hid (shR b fine bad (k + 1) = if bnB b nx then nx else out) := by
        show _ = _; rw [shR_succ, HOUT.out]; unfold shS; rw [HAT.out, hnx]
      rw [hnx] at hlist hbN hdN
      have hdN1 := Lib.hid hdN; have HNEW := Lib.hid (heap_alloc_new wr (.cells #[.int .i64 (at5 nx 0), .int .i64 (at5 nx 1), .int .i64 (at5 nx 2), .int .i64 (at5 nx 3), .int .i64 (at5 nx 4)] 97))
      have HROW := Lib.hid hrow
      clear hnx haf hyx hbN hdN hrow hd
      cases hq : bnB b nx
      · have HQ := Lib.hid hq; clear hq
        have HS2 : Hid (shR b fine bad (k + 1) = out) := by show _ = _; rw [HSR.out, HQ.out]; rfl
        go_wp2_with fail
        refine (HFB.out _ nx HNL.out hdN1.out).mono ?_
        rintro e w7 ⟨rfl, hb7⟩
        rw [HQ.out]
        have hd7 := hdN1.out.trans (hb7.mono (by simp; omega))
        have hr7 := (hb7.block w5.heap.size (by simp; omega)).trans ((Below.heap_alloc wr _ _ h52).trans HROW.out)
        clear hb7
        go_wp2
        go_roundw
        case rel => exact ⟨k + 1, by omega, by go_num, by rw [HS2.out]; exact hr7, hd7⟩
        case measure => simp [intOf]; omega
      · have HQ := Lib.hid hq; clear hq
        have HS2 : Hid (shR b fine bad (k + 1) = nx) := by show _ = _; rw [HSR.out, HQ.out]; rfl
        go_wp2_with fail
        refine (HFB.out _ nx HNL.out hdN1.out).mono ?_
        rintro e w7 ⟨rfl, hb7⟩
        rw [HQ.out]
        have hd7 := hdN1.out.trans (hb7.mono (by simp; omega))
        have hr7 := (hb7.block w5.heap.size (by simp; omega)).trans ((Below.heap_alloc wr _ _ h52).trans HROW.out)
        have hn7 := (hb7.block wr.heap.size (by simp)).trans HNEW.out
        have hs7 := hb7.size
        simp at hs7
        obtain ⟨n0, n1, n2, n3, n4⟩ := cells5' hn7
        have e0 := frozen5 hr7 0
        have e1 := frozen5 hr7 1
        have e2 := frozen5 hr7 2
        have e3 := frozen5 hr7 3
        have e4 := frozen5 hr7 4
        obtain ⟨q0, q1, q2, q3, q4⟩ := cells5' hr7
        have HR7 := Lib.hid hr7; have HD7 := Lib.hid hd7
        clear hb7 hr7 hn7 hd7 t0 t1 t2 t3 t4 s0 s1
        go_wp2
        obtain ⟨W5, hW5, hw5, hk5, hs5, ho5⟩ := set5w (w := w7) (by rfl) HR7.out (.int .i64 (at5 nx 0)) (.int .i64 (at5 nx 1)) (.int .i64 (at5 nx 2)) (.int .i64 (at5 nx 3)) (.int .i64 (at5 nx 4))
        rw [← hW5]
        have hd8 : Below w5.heap.size V W5 := HD7.out.trans ⟨ho5.1, ho5.2.1, ho5.2.2, by omega, fun j hj => hk5 j (by omega)⟩
        clear hW5 ho5 hk5 hs5
        go_roundw
        case rel => exact ⟨k + 1, by omega, by go_num, by rw [HS2.out]; exact hw5, hd8⟩
        case measure => simp [intOf]; omega
    · have hkm : k = m.length := by omega
      have HFIN : Hid (shL m b bad fine = out) := by show _ = _; rw [sh_yes' HYES.out, ← hkm, HOUT.out]
      obtain ⟨n, hn⟩ : ∃ n, m.length = n := ⟨_, rfl⟩
      have hn5 : n ≤ 5 := by omega
      obtain rfl : k = n := by omega
      have hsl5 := fun b wx => slice5 b k hn5 wx
      have hxn := Lib.hid (HOL.out.trans hn)
      have hbx := ri_box hrow (by have := hxn.out; omega)
      have hx0 : Hid (out ≠ []) := by intro h; have := hxn.out; rw [h] at this; simp at this; omega
      have hbw := hbV.trans (hd.mono (by have := hbV.size; omega))
      have HN := Lib.hid hn
      have hbw5 : w5.heap.size < wr.heap.size := by omega
      have hww : w.heap.size ≤ wr.heap.size := hbw.size
      rw [hn]
      clear hn hrow hkm
      go_wp2_with fail
      refine (x_CloneN hxn.out hbx (by omega) hx0.out (by omega)).mono ?_
      rintro e w8 ⟨a6, c6, rfl, h6, hb6⟩
      go_wp2
      go_ret2
      exact NewIB.some (l := shL m b bad fine) (b := shB' m b bad fine) ⟨HFIN.out, HYES.out⟩ hxn.out.symm (h6.oi.wide (by omega) (Nat.le_refl _)) (hbw.trans (hb6.mono (by omega)))

/-- a call that returns a slice of numbers, which may be shared, and a bool -/
def GotI3 (w : World) (l : List Int) (b : Bool) (e : Ending) (w' : World) : Prop :=
  ∃ a c, e = .returned (.tuple #[.slice a l.length c, .bool b]) ∧ RI w' w.heap.size w'.heap.size a l ∧ Below w.heap.size w w'
theorem GotI3.none {w w' : World} {l : List Int} {b : Bool} (h : l = [] ∧ b = false) (hb : Below w.heap.size w w') : GotI3 w l b (.returned (.tuple #[.slice none 0 0, .bool false])) w' := by
  obtain ⟨rfl, rfl⟩ := h
  exact ⟨_, _, rfl, RI.nil _ _ _ _, hb⟩
theorem GotI3.some {w w' : World} {l l' : List Int} {b : Bool} {a : Option Addr} {c n : Nat} (h : l = l' ∧ b = true) (hn : n = l'.length) (ho : RI w' w.heap.size w'.heap.size a l') (hb : Below w.heap.size w w') :
    GotI3 w l b (.returned (.tuple #[.slice a n c, .bool true])) w' := by
  obtain ⟨rfl, rfl⟩ := h
  subst hn
  exact ⟨_, _, rfl, ho, hb⟩
theorem bsetW {B : Nat} {w w1 : World} {p : Addr} {v : Value} (h : Below B w w1) (hp : B ≤ p.block) : Below B w (w1.setCell p v) :=
  ⟨h.os, h.tape, h.output, by simp [World.setCell]; exact h.size, fun k hk => (Below.heap_setCell _ _ _ _ (by omega)).trans (h.block k hk)⟩

set_option maxRecDepth 100000 in
set_option maxHeartbeats 2000000 in
theorem s_ShrinkFailure {m bad fine : List Int} {b : List (List Int)} {a a1 a2 a3 : Option Addr} {c c1 c2 c3 lo hi lo1 hi1 lo2 hi2 lo3 hi3 : Nat} {w : World} (hm : RI w lo hi a m) (hlm : m.length ≤ 9223372036854775807) (hb : RII w lo1 hi1 a1 b) (hlb : b.length ≤ 9223372036854775807) (hgb : ∀ r ∈ b, r.length ≤ 9223372036854775807)
    (hd : RI w lo2 hi2 a2 bad) (hld : bad.length ≤ 9223372036854775807) (hf : RI w lo3 hi3 a3 fine) (hlf : fine.length ≤ 9223372036854775807) (hB : hi ≤ w.heap.size) (hB1 : hi1 ≤ w.heap.size) (hB2 : hi2 ≤ w.heap.size) (hB3 : hi3 ≤ w.heap.size) :
    Calls Try.prog 119 #[.slice a m.length c, .slice a1 b.length c1, .slice a2 bad.length c2, .slice a3 fine.length c3] w (GotI3 w (shL m b bad fine) (shB' m b bad fine)) := by
  have HGB := Lib.hid hgb; clear hgb
  have D0 : Dr w w := Dr.refl w
  cases hok : okM m
  · have HOK := Lib.hid hok; clear hok
    have HNO : Hid (shB' m b bad fine = false) := by show _ = _; unfold shB' shG; rw [HOK.out]; rfl
    go_enter Try.func119, Try.ntmps119
    go_wp2_with fail
    refine (s_validModel (hm.dr D0) hlm).mono ?_
    rintro e w1 ⟨rfl, d1⟩
    rw [HOK.out]
    have D1 := Dr.trans D0 d1
    go_wp2
    go_ret2
    exact GotI3.none (l := shL m b bad fine) (b := shB' m b bad fine) ⟨sh_no' HNO.out, HNO.out⟩ (Dr.below D1 _)
  have HOK := Lib.hid hok; clear hok
  cases hob : okBn m b
  · have HOB := Lib.hid hob; clear hob
    have HNO : Hid (shB' m b bad fine = false) := by show _ = _; unfold shB' shG; rw [HOB.out]; simp
    go_enter Try.func119, Try.ntmps119
    go_wp2_with fail
    refine (s_validModel (hm.dr D0) hlm).mono ?_
    rintro e w1 ⟨rfl, d1⟩
    rw [HOK.out]
    have D1 := Dr.trans D0 d1
    go_wp2_with fail
    refine (s_validBans (hm.dr D1) (hb.dr D1) HOK.out hlb HGB.out).mono ?_
    rintro e w2 ⟨rfl, d2⟩
    rw [HOB.out]
    have D2 := Dr.trans D1 d2
    go_wp2
    go_ret2
    exact GotI3.none (l := shL m b bad fine) (b := shB' m b bad fine) ⟨sh_no' HNO.out, HNO.out⟩ (Dr.below D2 _)
  have HOB := Lib.hid hob; clear hob
  cases htd : okT m bad
  · have HTD := Lib.hid htd; clear htd
    have HNO : Hid (shB' m b bad fine = false) := by show _ = _; unfold shB' shG; rw [HTD.out]; simp
    go_enter Try.func119, Try.ntmps119
    go_wp2_with fail
    refine (s_validModel (hm.dr D0) hlm).mono ?_
    rintro e w1 ⟨rfl, d1⟩
    rw [HOK.out]
    have D1 := Dr.trans D0 d1
    go_wp2_with fail
    refine (s_validBans (hm.dr D1) (hb.dr D1) HOK.out hlb HGB.out).mono ?_
    rintro e w2 ⟨rfl, d2⟩
    rw [HOB.out]
    have D2 := Dr.trans D1 d2
    go_wp2_with fail
    refine (s_validTest (hm.dr D2) (hd.dr D2) HOK.out hld).mono ?_
    rintro e w3 ⟨rfl, d3⟩
    rw [HTD.out]
    have D3 := Dr.trans D2 d3
    go_wp2
    go_ret2
    exact GotI3.none (l := shL m b bad fine) (b := shB' m b bad fine) ⟨sh_no' HNO.out, HNO.out⟩ (Dr.below D3 _)
  have HTD := Lib.hid htd; clear htd
  cases htf : okT m fine
  · have HTF := Lib.hid htf; clear htf
    have HNO : Hid (shB' m b bad fine = false) := by show _ = _; unfold shB' shG; rw [HTF.out]; simp
    go_enter Try.func119, Try.ntmps119
    go_wp2_with fail
    refine (s_validModel (hm.dr D0) hlm).mono ?_
    rintro e w1 ⟨rfl, d1⟩
    rw [HOK.out]
    have D1 := Dr.trans D0 d1
    go_wp2_with fail
    refine (s_validBans (hm.dr D1) (hb.dr D1) HOK.out hlb HGB.out).mono ?_
    rintro e w2 ⟨rfl, d2⟩
    rw [HOB.out]
    have D2 := Dr.trans D1 d2
    go_wp2_with fail
    refine (s_validTest (hm.dr D2) (hd.dr D2) HOK.out hld).mono ?_
    rintro e w3 ⟨rfl, d3⟩
    rw [HTD.out]
    have D3 := Dr.trans D2 d3
    go_wp2_with fail
    refine (s_validTest (hm.dr D3) (hf.dr D3) HOK.out hlf).mono ?_
    rintro e w4 ⟨rfl, d4⟩
    rw [HTF.out]
    have D4 := Dr.trans D3 d4
    go_wp2
    go_ret2
    exact GotI3.none (l := shL m b bad fine) (b := shB' m b bad fine) ⟨sh_no' HNO.out, HNO.out⟩ (Dr.below D4 _)
  have HTF := Lib.hid htf; clear htf
  have HG : Hid (shG m b bad fine = true) := by show _ = _; unfold shG; rw [HOK.out, HOB.out, HTD.out, HTF.out]; rfl
  have HBE : Hid (shB' m b bad fine = (bnB b bad && !bnB b fine)) := by show _ = _; unfold shB'; rw [HG.out, Bool.true_and]
  have hm5 := okM_len HOK.out
  have hbl := okBn_len HOB.out
  have HBL := Lib.hid (okW_len HTD.out)
  have HFL := Lib.hid (okW_len HTF.out)
  have HRW : Hid (∀ r ∈ b, r.length = m.length) := fun r hr => okW_len (okBn_all HOB.out hr)
  have HRBD : Hid (∀ r ∈ b, r.length ≤ bad.length) := fun r hr => by have := HRW.out r hr; have := HBL.out; omega
  have HRBF : Hid (∀ r ∈ b, r.length ≤ fine.length) := fun r hr => by have := HRW.out r hr; have := HFL.out; omega
  cases hx : bnB b bad
  · have HX := Lib.hid hx; clear hx
    have HNO : Hid (shB' m b bad fine = false) := by show _ = _; rw [HBE.out, HX.out]; rfl
    go_enter Try.func119, Try.ntmps119
    go_wp2_with fail
    refine (s_validModel (hm.dr D0) hlm).mono ?_
    rintro e w1 ⟨rfl, d1⟩
    rw [HOK.out]
    have D1 := Dr.trans D0 d1
    go_wp2_with fail
    refine (s_validBans (hm.dr D1) (hb.dr D1) HOK.out hlb HGB.out).mono ?_
    rintro e w2 ⟨rfl, d2⟩
    rw [HOB.out]
    have D2 := Dr.trans D1 d2
    go_wp2_with fail
    refine (s_validTest (hm.dr D2) (hd.dr D2) HOK.out hld).mono ?_
    rintro e w3 ⟨rfl, d3⟩
    rw [HTD.out]
    have D3 := Dr.trans D2 d3
    go_wp2_with fail
    refine (s_validTest (hm.dr D3) (hf.dr D3) HOK.out hlf).mono ?_
    rintro e w4 ⟨rfl, d4⟩
    rw [HTF.out]
    have D4 := Dr.trans D3 d4
    go_wp2_with fail
    refine (s_allowed (hb.dr D4) (hd.dr D4) (by omega) HRBD.out (by omega)).mono ?_
    rintro e w5 ⟨rfl, d5⟩
    rw [HX.out]
    have D5 := Dr.trans D4 d5
    go_wp2
    go_ret2
    exact GotI3.none (l := shL m b bad fine) (b := shB' m b bad fine) ⟨sh_no' HNO.out, HNO.out⟩ (Dr.below D5 _)
  have HX := Lib.hid hx; clear hx
  cases hy : bnB b fine
  case true =>
    have HY := Lib.hid hy; clear hy
    have HNO : Hid (shB' m b bad fine = false) := by show _ = _; rw [HBE.out, HX.out, HY.out]; rfl
    go_enter Try.func119, Try.ntmps119
    go_wp2_with fail
    refine (s_validModel (hm.dr D0) hlm).mono ?_
    rintro e w1 ⟨rfl, d1⟩
    rw [HOK.out]
    have D1 := Dr.trans D0 d1
    go_wp2_with fail
    refine (s_validBans (hm.dr D1) (hb.dr D1) HOK.out hlb HGB.out).mono ?_
    rintro e w2 ⟨rfl, d2⟩
    rw [HOB.out]
    have D2 := Dr.trans D1 d2
    go_wp2_with fail
    refine (s_validTest (hm.dr D2) (hd.dr D2) HOK.out hld).mono ?_
    rintro e w3 ⟨rfl, d3⟩
    rw [HTD.out]
    have D3 := Dr.trans D2 d3
    go_wp2_with fail
    refine (s_validTest (hm.dr D3) (hf.dr D3) HOK.out hlf).mono ?_
    rintro e w4 ⟨rfl, d4⟩
    rw [HTF.out]
    have D4 := Dr.trans D3 d4
    go_wp2_with fail
    refine (s_allowed (hb.dr D4) (hd.dr D4) (by omega) HRBD.out (by omega)).mono ?_
    rintro e w5 ⟨rfl, d5⟩
    rw [HX.out]
    have D5 := Dr.trans D4 d5
    go_wp2_with fail
    refine (s_allowed (hb.dr D5) (hf.dr D5) (by omega) HRBF.out (by omega)).mono ?_
    rintro e w6 ⟨rfl, d6⟩
    rw [HY.out]
    have D6 := Dr.trans D5 d6
    go_wp2
    go_ret2
    exact GotI3.none (l := shL m b bad fine) (b := shB' m b bad fine) ⟨sh_no' HNO.out, HNO.out⟩ (Dr.below D6 _)
  have HY := Lib.hid hy; clear hy
  have HYES : Hid (shB' m b bad fine = true) := by show _ = _; rw [HBE.out, HX.out, HY.out]; rfl
  have hbd5 : bad.length ≤ 5 ∧ 1 ≤ bad.length := by have := HBL.out; omega
  have hb0 : Hid (bad ≠ []) := by intro h; have := hbd5.2; rw [h] at this; simp at this
  go_enter Try.func119, Try.ntmps119
  go_wp2_with fail
  refine (s_validModel (hm.dr D0) hlm).mono ?_
  rintro e w1 ⟨rfl, d1⟩
  rw [HOK.out]
  have D1 := Dr.trans D0 d1
  go_wp2_with fail
  refine (s_validBans (hm.dr D1) (hb.dr D1) HOK.out hlb HGB.out).mono ?_
  rintro e w2 ⟨rfl, d2⟩
  rw [HOB.out]
  have D2 := Dr.trans D1 d2
  go_wp2_with fail
  refine (s_validTest (hm.dr D2) (hd.dr D2) HOK.out hld).mono ?_
  rintro e w3 ⟨rfl, d3⟩
  rw [HTD.out]
  have D3 := Dr.trans D2 d3
  go_wp2_with fail
  refine (s_validTest (hm.dr D3) (hf.dr D3) HOK.out hlf).mono ?_
  rintro e w4 ⟨rfl, d4⟩
  rw [HTF.out]
  have D4 := Dr.trans D3 d4
  go_wp2_with fail
  refine (s_allowed (hb.dr D4) (hd.dr D4) (by omega) HRBD.out (by omega)).mono ?_
  rintro e w5 ⟨rfl, d5⟩
  rw [HX.out]
  have D5 := Dr.trans D4 d5
  go_wp2_with fail
  refine (s_allowed (hb.dr D5) (hf.dr D5) (by omega) HRBF.out (by omega)).mono ?_
  rintro e w6 ⟨rfl, d6⟩
  rw [HY.out]
  have D6 := Dr.trans D5 d6
  have Z6 := Dr.le D6
  have hm6 := hm.dr D6
  have hd6 := hd.dr D6
  have hf6 := hf.dr D6
  have hb6 := hb.dr D6
  clear hm hd hf hb d1 d2 d3 d4 d5 d6 D1 D2 D3 D4 D5 D0
  have hst := OwnL.made w6 w6.heap.size (Nat.le_refl _)
  have hbA := (Below.refl w6.heap.size w6).alloc (Nat.le_refl _) (.cells #[] 3)
  have hdA := hd6.below hbA (by omega)
  go_wp2_with (first
    | (at_builtin; refine wpList_appN rfl _ _ rfl w6.heap.size _ [] rfl hst bad lo2 hi2 c2 a2 rfl hdA hb0.out (by simp) (by omega) (by simp) ?_; intro v7 w7 hown7 hb7; simp only [List.nil_append] at hown7; obtain ⟨qa, qc, rfl, hoi⟩ := hown7.slice)
    | go_in)
  have hbW : Below w6.heap.size w6 w7 := hbA.trans (hb7.mono (by simp))
  have hz7 := hbW.size
  have hm7 := hm6.below hbW (by omega)
  have hf7 := hf6.below hbW (by omega)
  have hb7' := hb6.below hbW (by omega)
  obtain ⟨qb, qo, y0, hqa, hq1, hq2, _, _⟩ := hoi.ri.at (show 0 < bad.length by omega)
  subst hqa
  have hoi0 : OI w7 w6.heap.size w7.heap.size (some ⟨qb, qo, none⟩) (shR b fine bad 0) := hoi.oi
  have hWd := (Dr.below D6 w.heap.size).trans (hbW.mono (by omega))
  clear hb7 hbA hdA hst hown7 hoi hm6 hd6 hf6 hb6
  go_wp2
  go_loopw [11, 12] (fun i _ wr => ∃ k : Nat, k ≤ m.length ∧ i = .int .i64 k ∧ OI wr w6.heap.size w7.heap.size (some ⟨qb, qo, none⟩) (shR b fine bad k) ∧ Below w6.heap.size w7 wr) (fun i _ _ => m.length - (intOf i).toNat)
  case atStart => exact ⟨0, Nat.zero_le _, rfl, hoi0, Below.refl _ _⟩
  case round =>
    clear hoi0
    obtain ⟨k, hk, rfl, ho, hd⟩ := hrel
    have hz := hd.size
    obtain ⟨out, hout⟩ : ∃ out, shR b fine bad k = out := ⟨_, rfl⟩
    have HOUT := Lib.hid hout
    have HOL : Hid (out.length = m.length) := by show _ = _; rw [← hout, shR_len, HBL.out]
    rw [hout] at ho
    clear hout
    by_cases hlt : k < m.length
    · obtain ⟨bf, of, y, haf, _, hbf, hcf, hyx⟩ := (hf7.below hd (by omega)).at (show k < fine.length by have := HFL.out; omega)
      have hidf := idxI haf (show k < fine.length by have := HFL.out; omega) c3
      have HAT : Hid (at5 fine k = y) := at5_of hyx.out
      have hko : k < out.length := by have := HOL.out; omega
      obtain ⟨b1, o1, hab, hb1, hb2, ⟨x0, hx0, hcx⟩, hfz⟩ := ho k hko
      have hidx := idxI (a := some ⟨qb, qo, none⟩) rfl (show k < bad.length by have := HBL.out; omega) qc
      obtain ⟨rfl, rfl⟩ : qb = b1 ∧ qo = o1 := by simpa using hab
      have HX0 := Lib.hid hx0
      obtain ⟨nx, hnx⟩ : ∃ nx, out.set k y = nx := ⟨_, rfl⟩
      have HNL : Hid (nx.length = m.length) := by show _ = _; rw [← hnx, List.length_set, HOL.out]
      have HSR : Hid (shR b fine bad (k + 1) = if bnB b nx then nx else out) := by
        show _ = _; rw [shR_succ, HOUT.out]; unfold shS; rw [HAT.out, hnx]
      have HBK : Hid (nx.set k x0 = out) := by
        show _ = _; rw [← hnx, List.set_set]
        refine List.ext_getElem? fun i => ?_
        rw [List.getElem?_set]
        by_cases e : k = i
        · subst e; rw [if_pos rfl, if_pos hko, hx0]
        · rw [if_neg e]
      have hos := ho.set hko y
      rw [hnx] at hos
      have hds : Below w6.heap.size w7 (wr.setCell ⟨qb, qo + k, none⟩ (.int .i64 y)) := bsetW hd (by simp; omega)
      have hss : wr.heap.size ≤ (wr.setCell ⟨qb, qo + k, none⟩ (.int .i64 y)).heap.size ∧ (wr.setCell ⟨qb, qo + k, none⟩ (.int .i64 y)).heap.size ≤ wr.heap.size := by simp [World.setCell]
      have HDS := Lib.hid hds; have HOS := Lib.hid hos; have HSS := Lib.hid hss
      have HRN : Hid (∀ r ∈ b, r.length ≤ nx.length) := fun r hr => by have := HRW.out r hr; have := HNL.out; omega
      have hnl : nx.length ≤ 5 := by have := HNL.out; omega
      have HC : Hid (Calls Try.prog 153 #[.slice a1 b.length c1, .slice (some ⟨qb, qo, none⟩) bad.length qc] (wr.setCell ⟨qb, qo + k, none⟩ (.int .i64 y)) (RO (wr.setCell ⟨qb, qo + k, none⟩ (.int .i64 y)) (.bool (!bnB b nx)))) := by
        have h := s_allowed (c := qc) (c' := c1) (hb7'.below hds (by omega)) hos.ri (by omega) HRN.out (by omega)
        rw [show nx.length = bad.length by rw [HNL.out, HBL.out]] at h
        exact h
      clear hnx haf hyx hx0 hab hds hos ho hss hm7 hd
      cases hq : bnB b nx
      · have HQ := Lib.hid hq; clear hq
        have HS2 : Hid (shR b fine bad (k + 1) = out) := by show _ = _; rw [HSR.out, HQ.out]; rfl
        go_wp2_with fail
        refine HC.out.mono ?_
        rintro e w8 ⟨rfl, d8⟩
        rw [HQ.out]
        have d8 : Dr (wr.setCell ⟨qb, qo + k, none⟩ (.int .i64 y)) w8 := d8
        have ho8 : OI w8 w6.heap.size w7.heap.size (some ⟨qb, qo, none⟩) nx := OI.below (w := wr.setCell ⟨qb, qo + k, none⟩ (.int .i64 y)) HOS.out (Dr.below d8 w7.heap.size) (Nat.le_refl _)
        have hd8 := HDS.out.trans (Dr.below d8 _)
        obtain ⟨b9, o9, hab9, _, _, ⟨x9, _, hcx9⟩, hfz9⟩ := ho8 k (by have := HNL.out; omega)
        obtain ⟨rfl, rfl⟩ : qb = b9 ∧ qo = o9 := by simpa using hab9
        have ho9 := ho8.set (show k < nx.length by have := HNL.out; omega) x0
        rw [HBK.out] at ho9
        have hd9 : Below w6.heap.size w7 (w8.setCell ⟨qb, qo + k, none⟩ (.int .i64 x0)) := bsetW hd8 (by simp; omega)
        have HO9 := Lib.hid ho9; have HD9 := Lib.hid hd9
        clear ho8 hd8 ho9 hd9 hab9 d8
        go_wp2
        go_roundw
        case rel => exact ⟨k + 1, by omega, by go_num, by rw [HS2.out]; exact HO9.out, HD9.out⟩
        case measure => simp [intOf]; omega
      · have HQ := Lib.hid hq; clear hq
        have HS2 : Hid (shR b fine bad (k + 1) = nx) := by show _ = _; rw [HSR.out, HQ.out]; rfl
        go_wp2_with fail
        refine HC.out.mono ?_
        rintro e w8 ⟨rfl, d8⟩
        rw [HQ.out]
        have d8 : Dr (wr.setCell ⟨qb, qo + k, none⟩ (.int .i64 y)) w8 := d8
        have ho8 : OI w8 w6.heap.size w7.heap.size (some ⟨qb, qo, none⟩) nx := OI.below (w := wr.setCell ⟨qb, qo + k, none⟩ (.int .i64 y)) HOS.out (Dr.below d8 w7.heap.size) (Nat.le_refl _)
        have HO8 := Lib.hid ho8
        clear ho8
        have HD8 := Lib.hid (HDS.out.trans (Dr.below d8 _))
        clear d8
        go_wp2
        go_roundw
        case rel => exact ⟨k + 1, by omega, by go_num, by rw [HS2.out]; exact HO8.out, HD8.out⟩
        case measure => simp [intOf]; omega
    · have hkm : k = m.length := by omega
      have HFIN : Hid (shL m b bad fine = out) := by show _ = _; rw [sh_yes' HYES.out, ← hkm, HOUT.out]
      have HBO : Hid (bad.length = out.length) := by show _ = _; rw [HBL.out, HOL.out]
      clear hkm
      go_wp2
      go_ret2
      exact GotI3.some (l := shL m b bad fine) (b := shB' m b bad fine) ⟨HFIN.out, HYES.out⟩ HBO.out (ho.ri.wide (by omega) (by omega)) (hWd.trans (hd.mono (by omega)))

end Go.Proofs.Ytehoagbpgahopaa
