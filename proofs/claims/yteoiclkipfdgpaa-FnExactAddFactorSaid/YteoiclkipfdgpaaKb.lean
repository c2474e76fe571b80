/- Walks: AddFactor by the document's reference. -/
import Derived.Test.YteoiclkipfdgpaaKa
import Derived.Test.YteoiclkipfdgpaaVb
namespace Go.Proofs.Yteoiclkipfdgpaa
open Go.RowKit

theorem adB_no {m : List Int} {s : List (List Int)} {l t : Int} (h : adG m s l t = false) : adL m s l t = [] ∧ adB m s l t = false := by
  have h2 : adB m s l t = false := by unfold adB; rw [h]; rfl
  exact ⟨ad_no h2, h2⟩

set_option maxRecDepth 100000 in
set_option maxHeartbeats 8000000 in
theorem s_AddFactor {m : List Int} {s : List (List Int)} {a a' : Option Addr} {c c' lo hi lo' hi' : Nat} {w : World} {l t : Int} (hm : RI w lo hi a m) (hlm : m.length ≤ 9223372036854775807) (hs : RII w lo' hi' a' s) (hls : s.length ≤ 9223372036854775807) (hg : ∀ r ∈ s, r.length ≤ 9223372036854775807) (_hl0 : -9223372036854775808 ≤ l) (_hl1 : l ≤ 9223372036854775807) (_ht0 : -9223372036854775808 ≤ t) (_ht1 : t ≤ 9223372036854775807) (hB : hi ≤ w.heap.size) (hB' : hi' ≤ w.heap.size) :
    Calls Try.prog 6 #[.slice a m.length c, .slice a' s.length c', .int .i64 l, .int .i64 t] w (NewIIB w (adL m s l t) (adB m s l t)) := by
  have HG := Lib.hid hg; clear hg
  cases hok : okM m
  · have HN := Lib.hid (adB_no (show adG m s l t = false by unfold adG; rw [hok]; rfl))
    have HOK := Lib.hid hok; clear hok
    go_enter Try.func6, Try.ntmps6
    go_wp2_with fail
    refine (s_validModel hm hlm).mono ?_
    rintro e w1 ⟨rfl, hd⟩
    rw [HOK.out]
    go_wp2
    go_ret2
    exact NewIIB.none HN.out (Dr.below hd _)
  have hm5 := okM_len hok
  have HOK := Lib.hid hok; clear hok
  cases hos : okS m s
  · have HN := Lib.hid (adB_no (show adG m s l t = false by unfold adG; rw [hos]; simp))
    have HOS := Lib.hid hos; clear hos
    go_enter Try.func6, Try.ntmps6
    go_wp2_with fail
    refine (s_validModel hm hlm).mono ?_
    rintro e w1 ⟨rfl, hd⟩
    rw [HOK.out]
    go_wp2_with fail
    refine (s_validSuite (hm.dr hd) (hs.dr hd) HOK.out hls HG.out).mono ?_
    rintro e w2 ⟨rfl, hd2⟩
    have hd := Dr.trans hd hd2
    rw [HOS.out]
    go_wp2
    go_ret2
    exact NewIIB.none HN.out (Dr.below hd _)
  have hsl := okS_len hos
  have HOS := Lib.hid hos; clear hos
  by_cases h5 : 5 ≤ m.length
  · have HN := Lib.hid (adB_no (show adG m s l t = false by unfold adG; rw [show decide (m.length < 5) = false from decide_eq_false (by omega)]; simp))
    go_enter Try.func6, Try.ntmps6
    go_wp2_with fail
    refine (s_validModel hm hlm).mono ?_
    rintro e w1 ⟨rfl, hd⟩
    rw [HOK.out]
    go_wp2_with fail
    refine (s_validSuite (hm.dr hd) (hs.dr hd) HOK.out hls HG.out).mono ?_
    rintro e w2 ⟨rfl, hd2⟩
    have hd := Dr.trans hd hd2
    rw [HOS.out]
    go_wp2
    go_ret2
    exact NewIIB.none HN.out (Dr.below hd _)
  cases hil : inR l 1 3
  · have HN := Lib.hid (adB_no (show adG m s l t = false by unfold adG; rw [hil]; simp))
    have HIL := Lib.hid hil; clear hil
    go_enter Try.func6, Try.ntmps6
    go_wp2_with fail
    refine (s_validModel hm hlm).mono ?_
    rintro e w1 ⟨rfl, hd⟩
    rw [HOK.out]
    go_wp2_with fail
    refine (s_validSuite (hm.dr hd) (hs.dr hd) HOK.out hls HG.out).mono ?_
    rintro e w2 ⟨rfl, hd2⟩
    have hd := Dr.trans hd hd2
    rw [HOS.out]
    go_wp2_with fail
    refine (s_inRange l 1 3 w2).mono ?_
    rintro e w3 ⟨rfl, hd3⟩
    have hd := Dr.trans hd hd3
    rw [HIL.out]
    go_wp2
    go_ret2
    exact NewIIB.none HN.out (Dr.below hd _)
  have hl13 := inR_true.1 hil
  have HIL := Lib.hid hil; clear hil
  cases hit : inR t 1 ((m.length : Int) + 1)
  · have HN := Lib.hid (adB_no (show adG m s l t = false by unfold adG; rw [hit]; simp))
    have HIT := Lib.hid hit; clear hit
    go_enter Try.func6, Try.ntmps6
    go_wp2_with fail
    refine (s_validModel hm hlm).mono ?_
    rintro e w1 ⟨rfl, hd⟩
    rw [HOK.out]
    go_wp2_with fail
    refine (s_validSuite (hm.dr hd) (hs.dr hd) HOK.out hls HG.out).mono ?_
    rintro e w2 ⟨rfl, hd2⟩
    have hd := Dr.trans hd hd2
    rw [HOS.out]
    go_wp2_with fail
    refine (s_inRange l 1 3 w2).mono ?_
    rintro e w3 ⟨rfl, hd3⟩
    have hd := Dr.trans hd hd3
    rw [HIL.out]
    go_wp2_with fail
    refine (s_inRange t 1 ((m.length : Int) + 1) w3).mono ?_
    rintro e w4 ⟨rfl, hd4⟩
    have hd := Dr.trans hd hd4
    rw [HIT.out]
    go_wp2
    go_ret2
    exact NewIIB.none HN.out (Dr.below hd _)
  have ht := inR_true.1 hit
  have HADG : Hid (adG m s l t = true) := by show _ = _; unfold adG; rw [HOK.out, HOS.out, HIL.out, hit, show decide (m.length < 5) = true from decide_eq_true (by omega)]; rfl
  have HIT := Lib.hid hit; clear hit
  obtain ⟨N, rfl⟩ := Int.eq_ofNat_of_zero_le (show 0 ≤ l by omega)
  have HAE := Lib.hid (ad_eq HADG.out)
  have hMok := adM_ok HOK.out (by omega) hl13.1 hl13.2
  have hCW := adW_ok HADG.out
  have hWD0 : (wdG N s (hvF m.length (patS (adM m (N : Int)) [] t))).1 = adW m s (N : Int) t := by unfold adW; rw [Int.toNat_natCast]
  have hMl : (adM m (N : Int)).length = m.length + 1 := by simp [adM]
  have hMa : (adM m (N : Int))[m.length]? = some (N : Int) := by simp [adM]
  have hMe : m ++ [(N : Int)] = adM m (N : Int) := rfl
  obtain ⟨W, hW⟩ : ∃ W, adW m s (N : Int) t = W := ⟨_, rfl⟩
  obtain ⟨M, hM⟩ : ∃ M, adM m (N : Int) = M := ⟨_, rfl⟩
  rw [hW] at HAE hCW hWD0
  rw [hM] at HAE hCW hWD0 hMok hMl hMa hMe
  have hp := okC_parts hCW
  have HR := Lib.hid hp.2.2.2
  have hWl := hp.2.2.1
  have HC := Lib.hid hCW
  have HMOK := Lib.hid hMok
  have HNE := Lib.hid (ext_ne HMOK.out)
  have HRow := Lib.hid (ext_row (m := M))
  have HLN := Lib.hid (ext_len HMOK.out)
  have HML := Lib.hid (misL_len (s := W) (t := t) HMOK.out)
  have HMR := Lib.hid (misL_row (m := M) (s := W) (t := t))
  have HSR : Hid (∀ r ∈ W, r ≠ [] ∧ r.length ≤ 1048576) := by
    intro r hr
    have := HR.out r hr
    exact ⟨by intro e; rw [e] at this; simp at this; omega, by omega⟩
  have HGS : Hid (adL m s (N : Int) t = grL (gsR M W t) ∧ adB m s (N : Int) t = grB (gsR M W t)) := by
    show _ ∧ _
    rw [HAE.out.1, HAE.out.2]
    unfold gsL gsB grL grB; rw [HC.out, Bool.true_and]; exact ⟨rfl, rfl⟩
  have HGE : Hid (gsR M W t = grS (extS M []) (21 - W.length) W (misL M W t)) := rfl
  have hgl := (grS_len (extS M []) (21 - W.length) W (misL M W t)).2
  have HWD := Lib.hid hWD0; have HMA := Lib.hid hMa; have HMLN := Lib.hid hMl; have HME := Lib.hid hMe
  have hm0 : m ≠ [] := by intro e; rw [e] at hm5; simp at hm5
  have hM5 : M.length ≤ 5 := by omega
  have hSL : ∀ r ∈ s, r.length = m.length := fun r hr => okW_len (okS_all HOS.out hr)
  have HSL := Lib.hid hSL
  clear hW hM hp hCW hMok hWD0 hMa hMl hMe hSL
  go_enter Try.func6, Try.ntmps6
  go_wp2_with fail
  refine (s_validModel hm hlm).mono ?_
  rintro e w1 ⟨rfl, hd⟩
  rw [HOK.out]
  go_wp2_with fail
  refine (s_validSuite (hm.dr hd) (hs.dr hd) HOK.out hls HG.out).mono ?_
  rintro e w2 ⟨rfl, hd2⟩
  have hd := Dr.trans hd hd2
  rw [HOS.out]
  go_wp2_with fail
  refine (s_inRange (N : Int) 1 3 w2).mono ?_
  rintro e w3 ⟨rfl, hd3⟩
  have hd := Dr.trans hd hd3
  rw [HIL.out]
  go_wp2_with fail
  refine (s_inRange t 1 ((m.length : Int) + 1) w3).mono ?_
  rintro e w5 ⟨rfl, hd4⟩
  have hd : Dr w w5 := Dr.trans hd hd4
  rw [HIT.out]
  have hz5 := Dr.le hd
  have hm1 := hm.dr hd
  have hs1 := hs.dr hd
  have hbA := (Below.refl w5.heap.size w5).alloc (Nat.le_refl _) (.cells #[] 3)
  have hmA := hm1.below hbA (by omega)
  have hstr := OwnL.made w5 w5.heap.size (Nat.le_refl _)
  have hzA : w5.heap.size ≤ (w5.alloc (.cells #[] 3)).heap.size := by simp
  clear hd2 hd3 hd4 hbA
  go_wp2_with (first
    | (at_builtin; refine wpList_appN rfl (.tmp 39) (.tmp 40) (by rfl) w5.heap.size _ [] (by rfl) hstr m _ _ c a (by rfl) hmA hm0 (by simp) (by omega) hzA ?_; intro v6 w6 hown6 hb6; simp only [List.nil_append] at hown6; have hb06 := chain1 hb6; have hz6 := hb06.size)
    | (at_builtin; refine wpList_app1 rfl (.tmp 41) (.tmp 43) (by rfl) w5.heap.size _ m (by rfl) hown6 (N : Int) (by rfl) (by omega) hz6 ?_; intro v7 w7 hown7 hb7; rw [HME.out] at hown7; obtain ⟨Ma, Mc, rfl, hMo⟩ := hown7.slice; have hb07 := hb06.trans hb7; have hz7 := hb07.size)
    | fail)
  refine (s_widen (f := m.length) (n := N) HMOK.out hMo.ri (Nat.le_refl _) (hs1.below hb07 (by omega)) (by omega) hsl HMLN.out (by omega) HMA.out (by omega) (by omega) HSL.out (by omega) (by omega)).mono ?_
  rintro e w8 ⟨Wa, Wc, rfl, hWr, hb8⟩
  rw [HWD.out] at hWr
  rw [HWD.out]
  have hz8 := hb8.size
  have hM8 := hMo.ri.below hb8 (Nat.le_refl _)
  have hb08 := hb07.trans (hb8.mono (by omega))
  clear hMo hb06 hb6 hb7 hb07 hb8 hown6 hown7 hstr hmA
  have hbA := (Below.refl w8.heap.size w8).alloc (Nat.le_refl _) (.cells #[] 3)
  go_wp2_with fail
  refine (s_extend HMOK.out M.length [] Ma ⟨w8.heap.size, 0, none⟩ Mc 0 _ w7.heap.size 0 0 _ (by simp) (hM8.below hbA (by omega)) (by simp; omega) (RI.nil _ _ _ _) (by simp)).mono ?_
  rintro e w9 ⟨ad2, c2, rfl, h2, hb2⟩
  obtain ⟨ps, hps⟩ : ∃ ps, extS M [] = ps := ⟨_, rfl⟩
  rw [hps] at h2 HNE HRow HLN HGE hgl ⊢
  clear hps
  have hb89 : Below w8.heap.size w8 w9 := hbA.trans (hb2.mono (by simp))
  have hs9 := hb89.size
  have hall : RII w9 w8.heap.size w9.heap.size (some ad2) ps := h2.rii.wide (by simp) (Nat.le_refl _)
  have hpl := HLN.out
  have hM9 := hM8.below hb89 (by omega)
  have hW9 := hWr.rii.below hb89 (Nat.le_refl _)
  clear h2 hb2 hbA hM8 hWr
  go_wp2_with fail
  refine (s_missing HMOK.out hM9 (by omega) hW9 (by omega) (by omega) HR.out (by omega) (by have := HMLN.out; omega)).mono ?_
  rintro e w10 ⟨a3, c3, rfl, h3, hb3⟩
  have hs10 := hb3.size
  have hall3 := hall.below hb3 (Nat.le_refl _)
  have hW10 := hW9.below hb3 (by omega)
  have hml := HML.out
  obtain ⟨q, hq⟩ : ∃ q, misL M W t = q := ⟨_, rfl⟩
  rw [hq] at h3 hml HMR HGE hgl ⊢
  clear hq HML
  go_wp2_with fail
  refine (s_greedy hW10 (by omega) hWl HSR.out hall3 (by omega) h3.rii (by omega) HNE.out (by omega) (by omega) HRow.out (fun p hp => by have := HMR.out p hp; omega) (by have := HMLN.out; omega) (by omega)).mono ?_
  rintro e w11 ⟨v4, rfl, ho4, hn4, hb4⟩
  obtain ⟨R, hR⟩ : ∃ R, grS ps (21 - W.length) W q = R := ⟨_, rfl⟩
  rw [hR] at ho4 HGE hgl
  rw [HGE.out] at HGS
  clear hR
  obtain ⟨ad4, c4, rfl, h4⟩ := ho4.some hn4.out
  have hB4 : Below w.heap.size w w11 := (Dr.below hd _).trans ((hb08.trans ((hb89.trans ((hb3.mono (by omega)).trans (hb4.mono (by omega)))).mono (by omega))).mono (by omega))
  clear hall hall3 h3 hb89 hb3 hb4 hm1 hs1 hb08 hM9 hW9 hW10
  by_cases hR20 : R.length ≤ 20
  · have HE : Hid (grL R = R ∧ grB R = true) := by unfold Hid grL grB; rw [decide_eq_true hR20]; exact ⟨rfl, rfl⟩
    have hdec : decide (20 < R.length) = false := decide_eq_false (by omega)
    go_wp2
    go_ret2
    rw [HGS.out.1, HGS.out.2]
    exact NewIIB.some HE.out rfl (by have := h4; exact ⟨this.oii.wide (by omega) (Nat.le_refl _), this.cap⟩) hB4
  · have HE : Hid (grL R = [] ∧ grB R = false) := by unfold Hid grL grB; rw [decide_eq_false hR20]; exact ⟨rfl, rfl⟩
    have hdec : decide (20 < R.length) = true := decide_eq_true (by omega)
    go_wp2
    go_ret2
    rw [HGS.out.1, HGS.out.2]
    exact NewIIB.none HE.out hB4

end Go.Proofs.Yteoiclkipfdgpaa
