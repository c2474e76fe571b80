/- Walks: CrossSuites of the document's side. -/
import Derived.Test.YtfhncfbgdjeloaaYn
namespace Go.Proofs.Ytfhncfbgdjeloaa
open Go.RowKit

theorem crB_a {m n : List Int} {a b : List (List Int)} (h : (okM m && okS m a) = false) : crB m a n b = false := by unfold crB; rw [h]; rfl
theorem crB_b {m n : List Int} {a b : List (List Int)} (h : (okM n && okS n b) = false) : crB m a n b = false := by unfold crB; rw [h]; simp
theorem crB_l {m n : List Int} {a b : List (List Int)} (h : 5 < m.length + n.length) : crB m a n b = false := by unfold crB; rw [show decide (m.length + n.length ≤ 5) = false from by simp; omega]; simp
theorem crB_p {m n : List Int} {a b : List (List Int)} (h : 20 < a.length * b.length) : crB m a n b = false := by unfold crB; rw [show decide (a.length * b.length ≤ 20) = false from by simp; omega]; simp
theorem crB_mk {m n : List Int} {a b : List (List Int)} (h : (okM m && okS m a) = true) (h2 : (okM n && okS n b) = true) (h3 : m.length + n.length ≤ 5) (h4 : a.length * b.length ≤ 20) : crB m a n b = true := by
  unfold crB; rw [h, h2, show decide (m.length + n.length ≤ 5) = true from by simp; omega, show decide (a.length * b.length ≤ 20) = true from by simp; omega]; rfl
theorem crX_snoc {a b : List (List Int)} {k : Nat} {r : List Int} (hr : a[k]? = some r) : crX (a.take (k + 1)) b = crX (a.take k) b ++ b.map (r ++ ·) := by
  unfold crX; rw [take_snoc hr, List.flatMap_append]; simp
theorem crX_big {a b : List (List Int)} (ha : a.length ≤ 20) (hb : b.length ≤ 20) (k q : Nat) (r : List Int) : (crX (a.take k) b ++ (b.take q).map (r ++ ·)).length ≤ 1099511627776 := by
  rw [List.length_append, crX_len, List.length_map]
  have h1 : (a.take k).length ≤ 20 := by simp; omega
  have h2 : (b.take q).length ≤ 20 := by simp; omega
  have := Nat.mul_le_mul h1 hb
  omega
theorem mul_i64 {x y P : Nat} (h : x * y = P) (hx : x ≤ 20) (hy : y ≤ 20) : IntKind.i64.wrap ((x : Int) * (y : Int)) = (P : Int) ∧ P ≤ 400 := by
  have h1 := Nat.mul_le_mul hx hy
  have h2 : (x : Int) * (y : Int) = (P : Int) := by rw [← h]; simp
  rw [h2, IntWalk.i64_in _ (by omega)]
  exact ⟨rfl, by omega⟩

set_option maxRecDepth 100000 in
set_option maxHeartbeats 4000000 in
theorem s_CrossSuites {m n : List Int} {s t : List (List Int)} {a a' a2 a2' : Option Addr} {c c' c2 c2' lo hi lo' hi' p1 p2 q1 q2 : Nat} {w : World} (hm : RI w lo hi a m) (hlm : m.length ≤ 9223372036854775807) (hs : RII w lo' hi' a' s) (hls : s.length ≤ 9223372036854775807) (hg : ∀ r ∈ s, r.length ≤ 9223372036854775807)
    (hn : RI w p1 p2 a2 n) (hln : n.length ≤ 9223372036854775807) (ht : RII w q1 q2 a2' t) (hlt : t.length ≤ 9223372036854775807) (hgt : ∀ r ∈ t, r.length ≤ 9223372036854775807)
    (_hB : hi ≤ w.heap.size) (hB' : hi' ≤ w.heap.size) (_hBn : p2 ≤ w.heap.size) (hBt : q2 ≤ w.heap.size) :
    Calls Try.prog 50 #[.slice a m.length c, .slice a' s.length c', .slice a2 n.length c2, .slice a2' t.length c2'] w (NewIIB w (crL m s n t) (crB m s n t)) := by
  have HG := Lib.hid hg; clear hg
  have HGT := Lib.hid hgt; clear hgt
  cases hok : okM m
  · have HOK := Lib.hid hok; clear hok
    go_enter Try.func50, Try.ntmps50
    go_wp2_with fail
    refine (s_validModel hm hlm).mono ?_
    rintro e w1 ⟨rfl, hd⟩
    rw [HOK.out]
    go_wp2
    go_ret2
    exact NewIIB.none (cr_no (crB_a (by rw [HOK.out]; rfl))) (Dr.below hd _)
  have HOK := Lib.hid hok; clear hok
  cases hos : okS m s
  · have HOS := Lib.hid hos; clear hos
    go_enter Try.func50, Try.ntmps50
    go_wp2_with fail
    refine (s_validModel hm hlm).mono ?_
    rintro e w1 ⟨rfl, hd⟩
    rw [HOK.out]
    go_wp2_with fail
    refine (s_validSuite (hm.dr hd) (hs.dr hd) HOK.out hls HG.out).mono ?_
    rintro e w2 ⟨rfl, hd2⟩
    have hd := Dr.trans hd hd2
    clear hd2
    rw [HOS.out]
    go_wp2
    go_ret2
    exact NewIIB.none (cr_no (crB_a (by rw [HOK.out, HOS.out]; rfl))) (Dr.below hd _)
  have HOS := Lib.hid hos; clear hos
  cases hokn : okM n
  · have HOKN := Lib.hid hokn; clear hokn
    go_enter Try.func50, Try.ntmps50
    go_wp2_with fail
    refine (s_validModel hm hlm).mono ?_
    rintro e w1 ⟨rfl, hd⟩
    rw [HOK.out]
    go_wp2_with fail
    refine (s_validSuite (hm.dr hd) (hs.dr hd) HOK.out hls HG.out).mono ?_
    rintro e w2 ⟨rfl, hd2⟩
    have hd := Dr.trans hd hd2
    clear hd2
    rw [HOS.out]
    go_wp2_with fail
    refine (s_validModel (hn.dr hd) hln).mono ?_
    rintro e w3 ⟨rfl, hd3⟩
    have hd := Dr.trans hd hd3
    clear hd3
    rw [HOKN.out]
    go_wp2
    go_ret2
    exact NewIIB.none (cr_no (crB_b (by rw [HOKN.out]; rfl))) (Dr.below hd _)
  have HOKN := Lib.hid hokn; clear hokn
  cases hot : okS n t
  · have HOT := Lib.hid hot; clear hot
    go_enter Try.func50, Try.ntmps50
    go_wp2_with fail
    refine (s_validModel hm hlm).mono ?_
    rintro e w1 ⟨rfl, hd⟩
    rw [HOK.out]
    go_wp2_with fail
    refine (s_validSuite (hm.dr hd) (hs.dr hd) HOK.out hls HG.out).mono ?_
    rintro e w2 ⟨rfl, hd2⟩
    have hd := Dr.trans hd hd2
    clear hd2
    rw [HOS.out]
    go_wp2_with fail
    refine (s_validModel (hn.dr hd) hln).mono ?_
    rintro e w3 ⟨rfl, hd3⟩
    have hd := Dr.trans hd hd3
    clear hd3
    rw [HOKN.out]
    go_wp2_with fail
    refine (s_validSuite (hn.dr hd) (ht.dr hd) HOKN.out hlt HGT.out).mono ?_
    rintro e w4 ⟨rfl, hd4⟩
    have hd := Dr.trans hd hd4
    clear hd4
    rw [HOT.out]
    go_wp2
    go_ret2
    exact NewIIB.none (cr_no (crB_b (by rw [HOKN.out, HOT.out]; rfl))) (Dr.below hd _)
  have HOT := Lib.hid hot; clear hot
  have hm5 := okM_len HOK.out
  have hn5 := okM_len HOKN.out
  have hsl := okS_len HOS.out
  have htl := okS_len HOT.out
  have HA : Hid ((okM m && okS m s) = true) := by show _ = _; rw [HOK.out, HOS.out]; rfl
  have HB : Hid ((okM n && okS n t) = true) := by show _ = _; rw [HOKN.out, HOT.out]; rfl
  by_cases h5 : 5 < m.length + n.length
  · have hc5 : (5 : Int) < (m.length : Int) + (n.length : Int) := by omega
    have HD := Lib.hid (crB_l (a := s) (b := t) h5)
    go_enter Try.func50, Try.ntmps50
    go_wp2_with fail
    refine (s_validModel hm hlm).mono ?_
    rintro e w1 ⟨rfl, hd⟩
    rw [HOK.out]
    go_wp2_with fail
    refine (s_validSuite (hm.dr hd) (hs.dr hd) HOK.out hls HG.out).mono ?_
    rintro e w2 ⟨rfl, hd2⟩
    have hd := Dr.trans hd hd2
    clear hd2
    rw [HOS.out]
    go_wp2_with fail
    refine (s_validModel (hn.dr hd) hln).mono ?_
    rintro e w3 ⟨rfl, hd3⟩
    have hd := Dr.trans hd hd3
    clear hd3
    rw [HOKN.out]
    go_wp2_with fail
    refine (s_validSuite (hn.dr hd) (ht.dr hd) HOKN.out hlt HGT.out).mono ?_
    rintro e w4 ⟨rfl, hd4⟩
    have hd := Dr.trans hd hd4
    clear hd4
    rw [HOT.out]
    go_wp2
    go_ret2
    exact NewIIB.none (cr_no (HD.out)) (Dr.below hd _)
  have hc5 : ¬ (5 : Int) < (m.length : Int) + (n.length : Int) := by omega
  obtain ⟨P, hP⟩ : ∃ P, s.length * t.length = P := ⟨_, rfl⟩
  have HP := Lib.hid hP
  have hmul := mul_i64 hP hsl htl
  have hP4 := hmul.2
  have hmul := hmul.1
  clear hP
  by_cases h20 : 20 < P
  · have hc20 : (20 : Int) < (P : Int) := by omega
    have HD : Hid (crB m s n t = false) := crB_p (by rw [HP.out]; exact h20)
    go_enter Try.func50, Try.ntmps50
    go_wp2_with fail
    refine (s_validModel hm hlm).mono ?_
    rintro e w1 ⟨rfl, hd⟩
    rw [HOK.out]
    go_wp2_with fail
    refine (s_validSuite (hm.dr hd) (hs.dr hd) HOK.out hls HG.out).mono ?_
    rintro e w2 ⟨rfl, hd2⟩
    have hd := Dr.trans hd hd2
    clear hd2
    rw [HOS.out]
    go_wp2_with fail
    refine (s_validModel (hn.dr hd) hln).mono ?_
    rintro e w3 ⟨rfl, hd3⟩
    have hd := Dr.trans hd hd3
    clear hd3
    rw [HOKN.out]
    go_wp2_with fail
    refine (s_validSuite (hn.dr hd) (ht.dr hd) HOKN.out hlt HGT.out).mono ?_
    rintro e w4 ⟨rfl, hd4⟩
    have hd := Dr.trans hd hd4
    clear hd4
    rw [HOT.out]
    go_wp2
    go_ret2
    exact NewIIB.none (cr_no (HD.out)) (Dr.below hd _)
  have hc20 : ¬ (20 : Int) < (P : Int) := by omega
  have HYES := Lib.hid (cr_yes (crB_mk HA.out HB.out (by omega) (by rw [HP.out]; omega)))
  have HRL : Hid (∀ r ∈ s, r.length = m.length) := fun r hr => okW_len (okS_all HOS.out hr)
  have HRT : Hid (∀ r ∈ t, r.length = n.length) := fun r hr => okW_len (okS_all HOT.out hr)
  go_enter Try.func50, Try.ntmps50
  go_wp2_with fail
  refine (s_validModel hm hlm).mono ?_
  rintro e w1 ⟨rfl, hd⟩
  rw [HOK.out]
  go_wp2_with fail
  refine (s_validSuite (hm.dr hd) (hs.dr hd) HOK.out hls HG.out).mono ?_
  rintro e w2 ⟨rfl, hd2⟩
  have hd := Dr.trans hd hd2
  clear hd2
  rw [HOS.out]
  go_wp2_with fail
  refine (s_validModel (hn.dr hd) hln).mono ?_
  rintro e w3 ⟨rfl, hd3⟩
  have hd := Dr.trans hd hd3
  clear hd3
  rw [HOKN.out]
  go_wp2_with fail
  refine (s_validSuite (hn.dr hd) (ht.dr hd) HOKN.out hlt HGT.out).mono ?_
  rintro e w4 ⟨rfl, hd4⟩
  have hd := Dr.trans hd hd4
  clear hd4
  rw [HOT.out]
  have hz2 := Dr.le hd
  have hbb := Dr.below hd w.heap.size
  have hst := OwnLL.made w4 w.heap.size hz2.2
  clear hd hm hn
  go_wp2
  clear hmul h20 hc20 h5 hc5
  go_loopw [10, 11, 12] (fun v i _ wr => ∃ k : Nat, k ≤ s.length ∧ i = .int .i64 k ∧ OwnLL wr w.heap.size v (crX (s.take k) t) ∧ Below w.heap.size w wr) (fun _ i _ _ => s.length - (intOf i).toNat)
  case atStart => exact ⟨0, Nat.zero_le _, rfl, by simpa [crX] using hst, hbb.alloc hz2.2 _⟩
  case round =>
    clear hst
    obtain ⟨k, hk, rfl, hown, hBl⟩ := hrel
    by_cases hlt : k < s.length
    · obtain ⟨r, hr⟩ := at_of_lt hlt
      have HR := Lib.hid hr
      have hrl := HRL.out r (List.mem_of_getElem? hr)
      clear hr
      go_wp2
      go_loopw [10, 12] (fun v j wr => ∃ q : Nat, q ≤ t.length ∧ j = .int .i64 q ∧ OwnLL wr w.heap.size v (crX (s.take k) t ++ (t.take q).map (r ++ ·)) ∧ Below w.heap.size w wr) (fun _ j _ => t.length - (intOf j).toNat)
      case atStart => exact ⟨0, Nat.zero_le _, rfl, by simpa using hown, hBl⟩
      case round =>
        clear hown hBl
        obtain ⟨q, hq, rfl, hown, hBl⟩ := hrel
        have hsz := hBl.size
        by_cases hlt2 : q < t.length
        · obtain ⟨b, o, a3, c3, r', ha, _, hbh, hcell, hr1, hx, _⟩ := (hs.below hBl hB').atc hlt
          obtain rfl : r' = r := by have := hx.out; rw [HR.out] at this; exact (Option.some.inj this).symm
          obtain ⟨bt, ot, a4, c4, u, hat, _, hbht, hcellt, hu1, hxt, _⟩ := (ht.below hBl hBt).atc hlt2
          have hidx := idxII ha hlt c'
          have hidxt := idxII hat hlt2 c2'
          have hul := HRT.out u (List.mem_of_getElem? hxt.out)
          obtain ⟨b1, o1, x1, ha1, _, _, _⟩ := hr1.at (show 0 < r'.length by omega)
          obtain ⟨b2, o2, x2, ha2, _, _, _⟩ := hu1.at (show 0 < u.length by omega)
          subst ha1 ha2
          obtain ⟨l, hl⟩ : ∃ l, r' ++ u = l := ⟨_, rfl⟩
          obtain ⟨X, hX⟩ : ∃ X, crX (s.take k) t ++ (t.take q).map (r' ++ ·) = X := ⟨_, rfl⟩
          have HX : Hid (crX (s.take k) t ++ (t.take (q + 1)).map (r' ++ ·) = X ++ [l]) := by show _ = _; rw [take_snoc hxt.out, List.map_append, ← List.append_assoc, hX, ← hl]; rfl
          have hkl : X.length ≤ 1099511627776 := by rw [← hX]; exact crX_big hsl htl k q r'
          rw [hX] at hown
          have HE := Lib.hid hl
          have hl0 : ([] : List Int).length ≤ 1099511627776 := by simp
          have hl1 : r'.length ≤ 1099511627776 := by omega
          have hl2 : u.length ≤ 1099511627776 := by omega
          have hbs : b < wr.heap.size := by omega
          have hbw : b < w.heap.size := by omega
          have hbst : bt < wr.heap.size := by omega
          have hbwt : bt < w.heap.size := by omega
          have hhw : hi' ≤ wr.heap.size := by omega
          have hht : q2 ≤ wr.heap.size := by omega
          have hbA := (((Below.refl wr.heap.size wr).alloc (Nat.le_refl _) (.cells #[] 3)).drew)
          have hst : OwnL (wr.alloc (.cells #[] 3)).drew wr.heap.size (.slice (some ⟨wr.heap.size, 0, none⟩) 0 0) [] := (OwnL.made wr wr.heap.size (Nat.le_refl _)).below ((Below.refl _ _).drew)
          have hwA : wr.heap.size ≤ (wr.alloc (.cells #[] 3)).drew.heap.size := by simp
          have hrA := hr1.below hbA hhw
          have HU := Lib.hid hu1
          clear ha hat hrl hul hl hX hr1 hu1
          go_wp2_with fail
          go_region_held3 (fun w' => w'.cell? ⟨b, o + k, none⟩ = some (.slice (some ⟨b1, o1, none⟩) r'.length c3) ∧ w'.cell? ⟨bt, ot + q, none⟩ = some (.slice (some ⟨b2, o2, none⟩) u.length c4)) (first | go_keep | (exact ⟨by assumption, by assumption⟩)) ((first
            | (refine step_appS (by rfl) _ _ (by rfl) wr.heap.size _ [] (by rfl) hst r' lo' hi' _ _ ⟨b1, o1, none⟩ rfl (by rfl) hrA hl0 hl1 hwA ?_; intro v5 w5 hown5 hb5; rw [List.nil_append] at hown5; have hb05 := hbA.trans hb5; have hcell5 := (hb05.cell (p := ⟨b, o + k, none⟩) hbs).trans hcell; have hcellt5 := (hb05.cell (p := ⟨bt, ot + q, none⟩) hbst).trans hcellt; have hz5 := hb05.size; have hu5 := HU.out.below hb05 hht; clear hst hrA)
            | (refine step_appS (by rfl) _ _ (by rfl) wr.heap.size _ r' (by rfl) hown5 u q1 q2 _ _ ⟨b2, o2, none⟩ rfl (by rfl) hu5 hl1 hl2 hz5 ?_; intro v6 w6 hown6 hb6; rw [HE.out] at hown6; have hb06 := hb05.trans hb6; have hcell6 := (hb06.cell (p := ⟨b, o + k, none⟩) hbs).trans hcell; have hcellt6 := (hb06.cell (p := ⟨bt, ot + q, none⟩) hbst).trans hcellt; obtain ⟨a6, c6, rfl, ho6⟩ := hown6.slice; clear hown5 hu5)
            | (refine step_appL1 (W0 := wr) (by rfl) _ _ (by rfl) w.heap.size _ X (by rfl) hown hb06 (by omega) l a6 _ c6 (by rfl) ho6 _ (by rfl) (by rfl) hkl ?_; intro v7 w7 hown7 hb7; have hcell7 := (((hb06.mono hsz).trans hb7).cell (p := ⟨b, o + k, none⟩) hbw).trans hcell; have hcellt7 := (((hb06.mono hsz).trans hb7).cell (p := ⟨bt, ot + q, none⟩) hbwt).trans hcellt)))
          have HO : Hid (OwnLL w7 w.heap.size v7 (crX (s.take k) t ++ (t.take (q + 1)).map (r' ++ ·))) := by show OwnLL _ _ _ _; rw [HX.out]; exact hown7
          have hBl5 := (hBl.trans (hb06.mono (by omega))).trans hb7
          clear hown7 hb7 hb06 hb05 hBl hown hbA
          go_wp2
          go_roundw
          case rel => exact ⟨q + 1, by omega, by go_num, HO.out, hBl5⟩
          case measure => simp [intOf]; omega
        · have HK : Hid (crX (s.take k) t ++ (t.take q).map (r ++ ·) = crX (s.take (k + 1)) t) := by show _ = _; rw [List.take_of_length_le (show t.length ≤ q by omega), crX_snoc HR.out]
          rw [HK.out] at hown
          clear hrl
          go_wp2
          go_roundw
          case rel => exact ⟨k + 1, by omega, by go_num, hown, hBl⟩
          case measure => simp [intOf]; omega
    · have HKE : Hid (crL m s n t = crX (s.take k) t ∧ crB m s n t = true) := by rw [List.take_of_length_le (show s.length ≤ k by omega)]; exact HYES.out
      obtain ⟨a5, c5, rfl, h5⟩ := hown.slice
      go_wp2
      go_ret2
      exact NewIIB.some HKE.out rfl h5 hBl

end Go.Proofs.Ytfhncfbgdjeloaa
