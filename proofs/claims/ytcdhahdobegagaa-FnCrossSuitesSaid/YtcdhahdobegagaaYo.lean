/- Walks: CrossSuites of the document's side. -/
import Derived.Test.YtcdhahdobegagaaYm
namespace Go.Proofs.Ytcdhahdobegagaa
open Go.RowKit

theorem crB_a {m n : List Int} {a b : List (List Int)} (h : (okM m && okS m a) = false) : crB m a n b = false := by unfold crB; rw [h]; rfl
theorem crB_b {m n : List Int} {a b : List (List Int)} (h : (okM n && okS n b) = false) : crB m a n b = false := by unfold crB; rw [h]; simp
theorem crB_l {m n : List Int} {a b : List (List Int)} (h : 5 < m.length + n.length) : crB m a n b = false := by unfold crB; rw [show decide (m.length + n.length ≤ 5) = false from by simp; omega]; simp
theorem crB_p {m n : List Int} {a b : List (List Int)} (h : 20 < a.length * b.length) : crB m a n b = false := by unfold crB; rw [show decide (a.length * b.length ≤ 20) = false from by simp; omega]; simp
theorem crB_mk {m n : List Int} {a b : List (List Int)} (h : (okM m && okS m a) = true) (h2 : (okM n && okS n b) = true) (h3 : m.length + n.length ≤ 5) (h4 : a.length * b.length ≤ 20) : crB m a n b = true := by
  unfold crB; rw [h, h2, show decide (m.length + n.length ≤ 5) = true from by simp; omega, show decide (a.length * b.length ≤ 20) = true from by simp; omega]; rfl
theorem crX_snoc {a b : List (List Int)} {k : Nat} {r : List Int} (hr : a[k]? = some r) : crX (a.take (k + 1)) b = crX (a.take k) b ++ b.map (r ++ ·) := by
  unfold crX; rw [take_snoc hr, List.flatMap_append]; simp
theorem crX_big {a b : List (List Int)} (ha : a.length ≤ 20) (hb : b.length ≤ 20) (k q : Nat) (r : List Int) : (crX (a.take k) b ++ (b.take q).map (r ++ ·)).length ≤ 1099511627776 := by
  rw [List.length_append, crX_len, List.length_map]
  have h1 : (a.take k).length ≤ 20 := by simp; omega
  have h2 : (b.take q).length ≤ 20 := by simp; omega
  have := Nat.mul_le_mul h1 hb
  omega
theorem mul_i64 {x y P : Nat} (h : x * y = P) (hx : x ≤ 20) (hy : y ≤ 20) : IntKind.i64.wrap ((x : Int) * (y : Int)) = (P : Int) ∧ P ≤ 400 := by
  have h1 := Nat.mul_le_mul hx hy
  have h2 : (x : Int) * (y : Int) = (P : Int) := by rw [← h]; simp
  rw [h2, IntWalk.i64_in _ (by omega)]
  exact ⟨rfl, by omega⟩

set_option maxRecDepth 100000 in
set_option maxHeartbeats 4000000 in
theorem s_CrossSuites {m n : List Int} {s t : List (List Int)} {a a' a2 a2' : Option Addr} {c c' c2 c2' lo hi lo' hi' p1 p2 q1 q2 : Nat} {w : World} (hm : RI w lo hi a m) (hlm : m.length ≤ 9223372036854775807) (hs : RII w lo' hi' a' s) (hls : s.length ≤ 9223372036854775807) (hg : ∀ r ∈ s, r.length ≤ 9223372036854775807)
    (hn : RI w p1 p2 a2 n) (hln : n.length ≤ 9223372036854775807) (ht : RII w q1 q2 a2' t) (hlt : t.length ≤ 9223372036854775807) (hgt : ∀ r ∈ t, r.length ≤ 9223372036854775807)
    (_hB : hi ≤ w.heap.size) (hB' : hi' ≤ w.heap.size) (_hBn : p2 ≤ w.heap.size) (hBt : q2 ≤ w.heap.size) :
    Calls Try.prog 56 #[.slice a m.length c, .slice a' s.length c', .slice a2 n.length c2, .slice a2' t.length c2'] w (NewIIB w (crL m s n t) (crB m s n t)) := by
  have HG := Lib.hid hg; clear hg
  have HGT := Lib.hid hgt; clear hgt
  cases hok : okM m
  · have HOK := Lib.hid hok; clear hok
    go_enter Try.func56, Try.ntmps56
    go_wp2_with fail
    refine (s_validModel hm hlm).mono ?_
    rintro e w1 ⟨rfl, hd⟩
    rw [HOK.out]
    go_wp2
    go_ret2
    exact NewIIB.none (cr_no (crB_a (by rw [HOK.out]; rfl))) (Dr.below hd _)
  have HOK := Lib.hid hok; clear hok
  cases hos : okS m s
  · have HOS := Lib.hid hos; clear hos
    go_enter Try.func56, Try.ntmps56
    go_wp2_with fail
    refine (s_validModel hm hlm).mono ?_
    rintro e w1 ⟨rfl, hd⟩
    rw [HOK.out]
    go_wp2_with fail
    refine (s_validSuite (hm.dr hd) (hs.dr hd) HOK.out hls HG.out).mono ?_
    rintro e w2 ⟨rfl, hd2⟩
    have hd := Dr.trans hd hd2
    clear hd2
    rw [HOS.out]
    go_wp2
    go_ret2
    exact NewIIB.none (cr_no (crB_a (by rw [HOK.out, HOS.out]; rfl))) (Dr.below hd _)
  have HOS := Lib.hid hos; clear hos
  cases hokn : okM n
  · have HOKN := Lib.hid hokn; clear hokn
    go_enter Try.func56, Try.ntmps56
    go_wp2_with fail
    refine (s_validModel hm hlm).mono ?_
    rintro e w1 ⟨rfl, hd⟩
    rw [HOK.out]
    go_wp2_with fail
    refine (s_validSuite (hm.dr hd) (hs.dr hd) HOK.out hls HG.out).mono ?_
    rintro e w2 ⟨rfl, hd2⟩
    have hd := Dr.trans hd hd2
    clear hd2
    rw [HOS.out]
    go_wp2_with fail
    refine (s_validModel (hn.dr hd) hln).mono ?_
    rintro e w3 ⟨rfl, hd3⟩
    have hd := Dr.trans hd hd3
    clear hd3
    rw [HOKN.out]
    go_wp2
    go_ret2
    exact NewIIB.none (cr_no (crB_b (by rw [HOKN.out]; rfl))) (Dr.below hd _)
  have HOKN := Lib.hid hokn; clear hokn
  cases hot : okS n t
  · have HOT := Lib.hid hot; clear hot
    go_enter Try.func56, Try.ntmps56
    go_wp2_with fail
    refine (s_validModel hm hlm).mono ?_
    rintro e w1 ⟨rfl, hd⟩
    rw [HOK.out]
    go_wp2_with fail
    refine (s_validSuite (hm.dr hd) (hs.dr hd) HOK.out hls HG.out).mono ?_
    rintro e w2 ⟨rfl, hd2⟩
    have hd := Dr.trans hd hd2
    clear hd2
    rw [HOS.out]
    go_wp2_with fail
    refine (s_validModel (hn.dr hd) hln).mono ?_
    rintro e w3 ⟨rfl, hd3⟩
    have hd := Dr.trans hd hd3
    clear hd3
    rw [HOKN.out]
    go_wp2_with fail
    refine (s_validSuite (hn.dr hd) (ht.dr hd) HOKN.out hlt HGT.out).mono ?_
    rintro e w4 ⟨rfl, hd4⟩
    have hd := Dr.trans hd hd4
    clear hd4
    rw [HOT.out]
    go_wp2
    go_ret2
    exact NewIIB.none (cr_no (crB_b (by rw [HOKN.out, HOT.out]; rfl))) (Dr.below hd _)
  have HOT := Lib.hid hot; clear hot
  have hm5 := okM_len HOK.out
  have hn5 := okM_len HOKN.out
  have hsl := okS_len HOS.out
  have htl := okS_len HOT.out
  have HA : Hid ((okM m && okS m s) = true) := by show _ = _; rw [HOK.out, HOS.out]; rfl
  have HB : Hid ((okM n && okS n t) = true) := by show _ = _; rw [HOKN.out, HOT.out]; rfl
  by_cases h5 : 5 < m.length + n.length
  · have hc5 : (5 : Int) < (m.length : Int) + (n.length : Int) := by omega
    have HD := Lib.hid (crB_l (a := s) (b := t) h5)
    go_enter Try.func56, Try.ntmps56
    go_wp2_with fail
    refine (s_validModel hm hlm).mono ?_
    rintro e w1 ⟨rfl, hd⟩
    rw [HOK.out]
    go_wp2_with fail
    refine (s_validSuite (hm.dr hd) (hs.dr hd) HOK.out hls HG.out).mono ?_
    rintro e w2 ⟨rfl, hd2⟩
    have hd := Dr.trans hd hd2
    clear hd2
    rw [HOS.out]
    go_wp2_with fail
    refine (s_validModel (hn.dr hd) hln).mono ?_
    rintro e w3 ⟨rfl, hd3⟩
    have hd := Dr.trans hd hd3
    clear hd3
    rw [HOKN.out]
    go_wp2_with fail
    refine (s_validSuite (hn.dr hd) (ht.dr hd) HOKN.out hlt HGT.out).mono ?_
    rintro e w4 ⟨rfl, hd4⟩
    have hd := Dr.trans hd hd4
    clear hd4
    rw [HOT.out]
    go_wp2
    go_ret2
    exact NewIIB.none (cr_no (HD.out)) (Dr.below hd _)
  have hc5 : ¬ (5 : Int) < (m.length : Int) + (n.length : Int) := by omega
  obtain ⟨P, hP⟩ : ∃ P, s.length * t.length = P := ⟨_, rfl⟩
  have HP := Lib.hid hP
  have hmul := mul_i64 hP hsl htl
  have hP4 := hmul.2
  have hmul := hmul.1
  clear hP
  by_cases h20 : 20 < P
  · have hc20 : (20 : Int) < (P : Int) := by omega
    have HD : Hid (crB m s n t = false) := crB_p (by rw [HP.out]; exact h20)
    go_enter Try.func56, Try.ntmps56
    go_wp2_with fail
    refine (s_validModel hm hlm).mono ?_
    rintro e w1 ⟨rfl, hd⟩
    rw [HOK.out]
    go_wp2_with fail
    refine (s_validSuite (hm.dr hd) (hs.dr hd) HOK.out hls HG.out).mono ?_
    rintro e w2 ⟨rfl, hd2⟩
    have hd := Dr.trans hd hd2
    clear hd2
    rw [HOS.out]
    go_wp2_with fail
    refine (s_validModel (hn.dr hd) hln).mono ?_
    rintro e w3 ⟨rfl, hd3⟩
    have hd := Dr.trans hd hd3
    clear hd3
    rw [HOKN.out]
    go_wp2_with fail
    refine (s_validSuite (hn.dr hd) (ht.dr hd) HOKN.out hlt HGT.out).mono ?_
    rintro e w4 ⟨rfl, hd4⟩
    have hd := Dr.trans hd hd4
    clear hd4
    rw [HOT.out]
    go_wp2
    go_ret2
    exact NewIIB.none (cr_no (HD.out)) (Dr.below hd _)
  have hc20 : ¬ (20 : Int) < (P : Int) := by omega
  have HYES := Lib.hid (cr_yes (crB_mk HA.out HB.out (by omega) (by rw [HP.out]; omega)))
  have HRL : Hid (∀ r ∈ s, r.length = m.length) := fun r hr => okW_len (okS_all HOS.out hr)
  have HRT : Hid (∀ r ∈ t, r.length = n.length) := fun r hr => okW_len (okS_all HOT.out hr)
  go_enter Try.func56, Try.ntmps56
  go_wp2_with fail
  refine (s_validModel hm hlm).mono ?_
  rintro e w1 ⟨rfl, hd⟩
  rw [HOK.out]
  go_wp2_with fail
  refine (s_validSuite (hm.dr hd) (hs.dr hd) HOK.out hls HG.out).mono ?_
  rintro e w2 ⟨rfl, hd2⟩
  have hd := Dr.trans hd hd2
  clear hd2
  rw [HOS.out]
  go_wp2_with fail
  refine (s_validModel (hn.dr hd) hln).mono ?_
  rintro e w3 ⟨rfl, hd3⟩
  have hd := Dr.trans hd hd3
  clear hd3
  rw [HOKN.out]
  go_wp2_with fail
  refine (s_validSuite (hn.dr hd) (ht.dr hd) HOKN.out hlt HGT.out).mono ?_
  rintro e w4 ⟨rfl, hd4⟩
  have hd := Dr.trans hd hd4
  clear hd4
  rw [HOT.out]
  have hz2 := Dr.le hd
  have hbb := Dr.below hd w.heap.size
  have hst := OwnLL.made w4 w.heap.size hz2.2
  clear hd hm hn
  go_wp2
  clear hmul h20 hc20 h5 hc5
  go_loopw [10, 11, 12] (fun v i _ wr => ∃ k : Nat, k ≤ s.length ∧ i = .int .i64 k ∧ OwnLL wr w.heap.size v (crX (s.take k) t) ∧ Below w.heap.size w wr) (fun _ i _ _ => s.length - (intOf i).toNat)
  case atStart => exact ⟨0, Nat.zero_le _, rfl, by simpa [crX] using hst, hbb.alloc hz2.2 _⟩
  case round =>
    clear hst
    obtain ⟨k, hk, rfl, hown, hBl⟩ := hrel
    by_cases hlt : k < s.length
    · obtain ⟨r, hr⟩ := at_of_lt hlt
      have HR := Lib.hid hr
      have hrl := HRL.out r (List.mem_of_getElem? hr)
      clear hr
      go_wp2
      go_loopw [10, 12] (fun v j wr => ∃ q : Nat, q ≤ t.length ∧ j = .int .i64 q ∧ OwnLL wr w.heap.size v (crX (s.take k) t ++ (t.take q).map (r ++ ·)) ∧ Below w.heap.size w wr) (fun _ j _ => t.length - (intOf j).toNat)
      case atStart => exact ⟨0, Nat.zero_le _, rfl, by simpa using hown, hBl⟩
      case round =>
        clear hown hBl
        obtain ⟨q, hq, rfl, hown, hBl⟩ := hrel
        have hsz := hBl.size
        by_cases hlt2 : q < t.length
        · obtain ⟨b, o, a3, c3, r', ha, _, hbh, hcell, hr1, hx, _⟩ := (hs.below hBl hB').atc hlt
          obtain rfl : r' = r := by have := hx.out; rw [HR.out] at this; exact (Option.some.inj this).symm
          obtain ⟨bt, ot, a4, c4, u, hat, _, hbht, hcellt, hu1, hxt, _⟩ := (ht.below hBl hBt).atc hlt2
          have hidx := idxII ha hlt c'
          have hidxt := idxII hat hlt2 c2'
          have hul := HRT.out u (List.mem_of_getElem? hxt.out)
          obtain ⟨b1, o1, x1, ha1, _, _, _⟩ := hr1.at (show 0 < r'.length by omega)
          obtain ⟨b2, o2, x2, ha2, _, _, _⟩ := hu1.at (show 0 < u.length by omega)
          subst ha1 ha2
          obtain ⟨l, hl⟩ : ∃ l, r' ++ u = l := ⟨_, rfl⟩
          obtain ⟨X, hX⟩ : ∃ X, crX (s.take k) t ++ (t.take q).map (r' ++ ·) = X := ⟨_, rfl⟩
          have HX : Hid (crX (s.take k) t ++ (t.take (q + 1)).map (r' ++ ·) = X ++ [l]) := by show _ = _; rw [take_snoc hxt.out, List.map_append, ← List.append_assoc, hX, ← hl]; rfl
          have hkl : X.length ≤ 1099511627776 := by rw [← hX]; exact crX_big hsl htl k q r'
          rw [hX] at hown
          have HE := Lib.hid hl
          have hl0 : ([] : List Int).length ≤ 1099511627776 := by simp
          have hl1 : r'.length ≤ 1099511627776 := by omega
          have hl2 : u.length ≤ 1099511627776 := by omega
          have hbs : b < wr.heap.size := by omega
          have hbw : b < w.heap.size := by omega
          have hbst : bt < wr.heap.size := by omega
          have hbwt : bt < w.heap.size := by omega
          have hhw : hi' ≤ wr.heap.size := by omega
          have hht : q2 ≤ wr.heap.size := by omega
          have hbA := (((Below.refl wr.heap.size wr).alloc (Nat.le_refl _) (.cells #[] 3)).drew)
          have hst : OwnL (wr.alloc (.cells #[] 3)).drew wr.heap.size (.slice (some ⟨wr.heap.size, 0, none⟩) 0 0) [] := (OwnL.made wr wr.heap.size (Nat.le_refl _)).below ((Below.refl _ _).drew)
          have hwA : wr.heap.size ≤ (wr.alloc (.cells #[] 3)).drew.heap.size := by simp
          have hrA := hr1.below hbA hhw
          have HU := Lib.hid hu1
          clear ha hat hrl hul hl hX hr1 hu1
          go_wp2_with fail
          go_region_held3 (fun w' => w'.cell? ⟨b, o + k, none⟩ = some (.slice (some ⟨b1, o1, none⟩) r'.length c3) ∧ w'.cell? ⟨bt, ot + q, none⟩ = some (.slice (some ⟨b2, o2, none⟩) u.length c4)) (first | go_keep | (exact ⟨by assumption, by assumption⟩)) ((first
            | (refine step_appS (by rfl) _ _ (by rfl) wr.heap.size _ [] (by rfl) hst r' lo' hi' _ _ ⟨b1, o1, none⟩ rfl (by rfl) hrA hl0 hl1 hwA ?_; intro v5 w5 hown5 hb5; rw [List.nil_append] at hown5; have hb05 := hbA.trans hb5; have hcell5 := (hb05.cell (p := ⟨b, o + k, none⟩) hbs).trans hcell; have hcellt5 := (hb05.cell (p := ⟨bt, ot + q, none⟩) hbst).trans hcellt; have hz5 := hb05.size; have hu5 := HU.out.below hb05 hht; clear hst hrA)
            | (refine step_appS (by rfl) _ _ (by rfl) wr.heap.size _ r' (by rfl) hown5 u q1 q2 _ _ ⟨b2, o2, none⟩ rfl (by rfl) hu5 hl1 hl2 hz5 ?_; intro v6 w6 hown6 hb6; rw [HE.out] at hown6; have hb06 := hb05.trans hb6; have hcell6 := (hb06.cell (p := ⟨b, o + k, none⟩) hbs).trans hcell; have hcellt6 := (hb06.cell (p := ⟨bt, ot + q, none⟩) hbst).trans hcellt; obtain ⟨a6, c6, rfl, ho6⟩ := hown6.slice; clear hown5 hu5)
            | (refine step_appL1 (W0 := wr) (by rfl) _ _ (by rfl) w.heap.size _ X (by rfl) hown hb06 (by omega) l a6 _ c6 (by rfl) ho6 _ (by rfl) (by rfl) hkl ?_; intro v7 w7 hown7 hb7; have hcell7 := (((hb06.mono hsz).trans hb7).cell (p := ⟨b, o + k, none⟩) hbw).trans hcell; have hcellt7 := (((hb06.mono hsz).trans hb7).cell (p := ⟨bt, ot + q, none⟩) hbwt).trans hcellt)))
          have HO : Hid (OwnLL w7 w.heap.size v7 (crX (s.take k) t ++ (t.take (q + 1)).map (r' ++ ·))) := by show OwnLL _ _ _ _; rw [HX.out]; exact hown7
          have hBl5 := (hBl.trans (hb06.mono (by omega))).trans hb7
          clear hown7 hb7 hb06 hb05 hBl hown hbA
          go_wp2
          go_roundw
          case rel => exact ⟨q + 1, by omega, by go_num, HO.out, hBl5⟩
          case measure => simp [intOf]; omega
        · have HK : Hid (crX (s.take k) t ++ (t.take q).map (r ++ ·) = crX (s.take (k + 1)) t) := by show _ = _; rw [List.take_of_length_le (show t.length ≤ q by omega), crX_snoc HR.out]
          rw [HK.out] at hown
          clear hrl
          go_wp2
          go_roundw
          case rel => exact ⟨k + 1, by omega, by go_num, hown, hBl⟩
          case measure => simp [intOf]; omega
    · have HKE : Hid (crL m s n t = crX (s.take k) t ∧ crB m s n t = true) := by rw [List.take_of_length_le (show s.length ≤ k by omega)]; exact HYES.out
      obtain ⟨a5, c5, rfl, h5⟩ := hown.slice
      go_wp2
      go_ret2
      exact NewIIB.some HKE.out rfl h5 hBl

/- Walks: CrossSuites of the program. -/
open Go.RowKit

/-- make([]int, N) -/
theorem makeN {N : Nat} (hN : N ≤ 1048576) (wx : World) : (Instr.makeSlice 23 (.int .i64 (N : Int)) (.int .i64 (N : Int))).run Try.prog wx = .ok (.slice (some ⟨wx.heap.size, 0, none⟩) N N) (wx.alloc (.cells (madeCells #[.int .i64 0] N) 3)) := by
  obtain ⟨inf, hinf, hzz⟩ := Option.map_eq_some_iff.1 infoInt
  simp only [Prod.mk.injEq] at hzz
  obtain ⟨hz, hsz, hby⟩ := hzz
  have h := run_makeSlice (P := Try.prog) (w := wx) 23 3 inf (.int .i64 0) undI hinf hz .i64 .i64 (N : Int) (N : Int) (by omega) (by omega) (by rw [hsz]; omega) (by rw [hby]; omega) (by omega)
  simpa [hsz, Value.cells] using h
/-- a list is copied into a new row, from a place on -/
theorem copyNew {l : List Int} {b1 o1 c lo hi dLen dCap d : Nat} {cur : Array Value} {w : World} (hl : RI w lo hi (some ⟨b1, o1, none⟩) l) (hB : hi ≤ w.heap.size) (hd : l.length ≤ dLen) (hfit : d + l.length ≤ cur.size) (ty : TypeId) :
    ∃ cs : Array Value, cs.size = cur.size ∧ cs.toList = cur.toList.take d ++ l.map (Value.int .i64) ++ cur.toList.drop (d + l.length) ∧
      (Builtin.copy_ #[23, 23] ty #[.slice (some ⟨w.heap.size, d, none⟩) dLen dCap, .slice (some ⟨b1, o1, none⟩) l.length c]).run Try.prog (w.alloc (.cells cur 3)) = .ok (goInt l.length) (w.alloc (.cells cs 3)) := by
  have hsrc : ∀ j v, (l.map (Value.int .i64))[j]? = some v → (w.alloc (.cells cur 3)).cell? ((⟨b1, o1, none⟩ : Addr).add j) = some v := by
    intro j v hv
    rw [List.getElem?_map, Option.map_eq_some_iff] at hv
    obtain ⟨x, hx, rfl⟩ := hv
    obtain ⟨b', o', e1, _, e3, x', e4, e5⟩ := hl j (lt_of_at hx)
    cases e1
    rw [hx] at e4
    cases e4
    rw [addrAdd]
    exact (World.cell?_of_block (w := w) (Below.heap_alloc w _ b1 (by omega))).trans e5
  have hn : (l.map (Value.int .i64)).length = Nat.min l.length dLen := by rw [List.length_map]; exact (Nat.min_eq_left hd).symm
  have hr := run_copy_row (P := Try.prog) (w.alloc (.cells cur 3)) 23 23 ty 3 w.heap.size d dLen dCap ⟨b1, o1, none⟩ l.length c cur 3 (l.map (Value.int .i64)) undI sizeOne
    (heap_alloc_new w _) hn hsrc (by simpa using hfit) (by simp [Value.oneCell'])
  rw [World.setRow_alloc_new, List.length_map] at hr
  refine ⟨_, ?_, ?_, hr⟩
  · simp
    omega
  · simp
theorem rowNew {w : World} {cs : Array Value} {l : List Int} {c : Nat} (h : cs.toList = l.map (Value.int .i64)) (hc : l.length ≤ c) : OIc (w.alloc (.cells cs 3)) w.heap.size (w.alloc (.cells cs 3)).heap.size (some ⟨w.heap.size, 0, none⟩) c l := by
  have hr : (w.alloc (.cells cs 3)).rowIs w.heap.size 3 l.length (fun i => .int .i64 (l.getD i 0)) := by
    refine ⟨cs, heap_alloc_new _ _, by rw [← Array.length_toList, h, List.length_map], fun i hi => ?_⟩
    rw [← Array.getElem?_toList, h, List.getElem?_map]
    obtain ⟨x, hx⟩ := at_of_lt hi
    simp [List.getD, hx]
  exact ⟨(OI.of_row hr).wide (Nat.le_refl _) (by simp), hc⟩

set_option maxRecDepth 100000 in
set_option maxHeartbeats 4000000 in
theorem i_CrossSuites {m n : List Int} {s t : List (List Int)} {a a' a2 a2' : Option Addr} {c c' c2 c2' lo hi lo' hi' p1 p2 q1 q2 : Nat} {w : World} (hm : RI w lo hi a m) (hlm : m.length ≤ 9223372036854775807) (hs : RII w lo' hi' a' s) (hls : s.length ≤ 9223372036854775807) (hg : ∀ r ∈ s, r.length ≤ 9223372036854775807)
    (hn : RI w p1 p2 a2 n) (hln : n.length ≤ 9223372036854775807) (ht : RII w q1 q2 a2' t) (hlt : t.length ≤ 9223372036854775807) (hgt : ∀ r ∈ t, r.length ≤ 9223372036854775807)
    (_hB : hi ≤ w.heap.size) (hB' : hi' ≤ w.heap.size) (_hBn : p2 ≤ w.heap.size) (hBt : q2 ≤ w.heap.size) :
    Calls Try.prog 55 #[.slice a m.length c, .slice a' s.length c', .slice a2 n.length c2, .slice a2' t.length c2'] w (NewIIB w (crL m s n t) (crB m s n t)) := by
  have HG := Lib.hid hg; clear hg
  have HGT := Lib.hid hgt; clear hgt
  cases hos : (okM m && okS m s)
  · have HA := Lib.hid hos; clear hos
    go_enter Try.func55, Try.ntmps55
    go_wp2_with fail
    refine (i_ValidSuite hm hlm hs hls HG.out).mono ?_
    rintro e w1 ⟨rfl, hd⟩
    rw [HA.out]
    go_wp2
    go_ret2
    exact NewIIB.none (cr_no (crB_a HA.out)) (Dr.below hd _)
  have HA := Lib.hid hos; clear hos
  cases hot : (okM n && okS n t)
  · have HB := Lib.hid hot; clear hot
    go_enter Try.func55, Try.ntmps55
    go_wp2_with fail
    refine (i_ValidSuite hm hlm hs hls HG.out).mono ?_
    rintro e w1 ⟨rfl, hd⟩
    rw [HA.out]
    go_wp2_with fail
    refine (i_ValidSuite (hn.dr hd) hln (ht.dr hd) hlt HGT.out).mono ?_
    rintro e w2 ⟨rfl, hd2⟩
    have hd := Dr.trans hd hd2
    clear hd2
    rw [HB.out]
    go_wp2
    go_ret2
    exact NewIIB.none (cr_no (crB_b HB.out)) (Dr.below hd _)
  have HB := Lib.hid hot; clear hot
  have HAA : Hid (okM m = true ∧ okS m s = true) := by have := HA.out; rw [Bool.and_eq_true] at this; exact this
  have HBB : Hid (okM n = true ∧ okS n t = true) := by have := HB.out; rw [Bool.and_eq_true] at this; exact this
  have hm5 := okM_len HAA.out.1
  have hn5 := okM_len HBB.out.1
  have hsl := okS_len HAA.out.2
  have htl := okS_len HBB.out.2
  by_cases h5 : 5 < m.length + n.length
  · have hc5 : (5 : Int) < (m.length : Int) + (n.length : Int) := by omega
    have HD := Lib.hid (crB_l (a := s) (b := t) h5)
    go_enter Try.func55, Try.ntmps55
    go_wp2_with fail
    refine (i_ValidSuite hm hlm hs hls HG.out).mono ?_
    rintro e w1 ⟨rfl, hd⟩
    rw [HA.out]
    go_wp2_with fail
    refine (i_ValidSuite (hn.dr hd) hln (ht.dr hd) hlt HGT.out).mono ?_
    rintro e w2 ⟨rfl, hd2⟩
    have hd := Dr.trans hd hd2
    clear hd2
    rw [HB.out]
    go_wp2
    go_ret2
    exact NewIIB.none (cr_no (HD.out)) (Dr.below hd _)
  have hc5 : ¬ (5 : Int) < (m.length : Int) + (n.length : Int) := by omega
  obtain ⟨P, hP⟩ : ∃ P, s.length * t.length = P := ⟨_, rfl⟩
  have HP := Lib.hid hP
  have hmul := mul_i64 hP hsl htl
  have hP4 := hmul.2
  have hmul := hmul.1
  clear hP
  by_cases h20 : 20 < P
  · have hc20 : (20 : Int) < (P : Int) := by omega
    have HD : Hid (crB m s n t = false) := crB_p (by rw [HP.out]; exact h20)
    go_enter Try.func55, Try.ntmps55
    go_wp2_with fail
    refine (i_ValidSuite hm hlm hs hls HG.out).mono ?_
    rintro e w1 ⟨rfl, hd⟩
    rw [HA.out]
    go_wp2_with fail
    refine (i_ValidSuite (hn.dr hd) hln (ht.dr hd) hlt HGT.out).mono ?_
    rintro e w2 ⟨rfl, hd2⟩
    have hd := Dr.trans hd hd2
    clear hd2
    rw [HB.out]
    go_wp2
    go_ret2
    exact NewIIB.none (cr_no (HD.out)) (Dr.below hd _)
  have hc20 : ¬ (20 : Int) < (P : Int) := by omega
  have HYES := Lib.hid (cr_yes (crB_mk HA.out HB.out (by omega) (by rw [HP.out]; omega)))
  have HRL : Hid (∀ r ∈ s, r.length = m.length) := fun r hr => okW_len (okS_all HAA.out.2 hr)
  have HRT : Hid (∀ r ∈ t, r.length = n.length) := fun r hr => okW_len (okS_all HBB.out.2 hr)
  have hmk := make0 (N := P) (by omega)
  go_enter Try.func55, Try.ntmps55
  go_wp2_with fail
  refine (i_ValidSuite hm hlm hs hls HG.out).mono ?_
  rintro e w1 ⟨rfl, hd⟩
  rw [HA.out]
  go_wp2_with fail
  refine (i_ValidSuite (hn.dr hd) hln (ht.dr hd) hlt HGT.out).mono ?_
  rintro e w2 ⟨rfl, hd2⟩
  have hd := Dr.trans hd hd2
  clear hd2
  rw [HB.out]
  have hz2 := Dr.le hd
  have hbb := Dr.below hd w.heap.size
  have hst := OwnLL.room w2 w.heap.size P 23 rfl hz2.2 (by unfold maxLen; omega)
  clear hd hm hn
  go_wp2
  clear hmul h20 hc20 hc5 hmk
  obtain ⟨N2, hN2⟩ : ∃ N2, m.length + n.length = N2 := ⟨_, rfl⟩
  have HN2 := Lib.hid hN2
  have hmkN : ∀ wx : World, (Instr.makeSlice 23 (.int .i64 ((m.length : Int) + (n.length : Int))) (.int .i64 ((m.length : Int) + (n.length : Int)))).run Try.prog wx = .ok (.slice (some ⟨wx.heap.size, 0, none⟩) N2 N2) (wx.alloc (.cells (madeCells #[.int .i64 0] N2) 3)) := by
    intro wx
    rw [show (m.length : Int) + (n.length : Int) = (N2 : Int) from by omega]
    exact makeN (by omega) wx
  clear hN2
  go_loopw [10, 48] (fun v i wr => ∃ k : Nat, k ≤ s.length ∧ i = .int .i64 k ∧ OwnLL wr w.heap.size v (crX (s.take k) t) ∧ Below w.heap.size w wr) (fun _ i _ => s.length - (intOf i).toNat)
  case atStart => exact ⟨0, Nat.zero_le _, rfl, by simpa [crX] using hst, hbb.alloc hz2.2 _⟩
  case round =>
    clear hst
    obtain ⟨k, hk, rfl, hown, hBl⟩ := hrel
    have hsz0 := hBl.size
    by_cases hlt : k < s.length
    · obtain ⟨b, o, a3, c3, r, ha, _, hbh, hcell, hr1, hx, _⟩ := (hs.below hBl hB').atc hlt
      have hidx := idxII ha hlt c'
      have HR := Lib.hid hx.out
      have hrl := HRL.out r (List.mem_of_getElem? hx.out)
      have HRL2 := Lib.hid hrl
      have hr5 : r.length ≤ 5 := by omega
      obtain ⟨b1, o1, x1, ha1, _, _, _⟩ := hr1.at (show 0 < r.length by omega)
      subst ha1
      have hhw : hi' ≤ w.heap.size := hB'
      have hsz0 := hBl.size
      clear ha hx hrl
      go_wp2
      go_loopw [10, 54] (fun v j wq => ∃ q : Nat, q ≤ t.length ∧ j = .int .i64 q ∧ OwnLL wq w.heap.size v (crX (s.take k) t ++ (t.take q).map (r ++ ·)) ∧ Below w.heap.size w wq ∧ RI wq lo' hi' (some ⟨b1, o1, none⟩) r) (fun _ j _ => t.length - (intOf j).toNat)
      case atStart => exact ⟨0, Nat.zero_le _, rfl, by simpa using hown, hBl, hr1⟩
      case round =>
        clear hown hBl hr1 hcell
        obtain ⟨q, hq, rfl, hown, hBl, hr1⟩ := hrel
        have hsz := hBl.size
        by_cases hlt2 : q < t.length
        · obtain ⟨bt, ot, a4, c4, u, hat, _, hbht, hcellt, hu1, hxt, _⟩ := (ht.below hBl hBt).atc hlt2
          have hidxt := idxII hat hlt2 c2'
          have hul := HRT.out u (List.mem_of_getElem? hxt.out)
          have hu5 : u.length ≤ 5 := by omega
          obtain ⟨b2, o2, x2, ha2, _, _, _⟩ := hu1.at (show 0 < u.length by omega)
          subst ha2
          have hrl := HRL2.out
          have hN := HN2.out
          obtain ⟨l, hl⟩ : ∃ l, r ++ u = l := ⟨_, rfl⟩
          have hlN : l.length = N2 := by rw [← hl, List.length_append]; omega
          obtain ⟨X, hX⟩ : ∃ X, crX (s.take k) t ++ (t.take q).map (r ++ ·) = X := ⟨_, rfl⟩
          have HX : Hid (crX (s.take k) t ++ (t.take (q + 1)).map (r ++ ·) = X ++ [l]) := by show _ = _; rw [take_snoc hxt.out, List.map_append, ← List.append_assoc, hX, ← hl]; rfl
          have hkl : X.length ≤ 1099511627776 := by rw [← hX]; exact crX_big hsl htl k q r
          rw [hX] at hown
          obtain ⟨cs1, hs1, ht1, hc1⟩ := copyNew (c := c3) (d := 0) (dLen := N2) (dCap := N2) (cur := madeCells #[.int .i64 0] N2) hr1 (by omega) (by omega) (by rw [size_madeCells]; omega) 3
          rw [size_madeCells] at hs1
          obtain ⟨o', ho', hfrom⟩ := cutFrom (b := wr.heap.size) (o := 0) (n := N2) (c := N2) (k := m.length) (z := (m.length : Int)) rfl (by omega) (Nat.le_refl _)
          have ho2 := ho' (by omega)
          obtain ⟨dl, hdl⟩ : ∃ x, N2 - m.length = x := ⟨_, rfl⟩
          rw [hdl] at hfrom
          obtain ⟨cs2, hs2, ht2, hc2⟩ := copyNew (c := c4) (d := o') (dLen := dl) (dCap := dl) (cur := cs1) hu1 (by omega) (by omega) (by omega) 3
          have hcs : cs2.toList = l.map (Value.int .i64) := by
            rw [ht2, ht1, ho2, ← hl, List.map_append]
            simp only [List.take_zero, List.nil_append, Nat.zero_add]
            rw [List.take_append_of_le_length (by simp; omega), List.take_of_length_le (by simp; omega), List.drop_eq_nil_of_le (by simp [size_madeCells]; omega), List.append_nil]
          have hro := rowNew (w := wr) (c := N2) hcs (by omega)
          have hb1 := (Below.refl wr.heap.size wr).alloc (Nat.le_refl _) (.cells cs2 3)
          have hzW : (wr.alloc (.cells cs2 3)).heap.size = wr.heap.size + 1 := by simp
          have hO := OII.oneN (t := 23) (c := N2) hlN hro (by omega) (Nat.le_refl _)
          have hb3 := hb1.alloc (by omega) (.cells #[.slice (some ⟨wr.heap.size, 0, none⟩) N2 N2] 23)
          obtain ⟨A3, C3, G3, hf3, hc3⟩ := Fam.ofOII hO
          rw [hzW] at hc3
          clear hat hul hrl hN hl hlN hX hs1 ht1 ho' ho2 hdl hs2 ht2 hcs hro hb1 hzW hO
          go_wp2_with (first
            | (at_builtin; refine wpList_appLL (W0 := wr) rfl (.tmp 73) (.tmp 75) rfl w.heap.size _ X [l] rfl hown hb3 hsz ⟨wr.heap.size + 1, 0, none⟩ 1 1 rfl rfl A3 C3 G3 hf3 hc3 hkl (by simp) ?_; intro v4 w4 hown4 hb4 hnn4)
            | go_in)
          have HO : Hid (OwnLL w4 w.heap.size v4 (crX (s.take k) t ++ (t.take (q + 1)).map (r ++ ·))) := by show OwnLL _ _ _ _; rw [HX.out]; exact hown4
          have hBl5 := (hBl.trans (hb3.mono hsz)).trans hb4
          have hr7 := (hr1.below hb3 (by omega)).below hb4 hB'
          clear hown4 hb4 hb3 hBl hown hf3 hc3 hnn4 hr1 hc1 hc2
          go_roundw
          case rel => exact ⟨q + 1, by omega, by go_num, HO.out, hBl5, hr7⟩
          case measure => simp [intOf]; omega
        · have HK : Hid (crX (s.take k) t ++ (t.take q).map (r ++ ·) = crX (s.take (k + 1)) t) := by show _ = _; rw [List.take_of_length_le (show t.length ≤ q by omega), crX_snoc HR.out]
          rw [HK.out] at hown
          go_wp2
          go_roundw
          case rel => exact ⟨k + 1, by omega, by go_num, hown, hBl⟩
          case measure => simp [intOf]; omega
    · have HKE : Hid (crL m s n t = crX (s.take k) t ∧ crB m s n t = true) := by rw [List.take_of_length_le (show s.length ≤ k by omega)]; exact HYES.out
      obtain ⟨a5, c5, rfl, h5⟩ := hown.slice
      go_wp2
      go_ret2
      exact NewIIB.some HKE.out rfl h5 hBl

end Go.Proofs.Ytcdhahdobegagaa
