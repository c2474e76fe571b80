/- Walks: SplitTest, by the program and by the model. -/
import Derived.Test.YtehoagbpgahopaaTd
import Derived.Test.YtehoagbpgahopaaZa
import Derived.Test.YtehoagbpgahopaaWk
namespace Go.Proofs.Ytehoagbpgahopaa
open Go.RowKit

theorem stG_aP (m : List Int) (l : List (List Int)) : (okM m && aP m l 100) = stG m l := by unfold stG aP; rw [Bool.and_assoc]

set_option maxRecDepth 100000 in
set_option maxHeartbeats 1000000 in
theorem i_SplitTest {m : List Int} {s : List (List Int)} {a a1 : Option Addr} {c c1 lo hi lo1 hi1 : Nat} {w : World} (hm : RI w lo hi a m) (hlm : m.length ≤ 9223372036854775807) (hs : RII w lo1 hi1 a1 s) (hls : s.length ≤ 9223372036854775807) (hg : ∀ r ∈ s, r.length ≤ 9223372036854775807) (hB : hi ≤ w.heap.size) (hB1 : hi1 ≤ w.heap.size) :
    Calls Try.prog 111 #[.slice a m.length c, .slice a1 s.length c1] w (NewIB w (stL m s) (stB m s)) := by
  have HG := Lib.hid hg; clear hg
  have D0 : Dr w w := Dr.refl w
  cases hst : stG m s
  · have HST := Lib.hid hst; clear hst
    have HNO : Hid (stB m s = false) := by show _ = _; unfold stB; rw [HST.out]; rfl
    go_enter Try.func111, Try.ntmps111
    go_wp2_with fail
    refine (i_arePatterns (hm.dr D0) hlm (hs.dr D0) hls HG.out 100 (by omega)).mono ?_
    rintro e w1 ⟨rfl, d1⟩
    rw [stG_aP, HST.out]
    have D1 := Dr.trans D0 d1
    clear d1
    go_wp2
    go_ret2
    exact NewIB.none (l := stL m s) (b := stB m s) ⟨st_no HNO.out, HNO.out⟩ (Dr.below D1 _)
  have HST := Lib.hid hst; clear hst
  have hsm := stG_m HST.out
  have HOK := Lib.hid hsm.1
  have HROW : Hid (∀ p ∈ s, p.length = m.length) := fun p hp => okW_len (hsm.2.1 p hp)
  have hsl := hsm.2.2
  have hm5 := okM_len HOK.out
  clear hsm
  have HB : Hid (stB m s = spB m s) := by show _ = _; unfold stB; rw [HST.out]; rfl
  go_enter Try.func111, Try.ntmps111
  go_wp2_with fail
  refine (i_arePatterns (hm.dr D0) hlm (hs.dr D0) hls HG.out 100 (by omega)).mono ?_
  rintro e w1 ⟨rfl, d1⟩
  rw [stG_aP, HST.out]
  have D1 := Dr.trans D0 d1
  clear d1
  have Z1 := Dr.le D1
  go_wp2_with fail
  refine (i_patternsIn (hs.dr D1) (by omega) (by omega) (fun r hr => by have := HROW.out r hr; omega)).mono ?_
  rintro e w2 ⟨v, rfl, ho2, hb2⟩
  have hz2 := hb2.size
  have hm2 := (hm.dr D1).below hb2 (by omega)
  have hbb : Below w.heap.size w w2 := (Dr.below D1 w.heap.size).trans (hb2.mono (by omega))
  cases hsp : spB m s
  · have HSP := Lib.hid hsp; clear hsp
    have HNO := HB.out.trans HSP.out
    go_wp2_with fail
    refine (i_splitOf HOK.out hm2 (by omega) ho2 (Below.refl _ _) (by omega) HROW.out).mono ?_
    rintro e w3 ⟨T, rfl, hT, hb3⟩
    rw [HSP.out]
    clear hT
    go_wp2
    go_ret2
    exact NewIB.none (l := stL m s) (b := stB m s) ⟨st_no HNO, HNO⟩ ((hbb.trans (hb3.mono (by omega))).alloc (by have := hb3.size; omega) _)
  · have HSP := Lib.hid hsp; clear hsp
    have HYES := HB.out.trans HSP.out
    obtain ⟨x, hx⟩ : ∃ x, bsL m s = x := ⟨_, rfl⟩
    have hxl : x.length = m.length := by rw [← hx]; exact bsL_len HOK.out
    have hx0 : x ≠ [] := by intro h; rw [h] at hxl; simp at hxl; omega
    have hx0 := Lib.hid hx0
    replace hxl := Lib.hid hxl
    have HX := Lib.hid hx
    clear hx
    go_wp2_with fail
    refine (i_splitOf HOK.out hm2 (by omega) ho2 (Below.refl _ _) (by omega) HROW.out).mono ?_
    rintro e w3 ⟨T, rfl, hT, hb3⟩
    have HT : Hid (∀ i, T i = at5 x i) := fun i => by rw [hT HSP.out i, HX.out]
    rw [HSP.out]
    simp only [HT.out]
    have hz3 := hb3.size
    clear hT
    obtain ⟨n, hn⟩ : ∃ n, m.length = n := ⟨_, rfl⟩
    have hn5 : n ≤ 5 := by omega
    have HN := Lib.hid hn
    have hsl5 := fun b wx => slice5 b n hn5 wx
    have hxn := Lib.hid (hxl.out.trans hn)
    clear hxl hm hs hm2
    have hbx := ri_box (heap_alloc_new w3 (.cells #[.int .i64 (at5 x 0), .int .i64 (at5 x 1), .int .i64 (at5 x 2), .int .i64 (at5 x 3), .int .i64 (at5 x 4)] 97)) (by have := hxn.out; omega)
    have hbA := hbb.trans (hb3.mono (by omega)) |>.alloc (by omega) (.cells #[.int .i64 (at5 x 0), .int .i64 (at5 x 1), .int .i64 (at5 x 2), .int .i64 (at5 x 3), .int .i64 (at5 x 4)] 97)
    rw [hn]
    clear hn
    go_wp2_with fail
    refine (x_CloneN hxn.out hbx (by simp) hx0.out (by omega)).mono ?_
    rintro e w5 ⟨a6, c6, rfl, h6, hb6⟩
    go_wp2
    go_ret2
    exact NewIB.some (l := stL m s) (b := stB m s) ⟨(st_yes HYES).trans HX.out, HYES⟩ hxn.out.symm (h6.oi.wide (by simp; omega) (Nat.le_refl _)) (hbA.trans (hb6.mono (by simp; omega)))

/-- a call that returns a slice of numbers, which may be shared, and a bool -/
def GotI2 (w : World) (l : List Int) (b : Bool) (e : Ending) (w' : World) : Prop :=
  ∃ a c, e = .returned (.tuple #[.slice a l.length c, .bool b]) ∧ RI w' w.heap.size w'.heap.size a l ∧ Below w.heap.size w w'
theorem GotI2.none {w w' : World} {l : List Int} {b : Bool} (h : l = [] ∧ b = false) (hb : Below w.heap.size w w') : GotI2 w l b (.returned (.tuple #[.slice none 0 0, .bool false])) w' := by
  obtain ⟨rfl, rfl⟩ := h
  exact ⟨_, _, rfl, RI.nil _ _ _ _, hb⟩

set_option maxRecDepth 100000 in
set_option maxHeartbeats 2000000 in
theorem s_SplitTest {m : List Int} {s : List (List Int)} {a a1 : Option Addr} {c c1 lo hi lo1 hi1 : Nat} {w : World} (hm : RI w lo hi a m) (hlm : m.length ≤ 9223372036854775807) (hs : RII w lo1 hi1 a1 s) (hls : s.length ≤ 9223372036854775807) (hg : ∀ r ∈ s, r.length ≤ 9223372036854775807) (hB : hi ≤ w.heap.size) (hB1 : hi1 ≤ w.heap.size) :
    Calls Try.prog 112 #[.slice a m.length c, .slice a1 s.length c1] w (GotI2 w (stL m s) (stB m s)) := by
  have HG := Lib.hid hg; clear hg
  have D0 : Dr w w := Dr.refl w
  cases hok : okM m
  · have HOK := Lib.hid hok; clear hok
    have HNO : Hid (stB m s = false) := by show _ = _; unfold stB stG; rw [HOK.out]; rfl
    go_enter Try.func112, Try.ntmps112
    go_wp2_with fail
    refine (s_validModel (hm.dr D0) hlm).mono ?_
    rintro e w1 ⟨rfl, d1⟩
    rw [HOK.out]
    have D1 := Dr.trans D0 d1
    clear d1
    go_wp2
    go_ret2
    exact GotI2.none (l := stL m s) (b := stB m s) ⟨st_no HNO.out, HNO.out⟩ (Dr.below D1 _)
  have HOK := Lib.hid hok; clear hok
  have hm5 := okM_len HOK.out
  by_cases hsl : s.length ≤ 100
  case neg =>
    have HNO : Hid (stB m s = false) := by show _ = _; unfold stB stG; rw [decide_eq_false hsl]; simp
    have hdec : decide ((100 : Int) < (s.length : Int)) = true := decide_eq_true (by omega)
    have hdec2 : decide (100 < s.length) = true := decide_eq_true (by omega)
    go_enter Try.func112, Try.ntmps112
    go_wp2_with fail
    refine (s_validModel (hm.dr D0) hlm).mono ?_
    rintro e w1 ⟨rfl, d1⟩
    rw [HOK.out]
    have D1 := Dr.trans D0 d1
    clear d1
    go_wp2
    go_ret2
    exact GotI2.none (l := stL m s) (b := stB m s) ⟨st_no HNO.out, HNO.out⟩ (Dr.below D1 _)
  have hdec : decide ((100 : Int) < (s.length : Int)) = false := decide_eq_false (by omega)
  have hdec2 : decide (100 < s.length) = false := decide_eq_false (by omega)
  go_enter Try.func112, Try.ntmps112
  go_wp2_with fail
  refine (s_validModel (hm.dr D0) hlm).mono ?_
  rintro e w1 ⟨rfl, d1⟩
  rw [HOK.out]
  have D1 := Dr.trans D0 d1
  clear d1 hdec
  go_wp2
  go_loopw [6] (fun i wr => ∃ k : Nat, k ≤ s.length ∧ i = .int .i64 k ∧ Dr w wr ∧ Hid ((s.take k).all (okP m) = true)) (fun i _ => s.length - (intOf i).toNat)
  case atStart => exact ⟨0, Nat.zero_le _, rfl, D1, by simp [Hid]⟩
  case round =>
    clear D1 D0
    obtain ⟨k, hk, rfl, hd, hA⟩ := hrel
    have hz := Dr.le hd
    by_cases hlt : k < s.length
    · obtain ⟨b, o, a3, c3, r, ha, _, _, hcell, hr, hx⟩ := (hs.dr hd).at hlt
      have hidx := idxII ha hlt c1
      have hrl := HG.out r (List.mem_of_getElem? hx.out)
      have hmd := hm.dr hd
      clear ha hm hs
      cases hb : okP m r
      · have HB := Lib.hid hb; clear hb
        have HNO : Hid (stB m s = false) := by show _ = _; unfold stB stG; rw [all_fails hx.out HB.out]; simp
        go_wp2_with fail
        refine (s_validPattern hmd hr HOK.out hrl).mono ?_
        rintro e w2 ⟨rfl, d2⟩
        rw [HB.out]
        go_wp2
        go_ret2
        exact GotI2.none (l := stL m s) (b := stB m s) ⟨st_no HNO.out, HNO.out⟩ (Dr.below (Dr.trans hd d2) _)
      · have HB := Lib.hid hb; clear hb
        go_wp2_with fail
        refine (s_validPattern hmd hr HOK.out hrl).mono ?_
        rintro e w2 ⟨rfl, d2⟩
        rw [HB.out]
        go_wp2
        go_roundw
        case rel => exact ⟨k + 1, by omega, by go_num, Dr.trans hd d2, all_snoc hx.out hA.out HB.out⟩
        case measure => simp [intOf]; omega
    · have HALL : Hid (∀ p ∈ s, okP m p = true) := List.all_eq_true.1 (all_whole hA.out (by omega))
      have HST : Hid (stG m s = true) := stG_mk HOK.out HALL.out hsl
      have HROW : Hid (∀ p ∈ s, p.length ≤ m.length) := fun p hp => Nat.le_of_eq (okW_len (HALL.out p hp))
      have HB : Hid (stB m s = spB m s) := by show _ = _; unfold stB; rw [HST.out]; rfl
      have hbw := Dr.below hd w.heap.size
      have hm1 := hm.dr hd
      have hs1 := hs.dr hd
      clear hA hm hs
      go_wp2_with fail
      refine (s_bestSplit HOK.out hm1 (by omega) hs1 (by omega) (by omega) HROW.out).mono ?_
      rintro e w2 ⟨a4, c4, rfl, h4, hc4, hb4⟩
      have hz4 := hb4.size
      have hs2 := hs1.below hb4 (by omega)
      obtain ⟨x, hx⟩ : ∃ x, bsL m s = x := ⟨_, rfl⟩
      have HXL : Hid (x.length = m.length) := by show _ = _; rw [← hx]; exact bsL_len HOK.out
      have HX := Lib.hid hx
      obtain ⟨q, hq⟩ : ∃ q, unN s x = q := ⟨_, rfl⟩
      have HQ := Lib.hid hq
      have hql : q ≤ s.length := by rw [← hq]; exact unN_le _ _
      rw [hx] at h4
      clear hx hq hs1 hm1
      have hbb := hbw.trans (hb4.mono (by omega))
      cases hsp : spB m s
      · have HSP := Lib.hid hsp; clear hsp
        have HNO := HB.out.trans HSP.out
        have hqs : s.length ≤ q := by
          have h := HSP.out
          unfold spB at h; rw [decide_eq_false_iff_not, HX.out, HQ.out] at h; omega
        have heq : ((q : Int) == (s.length : Int)) = true := by rw [beq_iff_eq]; omega
        have heq2 : (q == s.length) = true := by rw [beq_iff_eq]; omega
        clear hqs
        go_wp2_with fail
        refine (s_uneven HXL.out HQ.out hs2 h4 (by omega) (by omega) HROW.out).mono ?_
        rintro e w3 ⟨rfl, d3⟩
        go_wp2
        go_ret2
        exact GotI2.none (l := stL m s) (b := stB m s) ⟨st_no HNO, HNO⟩ (hbb.trans (Dr.below d3 _))
      · have HSP := Lib.hid hsp; clear hsp
        have HYES := HB.out.trans HSP.out
        have hqs : q < s.length := by
          have h := HSP.out
          unfold spB at h; rw [decide_eq_true_eq, HX.out, HQ.out] at h; exact h
        have heq : ((q : Int) == (s.length : Int)) = false := by rw [beq_eq_false_iff_ne]; omega
        have heq2 : (q == s.length) = false := by rw [beq_eq_false_iff_ne]; omega
        clear hqs
        go_wp2_with fail
        refine (s_uneven HXL.out HQ.out hs2 h4 (by omega) (by omega) HROW.out).mono ?_
        rintro e w3 ⟨rfl, d3⟩
        have hz3 := Dr.le d3
        have d3 : Dr w2 w3 := d3
        have h5 := h4.dr d3
        go_wp2
        go_ret2
        refine ⟨a4, c4, ?_, ?_, hbb.trans (Dr.below d3 _)⟩
        · rw [HYES, st_yes HYES, HX.out, HXL.out]; rfl
        · rw [st_yes HYES, HX.out]; exact h5.wide (by omega) (by omega)

end Go.Proofs.Ytehoagbpgahopaa
