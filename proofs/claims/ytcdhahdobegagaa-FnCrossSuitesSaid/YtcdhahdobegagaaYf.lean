/- Walks: FuseLevels, by the model. -/
import Derived.Test.YtcdhahdobegagaaYe
namespace Go.Proofs.Ytcdhahdobegagaa
open Go.RowKit

theorem OII.dr {w w' : World} {lo hi : Nat} {a : Option Addr} {mm : List (List Int)} (h : OII w lo hi a mm) (hd : Dr w w') : OII w' lo hi a mm := by
  obtain ⟨n, rfl⟩ := hd
  exact h.same fun _ _ _ => rfl

set_option maxRecDepth 100000 in
set_option maxHeartbeats 4000000 in
theorem s_FuseLevels {m : List Int} {s : List (List Int)} {a a' : Option Addr} {c c' lo hi lo' hi' : Nat} {w : World} {f x : Int} (hm : RI w lo hi a m) (hlm : m.length ≤ 9223372036854775807) (hs : RII w lo' hi' a' s) (hls : s.length ≤ 9223372036854775807) (hg : ∀ r ∈ s, r.length ≤ 9223372036854775807)
    (_hf0 : -9223372036854775808 ≤ f) (_hf1 : f ≤ 9223372036854775807) (_hx0 : -9223372036854775808 ≤ x) (_hx1 : x ≤ 9223372036854775807) (hB : hi ≤ w.heap.size) (hB' : hi' ≤ w.heap.size) :
    Calls Try.prog 68 #[.slice a m.length c, .slice a' s.length c', .int .i64 f, .int .i64 x] w (NewIIB w (fuL m s f x) (fuB m s f x)) := by
  have HG := Lib.hid hg; clear hg
  cases hok : okM m
  · have HOK := Lib.hid hok; clear hok
    go_enter Try.func68, Try.ntmps68
    go_wp2_with fail
    refine (s_validModel hm hlm).mono ?_
    rintro e w1 ⟨rfl, hd⟩
    rw [HOK.out]
    go_wp2
    go_ret2
    exact NewIIB.none (fu_no (fuB_s (by rw [HOK.out]; rfl))) (Dr.below hd _)
  have HOK := Lib.hid hok; clear hok
  cases hos : okS m s
  · have HOS := Lib.hid hos; clear hos
    go_enter Try.func68, Try.ntmps68
    go_wp2_with fail
    refine (s_validModel hm hlm).mono ?_
    rintro e w1 ⟨rfl, hd⟩
    rw [HOK.out]
    go_wp2_with fail
    refine (s_validSuite (hm.dr hd) (hs.dr hd) HOK.out hls HG.out).mono ?_
    rintro e w2 ⟨rfl, hd2⟩
    rw [HOS.out]
    go_wp2
    go_ret2
    exact NewIIB.none (fu_no (fuB_s (by rw [HOK.out, HOS.out]; rfl))) (Dr.below (Dr.trans hd hd2) _)
  have HOKS := Lib.hid hos
  have HOS : Hid ((okM m && okS m s) = true) := by show _ = _; rw [HOK.out, hos]; rfl
  clear hos
  have hm5 := okM_len HOK.out
  cases hof : inR f 0 ((m.length : Int) - 1)
  · have HOF := Lib.hid hof; clear hof
    go_enter Try.func68, Try.ntmps68
    go_wp2_with fail
    refine (s_validModel hm hlm).mono ?_
    rintro e w1 ⟨rfl, hd⟩
    rw [HOK.out]
    go_wp2_with fail
    refine (s_validSuite (hm.dr hd) (hs.dr hd) HOK.out hls HG.out).mono ?_
    rintro e w2 ⟨rfl, hd2⟩
    rw [HOKS.out]
    go_wp2_with fail
    refine (s_inRange _ _ _ _).mono ?_
    rintro e w3 ⟨rfl, hd3⟩
    rw [HOF.out]
    go_wp2
    go_ret2
    exact NewIIB.none (fu_no (fuB_f HOF.out)) (Dr.below (Dr.trans (Dr.trans hd hd2) hd3) _)
  have hf2 := inR_true.1 hof
  obtain ⟨fn, rfl⟩ := Int.eq_ofNat_of_zero_le hf2.1
  have hfm : fn < m.length := by omega
  obtain ⟨bm, om, y, ham, hlom, hhim, hcm, hy⟩ := hm.at hfm
  have hy3 := okM_at HOK.out hy.out
  have hidxm := idxI ham hfm c
  have HOF := Lib.hid hof; clear hof
  have HCM := Lib.hid hcm
  clear ham hcm
  cases hox : inR x 0 (y - 2)
  · have HOX := Lib.hid hox; clear hox
    go_enter Try.func68, Try.ntmps68
    go_wp2_with fail
    refine (s_validModel hm hlm).mono ?_
    rintro e w1 ⟨rfl, hd⟩
    rw [HOK.out]
    go_wp2_with fail
    refine (s_validSuite (hm.dr hd) (hs.dr hd) HOK.out hls HG.out).mono ?_
    rintro e w2 ⟨rfl, hd2⟩
    rw [HOKS.out]
    go_wp2_with fail
    refine (s_inRange _ _ _ _).mono ?_
    rintro e w3 ⟨rfl, hd3⟩
    rw [HOF.out]
    have hd3 := Dr.trans (Dr.trans hd hd2) hd3
    have hcm3 := ((Dr.below hd3 w.heap.size).cell (p := ⟨bm, om + fn, none⟩) (by show bm < _; omega)).trans HCM.out
    go_wp2_with fail
    refine (s_inRange _ _ _ _).mono ?_
    rintro e w4 ⟨rfl, hd4⟩
    rw [HOX.out]
    go_wp2
    go_ret2
    exact NewIIB.none (fu_no (fuB_x hy.out HOX.out)) (Dr.below (Dr.trans hd3 hd4) _)
  have hx2 := inR_true.1 hox
  have HOX := Lib.hid hox; clear hox
  have HYES := Lib.hid (fu_yes (fuB_yes HOS.out HOF.out hy.out HOX.out))
  have HFY : Hid (fuF (m.getD (fn : Int).toNat 0) x (fn : Int).toNat = fuF y x fn) := by show _ = _; simp [List.getD, hy.out]
  have hsl := okS_len HOKS.out
  have HRL : Hid (∀ r ∈ s, r.length = m.length) := fun r hr => okW_len (okS_all HOKS.out hr)
  have HRN : Hid (∀ r ∈ s, r ≠ [] ∧ r.length ≤ 1048576) := by
    intro r hr
    have := HRL.out r hr
    exact ⟨by intro e; rw [e] at this; simp at this; omega, by omega⟩
  go_enter Try.func68, Try.ntmps68
  go_wp2_with fail
  refine (s_validModel hm hlm).mono ?_
  rintro e w1 ⟨rfl, hd⟩
  rw [HOK.out]
  go_wp2_with fail
  refine (s_validSuite (hm.dr hd) (hs.dr hd) HOK.out hls HG.out).mono ?_
  rintro e w2 ⟨rfl, hd2⟩
  rw [HOKS.out]
  go_wp2_with fail
  refine (s_inRange _ _ _ _).mono ?_
  rintro e w3 ⟨rfl, hd3⟩
  rw [HOF.out]
  have hd3 := Dr.trans (Dr.trans hd hd2) hd3
  have hcm3 := ((Dr.below hd3 w.heap.size).cell (p := ⟨bm, om + fn, none⟩) (by show bm < _; omega)).trans HCM.out
  go_wp2_with fail
  refine (s_inRange _ _ _ _).mono ?_
  rintro e w2 ⟨rfl, hd2⟩
  rw [HOX.out]
  have hd2 := Dr.trans hd3 hd2
  have hz2 := Dr.le hd2
  have hcm2 := ((Dr.below hd2 w.heap.size).cell (p := ⟨bm, om + fn, none⟩) (by show bm < _; omega)).trans HCM.out
  clear hcm3 hd3
  go_wp2_with fail
  refine (s_copySuite (hs.dr hd2) (by omega) (by omega) HRN.out).mono ?_
  rintro e w3 ⟨ad3, c3, rfl, h3, hb3⟩
  have hz3 := hb3.size
  have HCAP := Lib.hid h3.cap
  have hcm3 := (hb3.cell (p := ⟨bm, om + fn, none⟩) (by show bm < _; omega)).trans hcm2
  clear hcm2
  go_wp2
  go_loopw [11] (fun i wr => ∃ (k : Nat) (l : List (List Int)), k ≤ s.length ∧ i = .int .i64 k ∧ OII wr w2.heap.size w3.heap.size (some ad3) l ∧ Hid (Mid s (fuF y x fn) k l) ∧ Upd w2.heap.size w3.heap.size w3 wr ∧ w3.heap.size ≤ wr.heap.size ∧ wr.heap.size ≤ w3.heap.size) (fun i _ => s.length - (intOf i).toNat)
  case atStart => exact ⟨0, s, Nat.zero_le _, rfl, h3, Mid.start _ _, Upd.refl _ _ _, Nat.le_refl _, Nat.le_refl _⟩
  case round =>
    clear h3
    obtain ⟨k, l, hk, rfl, hO, hM, hU, hs1, hs2⟩ := hrel
    by_cases hlt : k < s.length
    · obtain ⟨r, hr⟩ := at_of_lt hlt
      have hlr : l[k]? = some r := by rw [hM.out.2.2 k (Nat.le_refl _)]; exact hr
      have hfr2 : fn < r.length := by have := HRL.out r (List.mem_of_getElem? hr); omega
      have HR := Lib.hid hr
      obtain ⟨b0, o0, b, o, c1, z, ha0, hc0, hz, hcz, hfz, hl1, hl2, hset⟩ := hO.elem (by omega) hlr hfr2
      cases ha0
      have hidx := idxII rfl hlt c3 (b := b0) (o := o0)
      have hidx2 := idxI rfl hfr2 c1 (b := b) (o := o)
      have hcmr : wr.cell? ⟨bm, om + fn, none⟩ = some (.int .i64 y) := (World.cell?_of_block (w := w3) (a := ⟨bm, om + fn, none⟩) (hU.block bm (by omega) (.inl (by omega)))).trans hcm3
      have HZ := Lib.hid hz
      clear hr hlr hz hset hcm3
      by_cases hzy : z = y - 1
      · have HM2 := Lib.hid (hM.out.put HR.out (fuF_hit (x := x) HZ.out hzy))
        have hc : (z == y - 1) = true := by rw [hzy]; exact beq_self_eq_true _
        subst hzy
        go_wp2_with fail
        go_quiet (fail)
        obtain ⟨wq, hwq⟩ : ∃ q, q = wr.drewN nq := ⟨_, rfl⟩
        have hdq : Dr wr wq := ⟨nq, hwq⟩
        rw [← hwq]
        clear hwq
        have hOq := hO.dr hdq
        have hzq := Dr.le hdq
        have hUq : Upd w2.heap.size w3.heap.size w3 wq := by obtain ⟨n, rfl⟩ := hdq; exact hU.trans ⟨rfl, rfl, rfl, Nat.le_refl _, fun _ _ _ => rfl⟩
        have hlr2 : l[k]? = some r := by rw [hM.out.2.2 k (Nat.le_refl _)]; exact HR.out
        clear hc0 hcz hfz hl1 hl2 hidx hidx2 hcmr hO hU
        obtain ⟨b0', o0', b', o', c1', z', ha0', hc0', hz', hcz', hfz', hl1', hl2', hset'⟩ := hOq.elem (by omega) hlr2 hfr2
        cases ha0'
        have hidx' := idxII rfl hlt c3 (b := b0) (o := o0)
        have hidx2' := idxI rfl hfr2 c1' (b := b') (o := o')
        have HSET := Lib.hid hset'
        have hU2 := Lib.hid (hUq.setCell (p := ⟨b', o' + fn, none⟩) hl1' hl2' (.int .i64 x))
        have hs3 : (wq.setCell ⟨b', o' + fn, none⟩ (.int .i64 x)).heap.size = wq.heap.size := by simp [World.setCell]
        have hs4 := eq_le hs3
        clear hUq hOq hs3 hset' hz' hlr2
        go_wp2
        go_roundw
        case rel => exact ⟨k + 1, _, by omega, by go_num, HSET.out x, HM2, hU2.out, by omega, by omega⟩
        case measure => simp [intOf]; omega
      · have HM2 := Lib.hid (hM.out.keep HR.out (fuF_miss (x := x) HZ.out hzy))
        have hc : (z == y - 1) = false := by rw [beq_eq_false_iff_ne]; exact hzy
        go_wp2_with fail
        go_quiet (fail)
        obtain ⟨wq, hwq⟩ : ∃ q, q = wr.drewN nq := ⟨_, rfl⟩
        have hdq : Dr wr wq := ⟨nq, hwq⟩
        rw [← hwq]
        clear hwq
        have hOq := hO.dr hdq
        have hzq := Dr.le hdq
        have hUq : Upd w2.heap.size w3.heap.size w3 wq := by obtain ⟨n, rfl⟩ := hdq; exact hU.trans ⟨rfl, rfl, rfl, Nat.le_refl _, fun _ _ _ => rfl⟩
        clear hc0 hcz hfz hl1 hl2 hidx hidx2 hcmr hO hU
        go_wp2
        go_roundw
        case rel => exact ⟨k + 1, l, by omega, by go_num, hOq, HM2, hUq, by omega, by omega⟩
        case measure => simp [intOf]; omega
    · have HE := Lib.hid (hM.out.done (by omega))
      have hlen : s.length = (s.map (fuF y x fn)).length := by simp
      have HLN := Lib.hid hlen
      clear hlen
      go_wp2
      go_ret2
      have hO2 := hO
      rw [HE.out] at hO2
      refine NewIIB.some ⟨HYES.out.1.trans (by rw [HFY.out]), HYES.out.2⟩ HLN.out ⟨hO2.wide (by omega) hs1, by rw [List.length_map]; exact HCAP.out⟩ ?_
      exact bupd ((Dr.below hd2 w.heap.size).trans (hb3.mono (by omega))) hU (by omega)

end Go.Proofs.Ytcdhahdobegagaa
