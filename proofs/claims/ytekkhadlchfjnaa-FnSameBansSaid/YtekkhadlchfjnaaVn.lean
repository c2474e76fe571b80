/- Walks: slices.Equal over patterns; SameBans. -/
import Derived.Test.YtekkhadlchfjnaaVe
import Derived.Test.YtekkhadlchfjnaaZl
import Derived.Test.YtekkhadlchfjnaaZt
import Derived.Test.YtekkhadlchfjnaaZu
namespace Go.Proofs.Ytekkhadlchfjnaa
open Go.RowKit

theorem eq5_eq {x y : List Int} {n : Nat} (hx : x.length = n) (hy : y.length = n) (hn : n ≤ 5) : eq5 (at5 x) (at5 y) = decide (x = y) := by
  rw [Bool.eq_iff_iff, decide_eq_true_eq]
  unfold eq5
  rw [List.all_eq_true]
  constructor
  · intro h
    apply List.ext_getElem?
    intro i
    by_cases hi : i < n
    · obtain ⟨a, ha⟩ := at_of_lt (show i < x.length by omega)
      obtain ⟨b, hb⟩ := at_of_lt (show i < y.length by omega)
      have := h i (List.mem_range.2 (by omega))
      rw [at5_of ha, at5_of hb, beq_iff_eq] at this
      rw [ha, hb, this]
    · rw [List.getElem?_eq_none (by omega), List.getElem?_eq_none (by omega)]
  · intro h; subst h; simp

set_option maxRecDepth 100000 in
set_option maxHeartbeats 2000000 in
theorem x_EqualP {xs ys : List (List Int)} {v1 v2 : Value} {B1 B2 n : Nat} {wa wb w : World} (h1 : OwnP wa B1 v1 xs) (hb1 : Below wa.heap.size wa w) (h2 : OwnP wb B2 v2 ys) (hb2 : Below wb.heap.size wb w) (hl1 : xs.length ≤ 1048576) (hl2 : ys.length ≤ 1048576)
    (hx : ∀ l ∈ xs, l.length = n) (hy : ∀ l ∈ ys, l.length = n) (hn : n ≤ 5) :
    Calls Try.prog 102 #[v1, v2] w (RO w (.bool (decide (xs = ys)))) := by
  obtain ⟨a1, c1, rfl, hat1⟩ := h1.at
  obtain ⟨a2, c2, rfl, hat2⟩ := h2.at
  have HA1 := Lib.hid hat1; have HA2 := Lib.hid hat2; have HX := Lib.hid hx; have HY := Lib.hid hy
  obtain ⟨M, hM⟩ : ∃ M, xs.length = M := ⟨_, rfl⟩
  obtain ⟨N, hN⟩ : ∃ N, ys.length = N := ⟨_, rfl⟩
  have HM := Lib.hid hM; have HN := Lib.hid hN
  have hM1 : M ≤ 1048576 := by omega
  have hN1 : N ≤ 1048576 := by omega
  rw [hM, hN]
  clear hat1 hat2 h1 h2 hM hN hl1 hl2 hx hy
  by_cases hlen : M = N
  case neg =>
    have HD : Hid (decide (xs = ys) = false) := decide_eq_false fun e => hlen (by rw [← HM.out, ← HN.out, e])
    have hne : ((M : Int) != (N : Int)) = true := by rw [bne_iff_ne]; omega
    go_enter Try.func102, Try.ntmps102
    go_wp2
    go_ret
    rw [HD.out]
    exact RO.same _ _
  subst hlen
  have hne : ((M : Int) != (M : Int)) = false := by simp
  go_enter Try.func102, Try.ntmps102
  go_wp2
  go_loopw [13] (fun i wr => ∃ k : Nat, k ≤ M ∧ i = .int .i64 k ∧ Dr w wr ∧ Hid (xs.take k = ys.take k)) (fun i _ => M - (intOf i).toNat)
  case atStart => exact ⟨0, Nat.zero_le _, rfl, Dr.refl _, by simp [Hid]⟩
  case round =>
    obtain ⟨k, hk, rfl, hd, hE⟩ := hrel
    by_cases hlt : k < M
    · obtain ⟨x, hx⟩ := at_of_lt (show k < xs.length by have := HM.out; omega)
      obtain ⟨y, hy⟩ := at_of_lt (show k < ys.length by have := HN.out; omega)
      obtain ⟨g, _, hg2, hidx, hcs⟩ := HA1.out k x hx
      obtain ⟨g', _, hg2', hidx', hcs'⟩ := HA2.out k y hy
      rw [HM.out] at hidx
      rw [HN.out] at hidx'
      have hbx := hb1.trans (Dr.below hd _)
      have hby := hb2.trans (Dr.below hd _)
      have hc (j : Nat) (hj : j < 5) : wr.cell? ⟨g, k * 5 + j, none⟩ = some (.int .i64 (at5 x j)) := (hbx.cell (p := ⟨g, k * 5 + j, none⟩) hg2).trans (hcs j hj)
      have hd' (j : Nat) (hj : j < 5) : wr.cell? ⟨g', k * 5 + j, none⟩ = some (.int .i64 (at5 y j)) := (hby.cell (p := ⟨g', k * 5 + j, none⟩) hg2').trans (hcs' j hj)
      have c0 := hc 0 (by omega)
      have c1' := hc 1 (by omega)
      have c2' := hc 2 (by omega)
      have c3 := hc 3 (by omega)
      have c4 := hc 4 (by omega)
      have d0 := hd' 0 (by omega)
      have d1 := hd' 1 (by omega)
      have d2 := hd' 2 (by omega)
      have d3 := hd' 3 (by omega)
      have d4 := hd' 4 (by omega)
      simp only [Nat.add_zero] at c0 d0
      have he := eq5_eq (HX.out x (List.mem_of_getElem? hx)) (HY.out y (List.mem_of_getElem? hy)) hn
      have HXX := Lib.hid hx; have HYY := Lib.hid hy
      clear hc hd' hcs hcs' hx hy hbx hby
      by_cases hxy : x = y
      · have heq : ∀ w, (Op.equalIn 10000 72 (.agg #[.int .i64 (at5 x 0), .int .i64 (at5 x 1), .int .i64 (at5 x 2), .int .i64 (at5 x 3), .int .i64 (at5 x 4)]) (.agg #[.int .i64 (at5 y 0), .int .i64 (at5 y 1), .int .i64 (at5 y 2), .int .i64 (at5 y 3), .int .i64 (at5 y 4)])).run Try.prog w = .ok true w := fun w => by
          have h := eqArrI 9998 (at5 x) (at5 y) w
          rw [he, decide_eq_true hxy] at h; exact h
        have HE2 : Hid (xs.take (k + 1) = ys.take (k + 1)) := by show _ = _; rw [take_snoc HXX.out, take_snoc HYY.out, hE.out, hxy]
        clear he hxy
        go_wp2_with fail
        go_quiet (fail)
        go_wp2
        go_roundw
        case rel => exact ⟨k + 1, by omega, by go_num, hd.drewN _, HE2⟩
        case measure => simp [intOf]; omega
      · have heq : ∀ w, (Op.equalIn 10000 72 (.agg #[.int .i64 (at5 x 0), .int .i64 (at5 x 1), .int .i64 (at5 x 2), .int .i64 (at5 x 3), .int .i64 (at5 x 4)]) (.agg #[.int .i64 (at5 y 0), .int .i64 (at5 y 1), .int .i64 (at5 y 2), .int .i64 (at5 y 3), .int .i64 (at5 y 4)])).run Try.prog w = .ok false w := fun w => by
          have h := eqArrI 9998 (at5 x) (at5 y) w
          rw [he, decide_eq_false hxy] at h; exact h
        have HD : Hid (decide (xs = ys) = false) := decide_eq_false fun e => hxy (by rw [e] at HXX; have := HXX.out.symm.trans HYY.out; exact Option.some.inj this)
        clear he hxy
        go_wp2_with fail
        go_quiet (fail)
        go_wp2
        go_ret
        rw [HD.out]
        exact (hd.drewN _).boolD rfl
    · have HD : Hid (decide (xs = ys) = true) := by
        have e := hE.out
        rw [List.take_of_length_le (by have := HM.out; omega), List.take_of_length_le (by have := HN.out; omega)] at e
        exact decide_eq_true e
      go_wp2
      go_ret
      rw [HD.out]
      exact hd.boolD rfl

set_option maxRecDepth 100000 in
set_option maxHeartbeats 2000000 in
theorem i_SameBans {m : List Int} {a : Option Addr} {c lo hi : Nat} {s : List (List Int)} {a1 : Option Addr} {c1 lo1 hi1 : Nat} {u : List (List Int)} {a2 : Option Addr} {c2 lo2 hi2 : Nat} {w : World} (hm : RI w lo hi a m) (hlm : m.length ≤ 9223372036854775807) (hs : RII w lo1 hi1 a1 s) (hls : s.length ≤ 9223372036854775807) (hg : ∀ r ∈ s, r.length ≤ 9223372036854775807) (hu : RII w lo2 hi2 a2 u) (hlu : u.length ≤ 9223372036854775807) (hgu : ∀ r ∈ u, r.length ≤ 9223372036854775807) (hB : hi ≤ w.heap.size) (hB1 : hi1 ≤ w.heap.size) (hB2 : hi2 ≤ w.heap.size) :
    Calls Try.prog 35 #[.slice a m.length c, .slice a1 s.length c1, .slice a2 u.length c2] w (NewV w (.bool (sbB m s u))) := by
  have HG := Lib.hid hg; have HGU := Lib.hid hgu; clear hg hgu
  have D0 : Dr w w := Dr.refl w
  cases hHIB : okM m && okBn m s
  · have HIB := Lib.hid hHIB; clear hHIB
    go_enter Try.func35, Try.ntmps35
    go_wp2_with fail
    refine (i_ValidBans (hm.dr D0) hlm (hs.dr D0) hls HG.out).mono ?_
    rintro e w1 ⟨rfl, d1⟩
    rw [HIB.out]
    have D1 := Dr.trans D0 d1
    clear d1
    go_wp2
    go_ret
    exact ⟨by rw [sb_no (by rw [HIB.out]; rfl)]; rfl, Dr.below D1 _⟩
  have HIB := Lib.hid hHIB; clear hHIB
  cases hHIU : okM m && okBn m u
  · have HIU := Lib.hid hHIU; clear hHIU
    go_enter Try.func35, Try.ntmps35
    go_wp2_with fail
    refine (i_ValidBans (hm.dr D0) hlm (hs.dr D0) hls HG.out).mono ?_
    rintro e w1 ⟨rfl, d1⟩
    rw [HIB.out]
    have D1 := Dr.trans D0 d1
    clear d1
    go_wp2_with fail
    refine (i_ValidBans (hm.dr D1) hlm (hu.dr D1) hlu HGU.out).mono ?_
    rintro e w2 ⟨rfl, d2⟩
    rw [HIU.out]
    have D2 := Dr.trans D1 d2
    clear d2
    go_wp2
    go_ret
    refine ⟨?_, Dr.below D2 _⟩
    have hE := HIB.out
    rw [Bool.and_eq_true] at hE
    have hE2 := HIU.out
    rw [hE.1, Bool.true_and] at hE2
    rw [sb_no (by rw [hE2]; simp)]; rfl
  have HIU := Lib.hid hHIU; clear hHIU
  have hE := HIB.out
  rw [Bool.and_eq_true] at hE
  have hE2 := HIU.out
  rw [Bool.and_eq_true] at hE2
  have HOK := Lib.hid hE.1
  have HOB := Lib.hid hE.2
  have HOU := Lib.hid hE2.2
  clear hE hE2
  have hsl := okBn_len HOB.out
  have hul := okBn_len HOU.out
  have HR := Lib.hid (bn_rows HOB.out)
  have HRU := Lib.hid (bn_rows HOU.out)
  have hm5 := okM_len HOK.out
  have HSB : Hid (sbB m s u = decide (alL m s = alL m u)) := by show _ = _; rw [sb_yes HOK.out HOB.out HOU.out, sbF_al]
  go_enter Try.func35, Try.ntmps35
  go_wp2_with fail
  refine (i_ValidBans (hm.dr D0) hlm (hs.dr D0) hls HG.out).mono ?_
  rintro e w1 ⟨rfl, d1⟩
  rw [HIB.out]
  have D1 := Dr.trans D0 d1
  clear d1
  go_wp2_with fail
  refine (i_ValidBans (hm.dr D1) hlm (hu.dr D1) hlu HGU.out).mono ?_
  rintro e w2 ⟨rfl, d2⟩
  rw [HIU.out]
  have D2 := Dr.trans D1 d2
  clear d2
  have Z2 := Dr.le D2
  go_wp2_with fail
  refine (i_rulesOf m.length (hs.dr D2) (by omega) hsl (fun r hr => by have := HR.out r hr; omega)).mono ?_
  rintro e w3 ⟨v, rfl, ho3, hb3⟩
  have hz3 := hb3.size
  have hm3 := (hm.dr D2).below hb3 (by omega)
  have hu3 := (hu.dr D2).below hb3 (by omega)
  go_wp2_with fail
  refine (i_allowed hm3 (by omega) ho3 (Below.refl _ _) HOK.out HOB.out).mono ?_
  rintro e w4 ⟨v4, rfl, ho4, hb4⟩
  have hz4 := hb4.size
  have hm4 := hm3.below hb4 (by omega)
  go_wp2_with fail
  refine (i_rulesOf m.length (hu3.below hb4 (by omega)) (by omega) hul (fun r hr => by have := HRU.out r hr; omega)).mono ?_
  rintro e w5 ⟨v5, rfl, ho5, hb5⟩
  have hz5 := hb5.size
  go_wp2_with fail
  refine (i_allowed (hm4.below hb5 (by omega)) (by omega) ho5 (Below.refl _ _) HOK.out HOU.out).mono ?_
  rintro e w6 ⟨v6, rfl, ho6, hb6⟩
  have hz6 := hb6.size
  go_wp2_with fail
  refine (x_EqualP ho4 (hb5.trans (hb6.mono hz5)) ho6 (Below.refl _ _) (Nat.le_trans (alL_len2 HOK.out) (by omega)) (Nat.le_trans (alL_len2 HOK.out) (by omega)) (fun l hl => alL_row l hl) (fun l hl => alL_row l hl) hm5.2).mono ?_
  rintro e w7 ⟨rfl, d7⟩
  have hbF : Below w.heap.size w w7 := ((Dr.below D2 w.heap.size).trans ((hb3.trans ((hb4.trans ((hb5.trans (hb6.mono hz5)).mono hz4)).mono hz3)).mono (by omega))).trans (Dr.below d7 _)
  go_wp2
  go_ret
  exact ⟨by rw [HSB.out]; rfl, hbF⟩

set_option maxRecDepth 100000 in
set_option maxHeartbeats 2000000 in
theorem s_SameBans {m : List Int} {a : Option Addr} {c lo hi : Nat} {s : List (List Int)} {a1 : Option Addr} {c1 lo1 hi1 : Nat} {u : List (List Int)} {a2 : Option Addr} {c2 lo2 hi2 : Nat} {w : World} (hm : RI w lo hi a m) (hlm : m.length ≤ 9223372036854775807) (hs : RII w lo1 hi1 a1 s) (hls : s.length ≤ 9223372036854775807) (hg : ∀ r ∈ s, r.length ≤ 9223372036854775807) (hu : RII w lo2 hi2 a2 u) (hlu : u.length ≤ 9223372036854775807) (hgu : ∀ r ∈ u, r.length ≤ 9223372036854775807) (hB : hi ≤ w.heap.size) (hB1 : hi1 ≤ w.heap.size) (hB2 : hi2 ≤ w.heap.size) :
    Calls Try.prog 36 #[.slice a m.length c, .slice a1 s.length c1, .slice a2 u.length c2] w (NewV w (.bool (sbB m s u))) := by
  have HG := Lib.hid hg; have HGU := Lib.hid hgu; clear hg hgu
  have D0 : Dr w w := Dr.refl w
  cases hHOK : okM m
  · have HOK := Lib.hid hHOK; clear hHOK
    go_enter Try.func36, Try.ntmps36
    go_wp2_with fail
    refine (s_validModel (hm.dr D0) hlm).mono ?_
    rintro e w1 ⟨rfl, d1⟩
    rw [HOK.out]
    have D1 := Dr.trans D0 d1
    clear d1
    go_wp2
    go_ret
    exact ⟨by rw [sb_no (by rw [HOK.out]; rfl)]; rfl, Dr.below D1 _⟩
  have HOK := Lib.hid hHOK; clear hHOK
  cases hHOB : okBn m s
  · have HOB := Lib.hid hHOB; clear hHOB
    go_enter Try.func36, Try.ntmps36
    go_wp2_with fail
    refine (s_validModel (hm.dr D0) hlm).mono ?_
    rintro e w1 ⟨rfl, d1⟩
    rw [HOK.out]
    have D1 := Dr.trans D0 d1
    clear d1
    go_wp2_with fail
    refine (s_validBans (hm.dr D1) (hs.dr D1) HOK.out hls HG.out).mono ?_
    rintro e w2 ⟨rfl, d2⟩
    rw [HOB.out]
    have D2 := Dr.trans D1 d2
    clear d2
    go_wp2
    go_ret
    exact ⟨by rw [sb_no (by rw [HOK.out, HOB.out]; rfl)]; rfl, Dr.below D2 _⟩
  have HOB := Lib.hid hHOB; clear hHOB
  cases hHOU : okBn m u
  · have HOU := Lib.hid hHOU; clear hHOU
    go_enter Try.func36, Try.ntmps36
    go_wp2_with fail
    refine (s_validModel (hm.dr D0) hlm).mono ?_
    rintro e w1 ⟨rfl, d1⟩
    rw [HOK.out]
    have D1 := Dr.trans D0 d1
    clear d1
    go_wp2_with fail
    refine (s_validBans (hm.dr D1) (hs.dr D1) HOK.out hls HG.out).mono ?_
    rintro e w2 ⟨rfl, d2⟩
    rw [HOB.out]
    have D2 := Dr.trans D1 d2
    clear d2
    go_wp2_with fail
    refine (s_validBans (hm.dr D2) (hu.dr D2) HOK.out hlu HGU.out).mono ?_
    rintro e w3 ⟨rfl, d3⟩
    rw [HOU.out]
    have D3 := Dr.trans D2 d3
    clear d3
    go_wp2
    go_ret
    exact ⟨by rw [sb_no (by rw [HOU.out]; simp)]; rfl, Dr.below D3 _⟩
  have HOU := Lib.hid hHOU; clear hHOU
  have hsl := okBn_len HOB.out
  have hul := okBn_len HOU.out
  have HR := Lib.hid (bn_rows HOB.out)
  have HRU := Lib.hid (bn_rows HOU.out)
  have hm5 := okM_len HOK.out
  have HSB := Lib.hid (sb_yes HOK.out HOB.out HOU.out)
  have HRow := Lib.hid (ext_row (m := m))
  have HLN := Lib.hid (ext_len HOK.out)
  go_enter Try.func36, Try.ntmps36
  go_wp2_with fail
  refine (s_validModel (hm.dr D0) hlm).mono ?_
  rintro e w1 ⟨rfl, d1⟩
  rw [HOK.out]
  have D1 := Dr.trans D0 d1
  clear d1
  go_wp2_with fail
  refine (s_validBans (hm.dr D1) (hs.dr D1) HOK.out hls HG.out).mono ?_
  rintro e w2 ⟨rfl, d2⟩
  rw [HOB.out]
  have D2 := Dr.trans D1 d2
  clear d2
  go_wp2_with fail
  refine (s_validBans (hm.dr D2) (hu.dr D2) HOK.out hlu HGU.out).mono ?_
  rintro e w3 ⟨rfl, d3⟩
  rw [HOU.out]
  have D3 := Dr.trans D2 d3
  clear d3
  have Z3 := Dr.le D3
  have hbA := (Below.refl w3.heap.size w3).alloc (Nat.le_refl _) (.cells #[] 3)
  have hm3 := (hm.dr D3).below hbA (by omega)
  go_wp2_with fail
  refine (s_extend HOK.out m.length [] a ⟨w3.heap.size, 0, none⟩ c 0 lo hi 0 0 _ (by simp) hm3 (by simp; omega) (RI.nil _ _ _ _) (by simp)).mono ?_
  rintro e w4 ⟨ad4, c4, rfl, h4, hb4⟩
  have hb04 : Below w3.heap.size w3 w4 := hbA.trans (hb4.mono (by simp))
  have hz4 := hb04.size
  have hall : RII w4 w3.heap.size w4.heap.size (some ad4) (extS m []) := h4.rii.wide (by simp) (Nat.le_refl _)
  have hs4 := (hs.dr D3).below hb04 (by omega)
  have hu4 := (hu.dr D3).below hb04 (by omega)
  have hbW : Below w.heap.size w w4 := (Dr.below D3 w.heap.size).trans (hb04.mono (by omega))
  obtain ⟨ps, hps⟩ : ∃ ps, extS m [] = ps := ⟨_, rfl⟩
  have HSF : Hid (sbF m s u = ps.all fun x => (!bnB s x) == (!bnB u x)) := by show _ = _; rw [← hps]; rfl
  rw [hps] at hall HRow HLN ⊢
  have hpl := HLN.out
  clear hps h4 hb4 hbA hm3 hb04 hm hs hu
  go_wp2
  go_loopw [8] (fun i wr => ∃ k : Nat, k ≤ ps.length ∧ i = .int .i64 k ∧ Dr w4 wr ∧ Hid ((ps.take k).all (fun x => (!bnB s x) == (!bnB u x)) = true)) (fun i _ => ps.length - (intOf i).toNat)
  case atStart => exact ⟨0, Nat.zero_le _, rfl, Dr.refl _, by simp [Hid]⟩
  case round =>
    obtain ⟨k, hk, rfl, hd, hA⟩ := hrel
    by_cases hlt : k < ps.length
    · obtain ⟨b, o, a5, c5, x, ha, _, _, hcell, hx, hxx⟩ := (hall.dr hd).at hlt
      have hidx := idxII ha hlt c4
      have hxl := HRow.out x (List.mem_of_getElem? hxx.out)
      have hsr := hs4.dr hd
      have hur := hu4.dr hd
      have H5 : Hid (∀ q ∈ s, q.length ≤ x.length) := fun q hq => by rw [hxl, HR.out q hq]; exact Nat.le_refl _
      have H5u : Hid (∀ q ∈ u, q.length ≤ x.length) := fun q hq => by rw [hxl, HRU.out q hq]; exact Nat.le_refl _
      have hx5 : x.length ≤ 5 := by omega
      clear ha hall hs4 hu4 hxl
      obtain ⟨p, hp⟩ : ∃ p, (!bnB s x) = p := ⟨_, rfl⟩
      obtain ⟨q, hq⟩ : ∃ q, (!bnB u x) = q := ⟨_, rfl⟩
      have HC1 : Hid (∀ n, Calls Try.prog 104 #[.slice a1 s.length c1, .slice a5 x.length c5] (wr.drewN n) (RO (wr.drewN n) (.bool p))) := fun n => by
        rw [← hp]; exact s_allowed (hsr.dr ((Dr.refl wr).drewN n)) (hx.drewN n) (by omega) H5.out (by omega)
      have HC2 : Hid (∀ n, Calls Try.prog 104 #[.slice a2 u.length c2, .slice a5 x.length c5] (wr.drewN n) (RO (wr.drewN n) (.bool q))) := fun n => by
        rw [← hq]; exact s_allowed (hur.dr ((Dr.refl wr).drewN n)) (hx.drewN n) (by omega) H5u.out (by omega)
      have HP := Lib.hid hp; have HQ := Lib.hid hq
      clear hp hq hsr hur
      cases p
      · cases q
        · have HA : Hid ((ps.take (k + 1)).all (fun x => (!bnB s x) == (!bnB u x)) = true) := all_snoc hxx.out hA.out (by rw [HP.out, HQ.out]; rfl)
          go_wp2_with fail
          go_quiet ((first | (go_at_call 104; with_reducible exact RO.quiet (HC1.out _)) | (go_at_call 104; with_reducible exact RO.quiet (HC2.out _))))
          go_wp2
          go_roundw
          case rel => exact ⟨k + 1, by omega, by go_num, hd.drewN _, HA⟩
          case measure => simp [intOf]; omega
        · have HF : Hid (sbB m s u = false) := by
            show _ = _
            rw [HSB.out, HSF.out]
            exact all_fails hxx.out (by rw [HP.out, HQ.out]; rfl)
          go_wp2_with fail
          go_quiet ((first | (go_at_call 104; with_reducible exact RO.quiet (HC1.out _)) | (go_at_call 104; with_reducible exact RO.quiet (HC2.out _))))
          go_wp2
          go_ret
          exact ⟨by rw [HF.out]; rfl, hbW.trans (Dr.below (hd.drewN _) _)⟩
      · cases q
        · have HF : Hid (sbB m s u = false) := by
            show _ = _
            rw [HSB.out, HSF.out]
            exact all_fails hxx.out (by rw [HP.out, HQ.out]; rfl)
          go_wp2_with fail
          go_quiet ((first | (go_at_call 104; with_reducible exact RO.quiet (HC1.out _)) | (go_at_call 104; with_reducible exact RO.quiet (HC2.out _))))
          go_wp2
          go_ret
          exact ⟨by rw [HF.out]; rfl, hbW.trans (Dr.below (hd.drewN _) _)⟩
        · have HA : Hid ((ps.take (k + 1)).all (fun x => (!bnB s x) == (!bnB u x)) = true) := all_snoc hxx.out hA.out (by rw [HP.out, HQ.out]; rfl)
          go_wp2_with fail
          go_quiet ((first | (go_at_call 104; with_reducible exact RO.quiet (HC1.out _)) | (go_at_call 104; with_reducible exact RO.quiet (HC2.out _))))
          go_wp2
          go_roundw
          case rel => exact ⟨k + 1, by omega, by go_num, hd.drewN _, HA⟩
          case measure => simp [intOf]; omega
    · have HT : Hid (sbB m s u = true) := by
        show _ = _
        rw [HSB.out, HSF.out, ← List.take_of_length_le (show ps.length ≤ k by omega)]; exact hA.out
      go_wp2
      go_ret
      exact ⟨by rw [HT.out]; rfl, hbW.trans (Dr.below hd _)⟩

/- The draw of SameBans. -/
open Go.RowKit

/-- what the law on equal bans draws -/
def DrJ (w : World) (e : Ending) (w' : World) : Prop := ∃ (a1 : Option Addr) (c1 : Nat) (m : List Int) (a2 : Option Addr) (c2 : Nat) (s : List (List Int)) (a3 : Option Addr) (c3 : Nat) (u : List (List Int)), e = .returned (.tuple #[.slice a1 m.length c1, .slice a2 s.length c2, .slice a3 u.length c3]) ∧ (Got w w' 10 a1 c1 m ∧ GotS w w' 12 a2 c2 s ∧ RII w' w.heap.size w'.heap.size a3 u ∧ u.length ≤ 8192 ∧ ∀ r ∈ u, r.length ≤ 12) ∧ Below w.heap.size w w'

set_option maxRecDepth 100000 in
set_option maxHeartbeats 8000000 in
theorem s_DrawSameBans {n : Nat} {a : Option Addr} {c : Nat} {w : World} (hm : RB w w.heap.size a n) (hc : n ≤ c) (hl : n ≤ 1048576) :
    Calls Try.prog 34 #[.slice a n c] w (DrJ w) := by
  go_enter Try.func34, Try.ntmps34
  go_wp2_with fail
  refine (s_newReader hm hc hl).mono ?_
  rintro e w1 ⟨rfl, hr1, hb1⟩
  have hlt := hr1.lt
  go_wp2_with fail
  refine (s_goodModel hr1 (by omega)).mono ?_
  rintro e w2 ⟨a2, c2, m2, rfl, ho2, hL2, hr2, hU2⟩
  go_wp2_with fail
  refine (s_bentModel hr2 (by omega) ho2 rfl hL2 (by omega) hlt hU2.size).mono ?_
  rintro e w3 ⟨a3, c3, m3, rfl, ho3, hL3, hr3, hU3⟩
  have hU := hU2.trans hU3
  have hcap := ho3.cap.2
  have hs3 := hU.size
  have hl10 := hL3.1
  have HOWN : Hid (∀ g, Value.ownBlock (.slice a3 m3.length c3) = some g → g < w3.heap.size) := fun g hg => (World.ownsRow.lt ho3 g hg).2
  clear ho2 hL2 hr2 hU2 hU3 hr1
  go_wp2_with fail
  refine (s_someBansO hr3 ho3 rfl hlt hs3 hL3 (by omega) (by omega)).mono ?_
  rintro e w4 ⟨a4, c4, s, rfl, ho4, hS4, hr4, hm4, hU4, _⟩
  have hs4 := hU4.size
  have hsl := hS4.1
  have HSG : Hid (∀ r ∈ s, r.length ≤ 9223372036854775807) := fun r h => by have := (hS4.2 r h).1; omega
  have HS4 := Lib.hid hS4
  have HL3 := Lib.hid hL3
  obtain ⟨a5, c5, e5, hR4⟩ := ho4.riic
  cases e5
  have hU4 := hU.trans hU4
  obtain ⟨a3', c3', e3, hoi4⟩ := hm4.slice
  cases e3
  have hri4 := hoi4.ri
  clear ho3 hr3 hU ho4 hS4 hL3 hoi4
  go_wp2_with fail
  refine (s_validModel hri4 (by omega)).mono ?_
  rintro e w6 ⟨rfl, d6⟩
  have d6 : Dr w4 w6 := d6
  have b6 := Dr.below d6 w4.heap.size
  have hs6 := Dr.le d6
  have hm6 := hm4.below b6
  have hri6 := hri4.below b6 (by omega)
  have hR6 := hR4.below b6 (by omega)
  have hr6 := hr4.below b6 hr4.lt
  have hU6 := hU4.below b6 (by omega)
  clear hm4 hri4 hR4 hr4 hU4 b6 d6
  cases hOK : okM m3
  · skip
    go_wp2_with fail
    refine (s_someBansO hr6 hm6 rfl hlt (by omega) HL3.out (by omega) (by omega)).mono ?_
    rintro e w20 ⟨a20, c20, u, rfl, ho20, hS20, hr20, hm20, hU20, hk20⟩
    have hs20 := hU20.size
    obtain ⟨_, _, e20, hRu⟩ := ho20.riic
    cases e20
    obtain ⟨_, _, e21, hoi20⟩ := hm20.slice
    cases e21
    have hri20 := hoi20.ri
    have hR20 : RIIc w20 w3.heap.size w4.heap.size a4 c4 s := ⟨hR6.rii.same fun k h1 h2 => hk20 k (by omega) (by omega) (fun e => by have := HOWN.out k e; omega), hR6.cap⟩
    have hUU20 := hU6.trans hU20
    have hu24 := hS20.1
    have HU20 : Hid (∀ r ∈ u, r.length ≤ 12) := fun r hr => by have := (hS20.2 r hr).1; omega
    clear hr6 hm6 hR6 hU6 hU20 hk20 ho20 hri6 hS20 hm20 hoi20
    go_wp2
    go_ret3
    exact ⟨_, _, m3, _, _, s, _, _, u, rfl, ⟨⟨hri20.wide (by omega) (by omega), HL3.out, hcap⟩, ⟨hR20.wide (by omega) (by omega), HS4.out⟩, hRu.rii.wide (by omega) (by omega), by omega, HU20.out⟩, hb1.trans (hUU20.toBelow (by omega) (by omega))⟩
  have HOK := Lib.hid hOK; clear hOK
  go_wp2_with fail
  refine (s_validBans hri6 hR6.rii HOK.out (by omega) HSG.out).mono ?_
  rintro e w7 ⟨rfl, d7⟩
  have d7 : Dr w6 w7 := d7
  have b7 := Dr.below d7 w6.heap.size
  have hs7 := Dr.le d7
  have hm7 := hm6.below b7
  have hri7 := hri6.below b7 (by omega)
  have hR7 := hR6.below b7 (by omega)
  have hr7 := hr6.below b7 hr6.lt
  have hU7 := hU6.below b7 (by omega)
  clear hm6 hri6 hR6 hr6 hU6 b7 d7
  cases hOB : okBn m3 s
  · skip
    go_wp2_with fail
    refine (s_someBansO hr7 hm7 rfl hlt (by omega) HL3.out (by omega) (by omega)).mono ?_
    rintro e w20 ⟨a20, c20, u, rfl, ho20, hS20, hr20, hm20, hU20, hk20⟩
    have hs20 := hU20.size
    obtain ⟨_, _, e20, hRu⟩ := ho20.riic
    cases e20
    obtain ⟨_, _, e21, hoi20⟩ := hm20.slice
    cases e21
    have hri20 := hoi20.ri
    have hR20 : RIIc w20 w3.heap.size w4.heap.size a4 c4 s := ⟨hR7.rii.same fun k h1 h2 => hk20 k (by omega) (by omega) (fun e => by have := HOWN.out k e; omega), hR7.cap⟩
    have hUU20 := hU7.trans hU20
    have hu24 := hS20.1
    have HU20 : Hid (∀ r ∈ u, r.length ≤ 12) := fun r hr => by have := (hS20.2 r hr).1; omega
    clear hr7 hm7 hR7 hU7 hU20 hk20 ho20 hri7 hS20 hm20 hoi20
    go_wp2
    go_ret3
    exact ⟨_, _, m3, _, _, s, _, _, u, rfl, ⟨⟨hri20.wide (by omega) (by omega), HL3.out, hcap⟩, ⟨hR20.wide (by omega) (by omega), HS4.out⟩, hRu.rii.wide (by omega) (by omega), by omega, HU20.out⟩, hb1.trans (hUU20.toBelow (by omega) (by omega))⟩
  have HOB := Lib.hid hOB; clear hOB
  go_wp2_with fail
  refine (s_pick hr7 (by omega) (by omega) (by omega)).mono ?_
  rintro e w9 ⟨v, rfl, hv, hr9, hu9⟩
  have hs9 := hu9.size
  have hm9 := hm7.upd hu9 hlt
  have hri9 := hri7.upd hu9 (by omega) (.inr (by omega))
  have hR9 := hR7.upd hu9 (by omega) (.inr (by omega))
  have hU9 := hU7.upd hu9
  clear hm7 hri7 hR7 hr7 hU7 hu9 hv
  by_cases e0 : v = 0
  case neg =>
    have hvne : (v == 0) = false := by rw [beq_eq_false_iff_ne]; exact e0
    go_wp2_with fail
    refine (s_someBansO hr9 hm9 rfl hlt (by omega) HL3.out (by omega) (by omega)).mono ?_
    rintro e w20 ⟨a20, c20, u, rfl, ho20, hS20, hr20, hm20, hU20, hk20⟩
    have hs20 := hU20.size
    obtain ⟨_, _, e20, hRu⟩ := ho20.riic
    cases e20
    obtain ⟨_, _, e21, hoi20⟩ := hm20.slice
    cases e21
    have hri20 := hoi20.ri
    have hR20 : RIIc w20 w3.heap.size w4.heap.size a4 c4 s := ⟨hR9.rii.same fun k h1 h2 => hk20 k (by omega) (by omega) (fun e => by have := HOWN.out k e; omega), hR9.cap⟩
    have hUU20 := hU9.trans hU20
    have hu24 := hS20.1
    have HU20 : Hid (∀ r ∈ u, r.length ≤ 12) := fun r hr => by have := (hS20.2 r hr).1; omega
    clear hr9 hm9 hR9 hU9 hU20 hk20 ho20 hri9 hS20 hm20 hoi20
    go_wp2
    go_ret3
    exact ⟨_, _, m3, _, _, s, _, _, u, rfl, ⟨⟨hri20.wide (by omega) (by omega), HL3.out, hcap⟩, ⟨hR20.wide (by omega) (by omega), HS4.out⟩, hRu.rii.wide (by omega) (by omega), by omega, HU20.out⟩, hb1.trans (hUU20.toBelow (by omega) (by omega))⟩
  subst e0
  have hmm5 := okM_len HOK.out
  have HROW : Hid (∀ r ∈ s, r.length = m3.length) := fun r hr => okW_len (okBn_all HOB.out hr)
  go_wp2_with fail
  refine (s_leastBans HOK.out hri9 (by omega) hR9.rii (by omega) (by omega) HROW.out).mono ?_
  rintro e w10 ⟨aG, cG, rfl, G, b10⟩
  have hs10 := b10.size
  have hm10 := hm9.below b10
  have hri10 := hri9.below b10 (by omega)
  have hR10 := hR9.below b10 (by omega)
  have hr10 := hr9.below b10 hr9.lt
  have hU10 := hU9.below b10 (by omega)
  clear hm9 hri9 hR9 hr9 hU9 b10
  have hlk := lbK_len (b := s) HOK.out (m3.length + 1)
  have hlk2 : (lbK m3 s (m3.length + 1)).length ≤ 6144 := by omega
  clear hlk
  have HMR : Hid (∀ r ∈ lbK m3 s (m3.length + 1), r.length ≤ 12) := fun r hr => by have := lbK_row r hr; omega
  obtain ⟨mm, hmm⟩ : ∃ x, lbK m3 s (m3.length + 1) = x := ⟨_, rfl⟩
  rw [hmm] at G hlk2 HMR ⊢
  clear hmm
  by_cases hnp : (0 : Int) < (mm.length : Int)
  case neg =>
    go_wp2
    go_ret3
    exact ⟨_, _, m3, _, _, s, _, _, mm, rfl, ⟨⟨hri10.wide (by omega) (by omega), HL3.out, hcap⟩, ⟨hR10.wide (by omega) (by omega), HS4.out⟩, G.rii.wide (by omega) (by omega), by omega, HMR.out⟩, hb1.trans (hU10.toBelow (by omega) (by omega))⟩
  go_wp2_with fail
  refine (s_pick hr10 (by omega) (by omega) (by omega)).mono ?_
  rintro e w14 ⟨v2, rfl, hv, hr14, hu14⟩
  have G14 := G.upd hu14 (by omega) (.inr (by omega))
  have hs14 := hu14.size
  have hm14 := hm10.upd hu14 hlt
  have hri14 := hri10.upd hu14 (by omega) (.inr (by omega))
  have hR14 := hR10.upd hu14 (by omega) (.inr (by omega))
  have hU14 := hU10.upd hu14
  clear hm10 hri10 hR10 hr10 hU10 hu14 hv G
  by_cases e0 : v2 = 0
  case neg =>
    have hvne : (v2 == 0) = false := by rw [beq_eq_false_iff_ne]; exact e0
    go_wp2
    go_ret3
    exact ⟨_, _, m3, _, _, s, _, _, mm, rfl, ⟨⟨hri14.wide (by omega) (by omega), HL3.out, hcap⟩, ⟨hR14.wide (by omega) (by omega), HS4.out⟩, G14.rii.wide (by omega) (by omega), by omega, HMR.out⟩, hb1.trans (hU14.toBelow (by omega) (by omega))⟩
  subst e0
  have hl1 : 0 < mm.length := by omega
  obtain ⟨b5, o5, a5, c5, r5, ha5, _, hb5, _⟩ := G14.rii.at hl1
  subst ha5
  have gcap := G14.cap
  obtain ⟨o', ho', hfrom⟩ := sliceFromII (b := b5) (o := o5) (n := mm.length) (c := cG) (k := 1) (z := 1) rfl (by omega) gcap
  have G15 := G14.rii.dropR ho'
  have HDL : Hid (mm.length - 1 = (mm.drop 1).length) := by show _ = _; simp
  have hdl8 : (mm.drop 1).length ≤ 8192 := by simp; omega
  have HMD : Hid (∀ r ∈ mm.drop 1, r.length ≤ 12) := fun r hr => HMR.out r (List.mem_of_mem_drop hr)
  clear ho' G14
  go_wp2
  go_ret3
  rw [HDL.out]
  exact ⟨_, _, m3, _, _, s, _, _, mm.drop 1, rfl, ⟨⟨hri14.wide (by omega) (by omega), HL3.out, hcap⟩, ⟨hR14.wide (by omega) (by omega), HS4.out⟩, G15.wide (by omega) (by omega), hdl8, HMD.out⟩, hb1.trans (hU14.toBelow (by omega) (by omega))⟩

end Go.Proofs.Ytekkhadlchfjnaa
