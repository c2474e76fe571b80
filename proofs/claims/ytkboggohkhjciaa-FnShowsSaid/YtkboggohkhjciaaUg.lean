/- Walks: UnseenOf, AllLists, IsOrdering, Shows of the model; Shows of the program. -/
import Derived.Test.YtkboggohkhjciaaUf
namespace Go.Proofs.Ytkboggohkhjciaa
open Go Go.RowKit

set_option maxRecDepth 100000 in
set_option maxHeartbeats 2000000 in
theorem s_UnseenOf {n : Int} {m : List (List Int)} {t : Int} {a : Option Addr} {c lo hi' : Nat} {w : World} (h0 : -9223372036854775808 ≤ n) (h1 : n ≤ 9223372036854775807) (hm : RII w lo hi' a m) (hl : m.length ≤ 9223372036854775807) (hg : ∀ r ∈ m, r.length ≤ 9223372036854775807) (_ht0 : -9223372036854775808 ≤ t) (_ht1 : t ≤ 9223372036854775807) (hB : hi' ≤ w.heap.size) :
    Calls Try.prog 27 #[.int .i64 n, .slice a m.length c, .int .i64 t] w (NewII w (uoL n m t)) := by
  have HG := Lib.hid hg; clear hg
  cases hv : okRs n m
  · have HV := Lib.hid hv; clear hv
    have HNO : Hid (uoL n m t = []) := uo_no (by unfold uoG; rw [HV.out]; rfl)
    go_enter Try.func27, Try.ntmps27
    go_wp2_with fail
    refine (s_validRuns h0 h1 hm hl HG.out).mono ?_
    rintro e w1 ⟨rfl, d1⟩
    rw [HV.out]
    go_wp2
    go_ret
    rw [HNO.out]
    exact ⟨none, 0, rfl, ⟨OII.nil _ _ _ _, by simp⟩, Dr.below d1 _⟩
  have HV := Lib.hid hv; clear hv
  cases htt : inR t 0 n
  · have HT := Lib.hid htt; clear htt
    have HNO : Hid (uoL n m t = []) := uo_no (by unfold uoG; rw [HT.out, Bool.and_false])
    go_enter Try.func27, Try.ntmps27
    go_wp2_with fail
    refine (s_validRuns h0 h1 hm hl HG.out).mono ?_
    rintro e w1 ⟨rfl, d1⟩
    rw [HV.out]
    have d1 : Dr w w1 := d1
    go_wp2_with fail
    refine (s_inRange t 0 n w1).mono ?_
    rintro e w2 ⟨rfl, d2⟩
    rw [HT.out]
    have d2 : Dr w1 w2 := d2
    go_wp2
    go_ret
    rw [HNO.out]
    exact ⟨none, 0, rfl, ⟨OII.nil _ _ _ _, by simp⟩, Dr.below (Dr.trans d1 d2) _⟩
  have hU : uoG n m t = true := by unfold uoG; rw [HV.out, htt]; rfl
  have hb := uoG_m hU
  have hn : 1 ≤ n ∧ n ≤ 5 ∧ 0 ≤ t ∧ t ≤ n := hb.2
  have HT := Lib.hid htt
  have HY := Lib.hid (uo_yes hU)
  clear htt hU hb
  obtain ⟨N, rfl⟩ := Int.eq_ofNat_of_zero_le (show 0 ≤ n by omega)
  obtain ⟨q, rfl⟩ := Int.eq_ofNat_of_zero_le (show 0 ≤ t by omega)
  have HYES : Hid (uoL (N : Int) m (q : Int) = unA m (alE N q)) := by show _ = _; rw [HY.out]; rfl
  have hml := (okRs_m HV.out).2.2.1
  have HROW : Hid (∀ r ∈ m, r.length ≤ 1048576) := fun r hr => by have := (okRs_row HV.out hr).1; omega
  have HAL := Lib.hid (alE_len (n := N) (t := q) (by omega) (by omega))
  have HAR : Hid (∀ l ∈ alE N q, l.length ≤ 1048576) := fun l hl => by have := alE_row hl; omega
  go_enter Try.func27, Try.ntmps27
  go_wp2_with fail
  refine (s_validRuns h0 h1 hm hl HG.out).mono ?_
  rintro e w1 ⟨rfl, d1⟩
  rw [HV.out]
  have d1 : Dr w w1 := d1
  go_wp2_with fail
  refine (s_inRange (q : Int) 0 (N : Int) w1).mono ?_
  rintro e w2 ⟨rfl, d2⟩
  rw [HT.out]
  have d2 : Dr w1 w2 := d2
  have D2 := Dr.trans d1 d2
  have Z2 := Dr.le D2
  have hm2 := hm.dr D2
  have hbA := (Below.refl w2.heap.size w2).alloc (Nat.le_refl _) (.cells #[] 3)
  have hm3 := hm2.below hbA (by omega)
  clear hm d1 d2
  go_wp2_with fail
  refine (s_lists (n := N) (t := q) (by omega) (by omega) q [] ⟨w2.heap.size, 0, none⟩ 0 0 0 _ (by simp) (RI.nil _ _ _ _) (by simp)).mono ?_
  rintro e w3 ⟨ad3, c3, rfl, h3, b3⟩
  have hb23 := hbA.trans (b3.mono (by simp))
  have z3 := b3.size
  simp at z3
  have h3' : OIIc w3 w2.heap.size w3.heap.size (some ad3) c3 (alE N q) := ⟨h3.oii.wide (by simp) (Nat.le_refl _), h3.cap⟩
  have hm4 := hm2.below hb23 (by omega)
  have HEE : Hid (lsN N q [[]] = alE N q) := rfl
  rw [HEE.out]
  obtain ⟨all, hall⟩ : ∃ all, alE N q = all := ⟨_, rfl⟩
  rw [hall] at h3' HAL HAR HYES ⊢
  have hal := HAL.out
  clear hall h3 b3 hbA hm2 hm3 HEE
  go_wp2_with fail
  refine (s_unseen hm4 (by omega) h3' (Nat.le_refl _) (by omega) (by omega) (by omega) HROW.out HAR.out).mono ?_
  rintro e w4 ⟨a4, c4, rfl, h4, b4⟩
  have hbb := (Dr.below D2 w.heap.size).trans ((hb23.trans (b4.mono (by omega))).mono (by omega))
  go_wp2
  go_ret
  rw [HYES.out]
  exact ⟨_, _, rfl, ⟨h4.oii.wide (by omega) (Nat.le_refl _), h4.cap⟩, hbb⟩

set_option maxRecDepth 100000 in
set_option maxHeartbeats 1000000 in
theorem s_AllLists {n t : Int} {w : World} (h0 : -9223372036854775808 ≤ n) (h1 : n ≤ 9223372036854775807) (_ht0 : -9223372036854775808 ≤ t) (_ht1 : t ≤ 9223372036854775807) :
    Calls Try.prog 18 #[.int .i64 n, .int .i64 t] w (NewII w (uoL n [] t)) := by
  cases hv : inR n 1 5
  · have HV := Lib.hid hv; clear hv
    have HNO : Hid (uoL n [] t = []) := uo_no (by unfold uoG okRs; rw [HV.out]; rfl)
    go_enter Try.func18, Try.ntmps18
    go_wp2_with fail
    refine (s_inRange n 1 5 w).mono ?_
    rintro e w1 ⟨rfl, d1⟩
    rw [HV.out]
    go_wp2
    go_ret
    rw [HNO.out]
    exact ⟨none, 0, rfl, ⟨OII.nil _ _ _ _, by simp⟩, Dr.below d1 _⟩
  have hn := inR_true.1 hv
  have HV := Lib.hid hv; clear hv
  cases htt : inR t 0 n
  · have HT := Lib.hid htt; clear htt
    have HNO : Hid (uoL n [] t = []) := uo_no (by unfold uoG; rw [HT.out, Bool.and_false])
    go_enter Try.func18, Try.ntmps18
    go_wp2_with fail
    refine (s_inRange n 1 5 w).mono ?_
    rintro e w1 ⟨rfl, d1⟩
    rw [HV.out]
    have d1 : Dr w w1 := d1
    go_wp2_with fail
    refine (s_inRange t 0 n w1).mono ?_
    rintro e w2 ⟨rfl, d2⟩
    rw [HT.out]
    have d2 : Dr w1 w2 := d2
    go_wp2
    go_ret
    rw [HNO.out]
    exact ⟨none, 0, rfl, ⟨OII.nil _ _ _ _, by simp⟩, Dr.below (Dr.trans d1 d2) _⟩
  have hU : uoG n [] t = true := by unfold uoG okRs; rw [HV.out, htt]; rfl
  have ht := inR_true.1 htt
  have HT := Lib.hid htt
  have HY := Lib.hid (uo_yes hU)
  clear htt hU
  obtain ⟨N, rfl⟩ := Int.eq_ofNat_of_zero_le (show 0 ≤ n by omega)
  obtain ⟨q, rfl⟩ := Int.eq_ofNat_of_zero_le (show 0 ≤ t by omega)
  have HYES : Hid (uoL (N : Int) [] (q : Int) = lsN N q [[]]) := by show _ = _; rw [HY.out, unA_nil]; rfl
  go_enter Try.func18, Try.ntmps18
  go_wp2_with fail
  refine (s_inRange (N : Int) 1 5 w).mono ?_
  rintro e w1 ⟨rfl, d1⟩
  rw [HV.out]
  have d1 : Dr w w1 := d1
  go_wp2_with fail
  refine (s_inRange (q : Int) 0 (N : Int) w1).mono ?_
  rintro e w2 ⟨rfl, d2⟩
  rw [HT.out]
  have d2 : Dr w1 w2 := d2
  have D2 := Dr.trans d1 d2
  have Z2 := Dr.le D2
  have hbA := (Below.refl w2.heap.size w2).alloc (Nat.le_refl _) (.cells #[] 3)
  clear d1 d2
  go_wp2_with fail
  refine (s_lists (n := N) (t := q) (by omega) (by omega) q [] ⟨w2.heap.size, 0, none⟩ 0 0 0 _ (by simp) (RI.nil _ _ _ _) (by simp)).mono ?_
  rintro e w3 ⟨ad3, c3, rfl, h3, b3⟩
  have hb23 := hbA.trans (b3.mono (by simp))
  have hbb := (Dr.below D2 w.heap.size).trans (hb23.mono (by omega))
  go_wp2
  go_ret
  rw [HYES.out]
  exact ⟨_, _, rfl, ⟨h3.oii.wide (by simp; omega) (Nat.le_refl _), h3.cap⟩, hbb⟩

set_option maxRecDepth 100000 in
set_option maxHeartbeats 2000000 in
theorem s_IsOrdering {n : Int} {m : List (List Int)} {t : Int} {a : Option Addr} {c lo hi' : Nat} {w : World} (h0 : -9223372036854775808 ≤ n) (h1 : n ≤ 9223372036854775807) (hm : RII w lo hi' a m) (hl : m.length ≤ 9223372036854775807) (hg : ∀ r ∈ m, r.length ≤ 9223372036854775807) (_ht0 : -9223372036854775808 ≤ t) (_ht1 : t ≤ 9223372036854775807) (hB : hi' ≤ w.heap.size) :
    Calls Try.prog 31 #[.int .i64 n, .slice a m.length c, .int .i64 t] w (NewW w (.bool (ioB n m t))) := by
  have HG := Lib.hid hg; clear hg
  cases hv : okRs n m
  · have HV := Lib.hid hv; clear hv
    have HNO : Hid (ioB n m t = false) := by show _ = _; unfold ioB uoG; rw [HV.out]; rfl
    go_enter Try.func31, Try.ntmps31
    go_wp2_with fail
    refine (s_validRuns h0 h1 hm hl HG.out).mono ?_
    rintro e w1 ⟨rfl, d1⟩
    rw [HV.out]
    go_wp2
    go_ret
    rw [HNO.out]
    exact ⟨rfl, Dr.below d1 _⟩
  have HV := Lib.hid hv; clear hv
  cases htt : inR t 0 n
  · have HT := Lib.hid htt; clear htt
    have HNO : Hid (ioB n m t = false) := by show _ = _; unfold ioB uoG; rw [HT.out, Bool.and_false]; rfl
    go_enter Try.func31, Try.ntmps31
    go_wp2_with fail
    refine (s_validRuns h0 h1 hm hl HG.out).mono ?_
    rintro e w1 ⟨rfl, d1⟩
    rw [HV.out]
    have d1 : Dr w w1 := d1
    go_wp2_with fail
    refine (s_inRange t 0 n w1).mono ?_
    rintro e w2 ⟨rfl, d2⟩
    rw [HT.out]
    have d2 : Dr w1 w2 := d2
    go_wp2
    go_ret
    rw [HNO.out]
    exact ⟨rfl, Dr.below (Dr.trans d1 d2) _⟩
  have hU : uoG n m t = true := by unfold uoG; rw [HV.out, htt]; rfl
  have hb := uoG_m hU
  have hn : 1 ≤ n ∧ n ≤ 5 ∧ 0 ≤ t ∧ t ≤ n := hb.2
  have HT := Lib.hid htt
  have HY := Lib.hid (uo_yes hU)
  have HIO : Hid (ioB n m t = decide ((uoL n m t).length = 0)) := by show _ = _; unfold ioB; rw [hU, Bool.true_and]
  clear htt hU hb
  obtain ⟨N, rfl⟩ := Int.eq_ofNat_of_zero_le (show 0 ≤ n by omega)
  obtain ⟨q, rfl⟩ := Int.eq_ofNat_of_zero_le (show 0 ≤ t by omega)
  have HYES : Hid (uoL (N : Int) m (q : Int) = unA m (alE N q)) := by show _ = _; rw [HY.out]; rfl
  have hml := (okRs_m HV.out).2.2.1
  have HROW : Hid (∀ r ∈ m, r.length ≤ 1048576) := fun r hr => by have := (okRs_row HV.out hr).1; omega
  have HAL := Lib.hid (alE_len (n := N) (t := q) (by omega) (by omega))
  have HAR : Hid (∀ l ∈ alE N q, l.length ≤ 1048576) := fun l hl => by have := alE_row hl; omega
  go_enter Try.func31, Try.ntmps31
  go_wp2_with fail
  refine (s_validRuns h0 h1 hm hl HG.out).mono ?_
  rintro e w1 ⟨rfl, d1⟩
  rw [HV.out]
  have d1 : Dr w w1 := d1
  go_wp2_with fail
  refine (s_inRange (q : Int) 0 (N : Int) w1).mono ?_
  rintro e w2 ⟨rfl, d2⟩
  rw [HT.out]
  have d2 : Dr w1 w2 := d2
  have D2 := Dr.trans d1 d2
  have Z2 := Dr.le D2
  have hm2 := hm.dr D2
  have hbA := (Below.refl w2.heap.size w2).alloc (Nat.le_refl _) (.cells #[] 3)
  have hm3 := hm2.below hbA (by omega)
  clear hm d1 d2
  go_wp2_with fail
  refine (s_lists (n := N) (t := q) (by omega) (by omega) q [] ⟨w2.heap.size, 0, none⟩ 0 0 0 _ (by simp) (RI.nil _ _ _ _) (by simp)).mono ?_
  rintro e w3 ⟨ad3, c3, rfl, h3, b3⟩
  have hb23 := hbA.trans (b3.mono (by simp))
  have z3 := b3.size
  simp at z3
  have h3' : OIIc w3 w2.heap.size w3.heap.size (some ad3) c3 (alE N q) := ⟨h3.oii.wide (by simp) (Nat.le_refl _), h3.cap⟩
  have hm4 := hm2.below hb23 (by omega)
  have HEE : Hid (lsN N q [[]] = alE N q) := rfl
  rw [HEE.out]
  obtain ⟨all, hall⟩ : ∃ all, alE N q = all := ⟨_, rfl⟩
  rw [hall] at h3' HAL HAR HYES ⊢
  have hal := HAL.out
  clear hall h3 b3 hbA hm2 hm3 HEE
  go_wp2_with fail
  refine (s_unseen hm4 (by omega) h3' (Nat.le_refl _) (by omega) (by omega) (by omega) HROW.out HAR.out).mono ?_
  rintro e w4 ⟨a4, c4, rfl, h4, b4⟩
  have hbb := (Dr.below D2 w.heap.size).trans ((hb23.trans (b4.mono (by omega))).mono (by omega))
  have hul := unA_len m all
  rw [HYES.out] at HIO
  obtain ⟨U, hU⟩ : ∃ U, unA m all = U := ⟨_, rfl⟩
  rw [hU] at HIO hul ⊢
  clear hU h4 b4
  go_wp2
  go_ret
  refine ⟨?_, hbb⟩
  rw [HIO.out]
  refine congrArg (fun z : Bool => Ending.returned (Value.bool z)) ?_
  rw [Bool.eq_iff_iff]; simp

set_option maxRecDepth 100000 in
set_option maxHeartbeats 2000000 in
theorem s_Shows {n : Int} {run l : List Int} {a a' : Option Addr} {c c' lo hi lo' hi' : Nat} {w : World} (_h0 : -9223372036854775808 ≤ n) (_h1 : n ≤ 9223372036854775807) (hm : RI w lo hi a run) (hlm : run.length ≤ 9223372036854775807) (hl : RI w lo' hi' a' l) (hll : l.length ≤ 9223372036854775807) :
    Calls Try.prog 23 #[.int .i64 n, .slice a run.length c, .slice a' l.length c'] w (RO w (.bool (swB n run l))) := by
  cases hv : inR n 1 5
  · have HV := Lib.hid hv; clear hv
    go_enter Try.func23, Try.ntmps23
    go_wp2_with fail
    refine (s_inRange n 1 5 w).mono ?_
    rintro e w1 ⟨rfl, d1⟩
    rw [HV.out]
    have d1 : Dr w w1 := d1
    go_wp2
    go_ret
    exact d1.boolD (b := false) (by unfold swB; rw [HV.out]; rfl)
  have hn := inR_true.1 hv
  have HV := Lib.hid hv; clear hv
  have hw : IntKind.i64.wrap (n - 1) = n - 1 := IntWalk.i64_in _ (by omega)
  have HW := Lib.hid hw
  clear hw
  cases hu : okU n (n - 1) run
  · have HU := Lib.hid hu; clear hu
    go_enter Try.func23, Try.ntmps23
    go_wp2_with fail
    refine (s_inRange n 1 5 w).mono ?_
    rintro e w1 ⟨rfl, d1⟩
    rw [HV.out]
    have d1 : Dr w w1 := d1
    go_wp2_with fail
    refine (s_validRun HW.out (hm.dr d1) hlm).mono ?_
    rintro e w2 ⟨rfl, d2⟩
    rw [HU.out]
    have d2 : Dr w1 w2 := d2
    go_wp2
    go_ret
    exact (Dr.trans d1 d2).boolD (b := false) (by unfold swB; rw [HU.out]; simp)
  have HU := Lib.hid hu; clear hu
  have hSW : swB n run l = (okE (n - 1) l && shB run l) := by unfold swB; rw [HV.out, HU.out]; simp
  have HSW := Lib.hid hSW; clear hSW
  by_cases hlen : n < (l.length : Int)
  · have hdc : decide (n < (l.length : Int)) = true := decide_eq_true hlen
    have HNO : Hid (okE (n - 1) l = false) := by
      cases hb : okE (n - 1) l
      · exact rfl
      · obtain ⟨N, rfl⟩ := Int.eq_ofNat_of_zero_le (show 0 ≤ n by omega)
        have := okE_len hb; omega
    go_enter Try.func23, Try.ntmps23
    go_wp2_with fail
    refine (s_inRange n 1 5 w).mono ?_
    rintro e w1 ⟨rfl, d1⟩
    rw [HV.out]
    have d1 : Dr w w1 := d1
    go_wp2_with fail
    refine (s_validRun HW.out (hm.dr d1) hlm).mono ?_
    rintro e w2 ⟨rfl, d2⟩
    rw [HU.out]
    have d2 : Dr w1 w2 := d2
    go_wp2
    go_ret
    exact (Dr.trans d1 d2).boolD (b := false) (by rw [HSW.out, HNO.out]; rfl)
  have hdc : decide (n < (l.length : Int)) = false := decide_eq_false hlen
  go_enter Try.func23, Try.ntmps23
  go_wp2_with fail
  refine (s_inRange n 1 5 w).mono ?_
  rintro e w1 ⟨rfl, d1⟩
  rw [HV.out]
  have d1 : Dr w w1 := d1
  go_wp2_with fail
  refine (s_validRun HW.out (hm.dr d1) hlm).mono ?_
  rintro e w2 ⟨rfl, d2⟩
  rw [HU.out]
  have d2 : Dr w1 w2 := d2
  have D2 := Dr.trans d1 d2
  clear d1 d2 hdc
  go_wp2
  go_loopw [7, 8] (fun i _ wr => ∃ k : Nat, k ≤ l.length ∧ i = .int .i64 k ∧ Dr w wr ∧ Hid (okE (n - 1) (l.take k) = true)) (fun i _ _ => l.length - (intOf i).toNat)
  case atStart => exact ⟨0, Nat.zero_le _, rfl, D2, okE_nil (n - 1)⟩
  case round =>
    clear D2
    obtain ⟨k, hk, rfl, hd, hA⟩ := hrel
    obtain ⟨wo, rfl⟩ : ∃ x : World, x = wr := ⟨_, rfl⟩
    by_cases hlt : k < l.length
    · obtain ⟨b, o, x, ha, _, _, hcell, hx⟩ := (hl.dr hd).at hlt
      have hidx := idxI ha hlt c'
      have HX := Lib.hid hx.out
      clear ha hx
      have hwn := HW.out
      cases hb : inR x 0 (n - 1)
      · have HB := Lib.hid hb; clear hb
        go_wp2_with fail
        refine (s_inRange x 0 (n - 1) wo).mono ?_
        rintro e w1 ⟨rfl, n1, rfl⟩
        rw [HB.out]
        go_wp2
        go_ret
        exact (hd.drewN _).boolD (b := false) (by rw [HSW.out, okE_range HX.out HB.out]; rfl)
      · have HB := Lib.hid hb; clear hb
        go_wp2_with fail
        refine (s_inRange x 0 (n - 1) wo).mono ?_
        rintro e w1 ⟨rfl, n1, rfl⟩
        rw [HB.out]
        have hd1 := hd.drewN n1
        obtain ⟨w1, hw1⟩ : ∃ w1, wo.drewN n1 = w1 := ⟨_, rfl⟩
        rw [hw1] at hd1
        rw [hw1]
        clear hw1 hcell hidx hd hwn
        go_wp2
        go_loopw [8] (fun j wr => ∃ q : Nat, q ≤ k ∧ j = .int .i64 q ∧ Dr w wr ∧ Hid (x ∉ l.take q)) (fun j _ => k - (intOf j).toNat)
        case atStart => exact ⟨0, Nat.zero_le _, rfl, hd1, by simp [Hid]⟩
        case round =>
          clear hd1
          obtain ⟨q, hq, rfl, hd, hN⟩ := hrel
          by_cases hql : q < k
          · have hqr : q < l.length := by omega
            obtain ⟨b2, o2, y, ha2, _, _, hcell2, hy⟩ := (hl.dr hd).at hqr
            obtain ⟨b3, o3, x3, ha3, _, _, hcell3, hx3⟩ := (hl.dr hd).at hlt
            have e3 : x3 = x := by have := hx3.out; rw [HX.out] at this; simpa using this.symm
            subst e3
            have hidx2 := idxI ha2 hqr c'
            have hidx3 := idxI ha3 hlt c'
            have HY := Lib.hid hy.out
            clear ha2 ha3 hy hx3
            by_cases hyx : y = x3
            · have heq : (y == x3) = true := by rw [hyx]; exact beq_self_eq_true _
              have HYX := Lib.hid hyx
              clear hyx
              go_wp2_with fail
              go_quiet (fail)
              go_wp2
              go_ret
              exact (hd.drewN _).boolD (b := false) (by rw [HSW.out, okE_twice (by rw [HY.out, HYX.out]) HX.out hql]; rfl)
            · have heq : (y == x3) = false := beq_eq_false_iff_ne.2 hyx
              have HN2 : Hid (x3 ∉ l.take (q + 1)) := by
                show _; rw [take_snoc HY.out, List.mem_append, List.mem_singleton]
                rintro (h | h)
                · exact hN.out h
                · exact hyx h.symm
              clear hyx
              go_wp2_with fail
              go_quiet (fail)
              go_wp2
              go_roundw
              case rel => exact ⟨q + 1, by omega, by go_num, hd.drewN _, HN2⟩
              case measure => simp [intOf]; omega
          · have HNK : Hid (okE (n - 1) (l.take (k + 1)) = true) := by
              have : q = k := by omega
              subst this
              exact okE_step HX.out hA.out HB.out hN.out
            go_wp2
            go_roundw
            case rel => exact ⟨k + 1, by omega, by go_num, hd, HNK⟩
            case measure => simp [intOf]; omega
    · have HE : Hid (okE (n - 1) l = true) := okE_whole hA.out (by omega)
      go_wp2_with fail
      refine (s_shows (hm.dr hd) (hl.dr hd) hlm hll).mono ?_
      rintro e w3 ⟨rfl, d3⟩
      have d3 : Dr wo w3 := d3
      go_wp2
      go_ret
      exact (Dr.trans hd d3).boolD (by rw [HSW.out, HE.out, Bool.true_and])

set_option maxRecDepth 100000 in
set_option maxHeartbeats 2000000 in
theorem i_Shows {n : Int} {run l : List Int} {a a' : Option Addr} {c c' lo hi lo' hi' : Nat} {w : World} (h0 : -9223372036854775808 ≤ n) (h1 : n ≤ 9223372036854775807) (hm : RI w lo hi a run) (hlm : run.length ≤ 9223372036854775807) (hl : RI w lo' hi' a' l) (hll : l.length ≤ 9223372036854775807) (hcap : run.length ≤ c) (hB : hi ≤ w.heap.size) (hB' : hi' ≤ w.heap.size) :
    Calls Try.prog 22 #[.int .i64 n, .slice a run.length c, .slice a' l.length c'] w (NewW w (.bool (swB n run l))) := by
  have hbA := (Below.refl w.heap.size w).alloc (Nat.le_refl _) (.cells #[.slice a run.length c] 29)
  have hn1 := heap_alloc_new w (.cells #[.slice a run.length c] 29)
  have hRR : RII (w.alloc (.cells #[.slice a run.length c] 29)) 0 (w.heap.size + 1) (some ⟨w.heap.size, 0, none⟩) [run] := fun k hk => by
    have hk0 : k = 0 := by simp at hk; omega
    subst hk0
    exact ⟨w.heap.size, 0, a, c, run, rfl, Nat.zero_le _, by omega, rfl, by rw [cell_of_row _ _ _ _ _ _ hn1]; rfl, (hm.below hbA hB).wide (Nat.zero_le _) (by omega), hcap⟩
  have hm1 := hm.below hbA hB
  have hl1 := hl.below hbA hB'
  have hVR := i_ValidRuns (w := w.alloc (.cells #[.slice a run.length c] 29)) (m := [run]) (c := 1) h0 h1 hRR (by simp) (by intro r hr; rw [List.mem_singleton.1 hr]; exact hlm) (by simp)
  have HVR := Lib.hid hVR
  clear hVR hRR hn1
  cases hv : okRs n [run]
  · have HV := Lib.hid hv; clear hv
    have HNO : Hid (swB n run l = false) := by
      show _ = _
      have h := HV.out
      unfold okRs at h
      unfold swB
      simp at h
      cases hb : inR n 1 5
      · rfl
      · rw [hb] at h; simp at h; rw [h]; simp
    go_enter Try.func22, Try.ntmps22
    go_wp2_with fail
    refine HVR.out.mono ?_
    rintro e w1 ⟨rfl, b1⟩
    rw [HV.out]
    have hb := hbA.trans (b1.mono (by simp))
    go_wp2
    go_ret
    exact ⟨by rw [HNO.out]; rfl, hb⟩
  have HV := Lib.hid hv
  have hrm := okRs_m hv
  have hn : 1 ≤ n ∧ n ≤ 5 := ⟨hrm.1, hrm.2.1⟩
  have hU := hrm.2.2.2 run (by simp)
  have HU := Lib.hid hU
  have hUm := okU_m hU
  have HRE := Lib.hid hUm.2
  have HRL := Lib.hid hUm.1
  have HIN : Hid (inR n 1 5 = true) := inR_true.2 hn
  have HSW : Hid (swB n run l = (okE (n - 1) l && shB run l)) := by show _ = _; unfold swB; rw [HIN.out, HU.out]; simp
  have hr5 : run.length ≤ 5 := by have := HRL.out; omega
  clear hv hrm hU hUm
  go_enter Try.func22, Try.ntmps22
  go_wp2_with fail
  refine HVR.out.mono ?_
  rintro e w1 ⟨rfl, b1⟩
  rw [HV.out]
  have z1 := b1.size
  simp at z1
  have hb01 := hbA.trans (b1.mono (by simp))
  have hm2 := hm1.below b1 (by simp; omega)
  have hl2 := hl1.below b1 (by simp; omega)
  clear b1 hm1 hl1 hbA HVR
  go_wp2_with fail
  refine (i_orderOf HRL.out hn.2 HRE.out hm2 (by omega)).mono ?_
  rintro e w2 ⟨rfl, b2⟩
  unfold ordV
  have z2 := b2.size
  have hb02 := hb01.trans (b2.mono (by omega))
  have hl3 := hl2.below b2 (by omega)
  have hn2 := heap_alloc_new w2 (.cells (ordV n (plT run)) 60)
  have hbB := (Below.refl w2.heap.size w2).alloc (Nat.le_refl _) (.cells (ordV n (plT run)) 60)
  obtain ⟨c0, c1, c2, c3, c4, c5⟩ := ordV_cells hn2
  have hl4 := hl3.below hbB (by omega)
  have hb03 := hb02.trans (hbB.mono (by omega))
  have HAL := Lib.hid (i_allow (c := c') hn.1 hn.2 hl4 (by simp; omega) hll)
  have HN2 := Lib.hid hn2
  clear b2 hm2 hl2 hl3 hbB hn2 hb01 hb02
  cases hk : okE (n - 1) l
  · have HK := Lib.hid hk; clear hk
    go_wp2_with fail
    refine HAL.out.mono ?_
    rintro e w3 ⟨rfl, b3⟩
    rw [HK.out]
    have hb := hb03.trans (b3.mono (by simp; omega))
    clear b3
    go_wp2
    go_ret
    exact ⟨by rw [HSW.out, HK.out]; rfl, hb⟩
  have HK := Lib.hid hk
  have hl5 : ∀ x ∈ l, 0 ≤ x ∧ x < 5 := fun x hx => by have := okE_mem hk hx; omega
  have HL5 := Lib.hid hl5
  have HAS : Hid (ascF (fun e => plT run e.toNat) l = shB run l) := by
    obtain ⟨N, rfl⟩ := Int.eq_ofNat_of_zero_le (show 0 ≤ n by omega)
    exact asc_shows HRE.out (by have := HRL.out; omega) hk
  clear hk hl5
  go_wp2_with fail
  refine HAL.out.mono ?_
  rintro e w3 ⟨rfl, b3⟩
  rw [HK.out]
  have z3 := b3.size
  have hb := hb03.trans (b3.mono (by simp; omega))
  have hl6 := hl4.below b3 (by simp; omega)
  obtain ⟨d0, d1, d2, d3, d4, d5⟩ := ordV_cells ((b3.block w2.heap.size (by simp)).trans HN2.out)
  simp at z3
  clear b3 hl4 c0 c1 c2 c3 c4 c5
  go_wp2_with fail
  refine (i_shows (n := n) (plT_b hr5) HL5.out hl6 (by omega) hll).mono ?_
  rintro e w4 ⟨rfl, b4⟩
  rw [HAS.out]
  have hb4 := hb.trans (b4.mono (by omega))
  clear b4
  go_wp2
  go_ret
  exact ⟨by rw [HSW.out, HK.out, Bool.true_and]; rfl, hb4⟩

end Go.Proofs.Ytkboggohkhjciaa
