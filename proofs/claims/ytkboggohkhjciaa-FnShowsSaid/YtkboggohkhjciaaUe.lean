/- Walks: UnseenOf, AllLists, IsOrdering, Shows of the program. -/
import Derived.Test.YtkboggohkhjciaaUd
namespace Go.Proofs.Ytkboggohkhjciaa
open Go Go.RowKit

theorem plT_b {r : List Int} (h : r.length ≤ 5) (e : Nat) : 0 ≤ plT r e ∧ plT r e ≤ 5 := by
  unfold plT
  by_cases hm : (e : Int) ∈ r
  · rw [if_pos hm]; have := List.idxOf_lt_length_of_mem hm; omega
  · rw [if_neg hm]; omega
theorem hid_asc {n : Nat} {r : List Int} {mm : List (List Int)} (hr : okE ((n : Int) - 1) r = true) (hrl : r.length = n) (hm : ∀ l ∈ mm, okE ((n : Int) - 1) l = true) : (mm.filter fun l => !ascF (fun e => plT r e.toNat) l) = hidA r mm := by
  unfold hidA
  refine List.filter_congr fun l hl => ?_
  rw [asc_shows hr hrl (hm l hl)]
theorem uoG_t {n : Int} {runs : List (List Int)} {t : Int} (h : okRs n runs = true) : uoG n runs t = inR t 0 n := by unfold uoG; rw [h, Bool.true_and]

theorem i_canOrder {n : Int} {m : List (List Int)} {t : Int} {a : Option Addr} {c lo hi' : Nat} {w : World} (h0 : -9223372036854775808 ≤ n) (h1 : n ≤ 9223372036854775807) (hm : RII w lo hi' a m) (hl : m.length ≤ 9223372036854775807) (hg : ∀ r ∈ m, r.length ≤ 9223372036854775807) (hB : hi' ≤ w.heap.size) :
    Calls Try.prog 54 #[.int .i64 n, .slice a m.length c, .int .i64 t] w (NewW w (.bool (uoG n m t))) := by
  have HG := Lib.hid hg; clear hg
  cases hv : okRs n m
  · have HV := Lib.hid hv; clear hv
    go_enter Try.func54, Try.ntmps54
    go_wp2_with fail
    refine (i_ValidRuns h0 h1 hm hl HG.out hB).mono ?_
    rintro e w1 ⟨rfl, b1⟩
    rw [HV.out]
    go_wp2
    go_ret
    exact ⟨by unfold uoG; rw [HV.out]; rfl, b1⟩
  have HV := Lib.hid hv
  have HU := Lib.hid (uoG_t (t := t) hv)
  clear hv
  by_cases ht0 : 0 ≤ t
  · have hd0 : decide (0 ≤ t) = true := decide_eq_true ht0
    go_enter Try.func54, Try.ntmps54
    go_wp2_with fail
    refine (i_ValidRuns h0 h1 hm hl HG.out hB).mono ?_
    rintro e w1 ⟨rfl, b1⟩
    rw [HV.out]
    go_wp2
    go_ret
    exact ⟨by rw [HU.out]; unfold inR; rw [hd0, Bool.true_and]; rfl, b1⟩
  · have hd0 : decide (0 ≤ t) = false := decide_eq_false ht0
    go_enter Try.func54, Try.ntmps54
    go_wp2_with fail
    refine (i_ValidRuns h0 h1 hm hl HG.out hB).mono ?_
    rintro e w1 ⟨rfl, b1⟩
    rw [HV.out]
    go_wp2
    go_ret
    exact ⟨by rw [HU.out]; unfold inR; rw [hd0]; rfl, b1⟩

set_option maxRecDepth 100000 in
set_option maxHeartbeats 2000000 in
theorem i_UnseenOf {n : Int} {m : List (List Int)} {t : Int} {a : Option Addr} {c lo hi' : Nat} {w : World} (h0 : -9223372036854775808 ≤ n) (h1 : n ≤ 9223372036854775807) (hm : RII w lo hi' a m) (hl : m.length ≤ 9223372036854775807) (hg : ∀ r ∈ m, r.length ≤ 9223372036854775807) (_ht0 : -9223372036854775808 ≤ t) (_ht1 : t ≤ 9223372036854775807) (hB : hi' ≤ w.heap.size) :
    Calls Try.prog 26 #[.int .i64 n, .slice a m.length c, .int .i64 t] w (NewII w (uoL n m t)) := by
  have HG := Lib.hid hg; clear hg
  cases hv : uoG n m t
  · have HV := Lib.hid hv; clear hv
    have HNO := Lib.hid (uo_no HV.out)
    go_enter Try.func26, Try.ntmps26
    go_wp2_with fail
    refine (i_canOrder h0 h1 hm hl HG.out hB).mono ?_
    rintro e w1 ⟨rfl, b1⟩
    rw [HV.out]
    go_wp2
    go_ret
    rw [HNO.out]
    exact ⟨none, 0, rfl, ⟨OII.nil _ _ _ _, by simp⟩, b1⟩
  have HV := Lib.hid hv
  have hb := uoG_m hv
  have HOK := Lib.hid hb.1
  have hn : 1 ≤ n ∧ n ≤ 5 ∧ 0 ≤ t ∧ t ≤ n := hb.2
  clear hv hb
  obtain ⟨N, rfl⟩ := Int.eq_ofNat_of_zero_le (show 0 ≤ n by omega)
  obtain ⟨q, rfl⟩ := Int.eq_ofNat_of_zero_le (show 0 ≤ t by omega)
  have HYES : Hid (uoL (N : Int) m (q : Int) = unA m (alE N q)) := by show _ = _; rw [uo_yes HV.out]; rfl
  have hml := (okRs_m HOK.out).2.2.1
  have HROW : Hid (∀ r ∈ m, r.length = N ∧ okE ((N : Int) - 1) r = true) := fun r hr => by have := okRs_row HOK.out hr; exact ⟨by have := this.1; simpa using this, this.2⟩
  have HAL := Lib.hid (alE_len (n := N) (t := q) (by omega) (by omega))
  have HAR : Hid (∀ l ∈ alE N q, l.length ≤ 5 ∧ okE ((N : Int) - 1) l = true) := fun l hl => by have := alE_row hl; exact ⟨by omega, this.2⟩
  go_enter Try.func26, Try.ntmps26
  go_wp2_with fail
  refine (i_canOrder h0 h1 hm hl HG.out hB).mono ?_
  rintro e w1 ⟨rfl, b1⟩
  rw [HV.out]
  have z1 := b1.size
  have hm1 := hm.below b1 hB
  go_wp2_with fail
  refine (i_lists (n := N) (t := q) (by omega) (by omega)).mono ?_
  rintro e w2 ⟨a2, c2, rfl, h2, b2⟩
  have z2 := b2.size
  have hm2 := hm1.below b2 (by omega)
  have hb02 := b1.trans (b2.mono z1)
  obtain ⟨all, hall⟩ : ∃ all, alE N q = all := ⟨_, rfl⟩
  rw [hall] at h2 HAL HAR HYES ⊢
  have hal := HAL.out
  have hst : OIIc w2 w.heap.size w2.heap.size a2 c2 (unA (m.take 0) all) := by
    rw [List.take_zero, unA_nil]; exact ⟨h2.oii.wide z1 (Nat.le_refl _), h2.cap⟩
  have hlen0 : (unA (m.take 0) all).length = all.length := by rw [List.take_zero, unA_nil]
  have HLEN0 := Lib.hid hlen0
  clear hall h2 hm hm1 b1 b2 hlen0
  go_wp2
  go_loopw [7, 20] (fun v i wr => ∃ (k : Nat) (a : Option Addr) (cc : Nat), k ≤ m.length ∧ i = .int .i64 k ∧ v = .slice a (unA (m.take k) all).length cc ∧ OIIc wr w.heap.size wr.heap.size a cc (unA (m.take k) all) ∧ Below w2.heap.size w2 wr) (fun _ i _ => m.length - (intOf i).toNat)
  case atStart => exact ⟨0, a2, c2, Nat.zero_le _, rfl, by rw [HLEN0.out], hst, Below.refl _ _⟩
  case round =>
    clear hst
    obtain ⟨k, av, cv, hk, rfl, rfl, ho, hd⟩ := hrel
    have hz := hd.size
    by_cases hlt : k < m.length
    · obtain ⟨b, o, a3, c3, r, ha, _, hbh, hcell, hr, hx⟩ := (hm2.below hd (by omega)).at hlt
      have hidx := idxII ha hlt c
      have hrw := HROW.out r (List.mem_of_getElem? hx.out)
      have HRE := Lib.hid hrw.2
      have HRL := Lib.hid hrw.1
      have HST := Lib.hid (unA_step (all := all) hx.out)
      have hul := unA_len (m.take k) all
      have HUM : Hid (∀ l ∈ unA (m.take k) all, (l.length ≤ 5 ∧ ∀ x ∈ l, 0 ≤ x ∧ x < 5) ∧ okE ((N : Int) - 1) l = true) := fun l hl => by
        have h9 := HAR.out l (unA_mem.1 hl).1
        exact ⟨⟨h9.1, fun x hx => by have := okE_mem h9.2 hx; omega⟩, h9.2⟩
      have HRLI : Hid ((r.length : Int) = (N : Int)) := by show _ = _; rw [HRL.out]
      have hr5 : r.length ≤ 5 := by have := HRL.out; omega
      obtain ⟨U, hU⟩ : ∃ U, unA (m.take k) all = U := ⟨_, rfl⟩
      rw [hU] at ho HST hul HUM ⊢
      clear ha hx hrw hU
      go_wp2_with fail
      refine (i_orderOf HRLI.out (by omega) HRE.out hr (by omega)).mono ?_
      rintro e w3 ⟨rfl, b3⟩
      have z3 := b3.size
      have ho3 := ho.below b3 (Nat.le_refl _)
      go_wp2_with fail
      refine (i_hidden (plT_b hr5) (fun l hl => (HUM.out l hl).1) ho3 z3 (by omega) (by omega)).mono ?_
      rintro e w4 ⟨a4, c4, rfl, h4, b4⟩
      have HEQ : Hid ((U.filter fun l => !ascF (fun e => plT r e.toNat) l) = unA (m.take (k + 1)) all) := by
        show _ = _; rw [hid_asc HRE.out HRL.out (fun l hl => (HUM.out l hl).2), HST.out]
      rw [HEQ.out] at h4 ⊢
      have hd4 := hd.trans ((b3.trans (b4.mono z3)).mono hz)
      clear ho3 b3 b4 hd hr ho hm2
      go_wp2
      go_roundw
      case rel => exact ⟨k + 1, a4, c4, by omega, by go_num, rfl, h4, hd4⟩
      case measure => simp [intOf]; omega
    · have HKE : Hid (m.take k = m) := List.take_of_length_le (by omega)
      rw [HKE.out] at ho ⊢
      go_wp2
      go_ret
      rw [HYES.out]
      exact ⟨_, _, rfl, ho, hb02.trans (hd.mono (by omega))⟩

theorem i_AllLists {n t : Int} {w : World} (h0 : -9223372036854775808 ≤ n) (h1 : n ≤ 9223372036854775807) (ht0 : -9223372036854775808 ≤ t) (ht1 : t ≤ 9223372036854775807) :
    Calls Try.prog 15 #[.int .i64 n, .int .i64 t] w (NewII w (uoL n [] t)) := by
  go_enter Try.func15, Try.ntmps15
  go_wp2_with fail
  refine (i_UnseenOf (m := []) (a := none) (c := 0) (lo := 0) (hi' := 0) h0 h1 (RII.nil _ 0 0 _) (by simp) (by simp) ht0 ht1 (by omega)).mono ?_
  rintro e w2 ⟨a2, c2, rfl, h2, b2⟩
  go_wp2
  go_ret
  exact ⟨a2, c2, rfl, h2, b2⟩

theorem i_IsOrdering {n : Int} {m : List (List Int)} {t : Int} {a : Option Addr} {c lo hi' : Nat} {w : World} (h0 : -9223372036854775808 ≤ n) (h1 : n ≤ 9223372036854775807) (hm : RII w lo hi' a m) (hl : m.length ≤ 9223372036854775807) (hg : ∀ r ∈ m, r.length ≤ 9223372036854775807) (ht0 : -9223372036854775808 ≤ t) (ht1 : t ≤ 9223372036854775807) (hB : hi' ≤ w.heap.size) :
    Calls Try.prog 30 #[.int .i64 n, .slice a m.length c, .int .i64 t] w (NewW w (.bool (ioB n m t))) := by
  have HG := Lib.hid hg; clear hg
  cases hv : uoG n m t
  · have HV := Lib.hid hv; clear hv
    go_enter Try.func30, Try.ntmps30
    go_wp2_with fail
    refine (i_canOrder h0 h1 hm hl HG.out hB).mono ?_
    rintro e w1 ⟨rfl, b1⟩
    rw [HV.out]
    go_wp2
    go_ret
    exact ⟨by unfold ioB; rw [HV.out]; rfl, b1⟩
  have HV := Lib.hid hv; clear hv
  have hul := @uoL_len n m t
  have HIO : Hid (ioB n m t = decide ((uoL n m t).length = 0)) := by show _ = _; unfold ioB; rw [HV.out, Bool.true_and]
  obtain ⟨L, hL⟩ : ∃ L, uoL n m t = L := ⟨_, rfl⟩
  rw [hL] at hul HIO
  have HL := Lib.hid hL
  clear hL
  go_enter Try.func30, Try.ntmps30
  go_wp2_with fail
  refine (i_canOrder h0 h1 hm hl HG.out hB).mono ?_
  rintro e w1 ⟨rfl, b1⟩
  rw [HV.out]
  have z1 := b1.size
  go_wp2_with fail
  refine (i_UnseenOf h0 h1 (hm.below b1 hB) hl HG.out ht0 ht1 (by omega)).mono ?_
  rintro e w2 ⟨a2, c2, rfl, h2, b2⟩
  rw [HL.out]
  have hb := b1.trans (b2.mono z1)
  clear b1 b2 h2
  go_wp2
  go_ret
  refine ⟨?_, hb⟩
  rw [HIO.out]
  refine congrArg (fun z : Bool => Ending.returned (Value.bool z)) ?_
  rw [Bool.eq_iff_iff]; simp

end Go.Proofs.Ytkboggohkhjciaa
