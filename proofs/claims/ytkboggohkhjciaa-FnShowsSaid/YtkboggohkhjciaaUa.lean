/- Walks: runs of events, by the model: ValidRuns; and arrays of five cells. -/
import Derived.Test.YtkboggohkhjciaaWa
import Derived.Test.YtkboggohkhjciaaTa
import Derived.Deep.QuietTactic
import Derived.BigQuiet
namespace Go.Proofs.Ytkboggohkhjciaa
open Go Go.RowKit

theorem okRs_eq {n hi : Int} {runs : List (List Int)} (h0 : -9223372036854775808 ≤ n) (h1 : n ≤ 9223372036854775807) (hw : IntKind.i64.wrap (n - 1) = hi) : (runs.all (okU n hi) && (inR n 1 5 && decide (runs.length ≤ 20))) = okRs n runs := by
  cases hb : inR n 1 5
  · unfold okRs; rw [hb]; simp
  · have hn := inR_true.1 hb
    have he : hi = n - 1 := by rw [← hw]; exact IntWalk.i64_in _ (by omega)
    subst he
    unfold okRs; rw [hb]; simp [Bool.and_comm]
theorem okRs_bad {n hi : Int} {runs : List (List Int)} {k : Nat} {r : List Int} (h0 : -9223372036854775808 ≤ n) (h1 : n ≤ 9223372036854775807) (hw : IntKind.i64.wrap (n - 1) = hi) (hx : runs[k]? = some r) (h : okU n hi r = false) : okRs n runs = false := by
  rw [← okRs_eq h0 h1 hw, all_fails hx h, Bool.false_and]
theorem okRs_done {n hi : Int} {runs : List (List Int)} {k : Nat} (h0 : -9223372036854775808 ≤ n) (h1 : n ≤ 9223372036854775807) (hw : IntKind.i64.wrap (n - 1) = hi) (hk : runs.length ≤ k) (h : (runs.take k).all (okU n hi) = true) : (inR n 1 5 && decide (runs.length ≤ 20)) = okRs n runs := by
  rw [← okRs_eq h0 h1 hw, all_whole h hk, Bool.true_and]

set_option maxRecDepth 100000 in
set_option maxHeartbeats 1000000 in
theorem s_validRun {n hi : Int} {r : List Int} {a : Option Addr} {c lo hi' : Nat} {w : World} (hw : IntKind.i64.wrap (n - 1) = hi) (hr : RI w lo hi' a r) (hl : r.length ≤ 9223372036854775807) :
    Calls Try.prog 52 #[.int .i64 n, .slice a r.length c] w (RO w (.bool (okU n hi r))) := by
  go_enter Try.func52, Try.ntmps52
  go_wp2
  go_loopw [5, 6] (fun i _ wr => ∃ k : Nat, k ≤ r.length ∧ i = .int .i64 k ∧ Dr w wr ∧ Hid (okE hi (r.take k) = true)) (fun i _ _ => r.length - (intOf i).toNat)
  case atStart => exact ⟨0, Nat.zero_le _, rfl, Dr.refl _, okE_nil hi⟩
  case round =>
    obtain ⟨k, hk, rfl, hd, hA⟩ := hrel
    obtain ⟨wo, rfl⟩ : ∃ x : World, x = wr := ⟨_, rfl⟩
    by_cases hlt : k < r.length
    · obtain ⟨b, o, x, ha, _, _, hcell, hx⟩ := (hr.dr hd).at hlt
      have hidx := idxI ha hlt c
      have HX := Lib.hid hx.out
      clear ha hx
      cases hb : inR x 0 hi
      · have HB := Lib.hid hb; clear hb
        go_wp2_with fail
        refine (s_inRange x 0 hi wo).mono ?_
        rintro e w1 ⟨rfl, n1, rfl⟩
        rw [HB.out]
        go_wp2
        go_ret
        exact (hd.drewN _).boolD (b := false) (okU_no (okE_range HX.out HB.out)).symm
      · have HB := Lib.hid hb; clear hb
        go_wp2_with fail
        refine (s_inRange x 0 hi wo).mono ?_
        rintro e w1 ⟨rfl, n1, rfl⟩
        rw [HB.out]
        have hd1 := hd.drewN n1
        obtain ⟨w1, hw1⟩ : ∃ w1, wo.drewN n1 = w1 := ⟨_, rfl⟩
        rw [hw1] at hd1
        rw [hw1]
        clear hw1 hcell hidx hd hw
        go_wp2
        go_loopw [6] (fun j wr => ∃ q : Nat, q ≤ k ∧ j = .int .i64 q ∧ Dr w wr ∧ Hid (x ∉ r.take q)) (fun j _ => k - (intOf j).toNat)
        case atStart => exact ⟨0, Nat.zero_le _, rfl, hd1, by simp [Hid]⟩
        case round =>
          clear hd1
          obtain ⟨q, hq, rfl, hd, hN⟩ := hrel
          by_cases hql : q < k
          · have hqr : q < r.length := by omega
            obtain ⟨b2, o2, y, ha2, _, _, hcell2, hy⟩ := (hr.dr hd).at hqr
            obtain ⟨b3, o3, x3, ha3, _, _, hcell3, hx3⟩ := (hr.dr hd).at hlt
            have e3 : x3 = x := by have := hx3.out; rw [HX.out] at this; simpa using this.symm
            subst e3
            have hidx2 := idxI ha2 hqr c
            have hidx3 := idxI ha3 hlt c
            have HY := Lib.hid hy.out
            clear ha2 ha3 hy hx3
            by_cases hyx : y = x3
            · have heq : (y == x3) = true := by rw [hyx]; exact beq_self_eq_true _
              have HYX := Lib.hid hyx
              clear hyx
              go_wp2_with fail
              go_quiet (fail)
              go_wp2
              go_ret
              exact (hd.drewN _).boolD (b := false) (okU_no (okE_twice (by rw [HY.out, HYX.out]) HX.out hql)).symm
            · have heq : (y == x3) = false := beq_eq_false_iff_ne.2 hyx
              have HN2 : Hid (x3 ∉ r.take (q + 1)) := by
                show _; rw [take_snoc HY.out, List.mem_append, List.mem_singleton]
                rintro (h | h)
                · exact hN.out h
                · exact hyx h.symm
              clear hyx
              go_wp2_with fail
              go_quiet (fail)
              go_wp2
              go_roundw
              case rel => exact ⟨q + 1, by omega, by go_num, hd.drewN _, HN2⟩
              case measure => simp [intOf]; omega
          · have HNK : Hid (okE hi (r.take (k + 1)) = true) := by
              have : q = k := by omega
              subst this
              exact okE_step HX.out hA.out HB.out hN.out
            go_wp2
            go_roundw
            case rel => exact ⟨k + 1, by omega, by go_num, hd, HNK⟩
            case measure => simp [intOf]; omega
    · have HE : Hid (okE hi r = true) := okE_whole hA.out (by omega)
      go_wp2
      go_ret
      exact hd.boolD (by unfold okU; rw [HE.out, Bool.and_true]; exact Bool.eq_iff_iff.2 (by simp))

set_option maxRecDepth 100000 in
set_option maxHeartbeats 1000000 in
theorem s_validRuns {n : Int} {m : List (List Int)} {a : Option Addr} {c lo hi' : Nat} {w : World} (h0 : -9223372036854775808 ≤ n) (h1 : n ≤ 9223372036854775807) (hm : RII w lo hi' a m) (hl : m.length ≤ 9223372036854775807) (hg : ∀ r ∈ m, r.length ≤ 9223372036854775807) :
    Calls Try.prog 44 #[.int .i64 n, .slice a m.length c] w (RO w (.bool (okRs n m))) := by
  have HG := Lib.hid hg; clear hg
  obtain ⟨hi, hh⟩ : ∃ hi, IntKind.i64.wrap (n - 1) = hi := ⟨_, rfl⟩
  have HH := Lib.hid hh
  clear hh
  go_enter Try.func44, Try.ntmps44
  go_wp2
  go_loopw [5] (fun i wr => ∃ k : Nat, k ≤ m.length ∧ i = .int .i64 k ∧ Dr w wr ∧ Hid ((m.take k).all (okU n hi) = true)) (fun i _ => m.length - (intOf i).toNat)
  case atStart => exact ⟨0, Nat.zero_le _, rfl, Dr.refl _, by simp [Hid]⟩
  case round =>
    obtain ⟨k, hk, rfl, hd, hA⟩ := hrel
    by_cases hlt : k < m.length
    · obtain ⟨b, o, a1, c1, r, ha, _, _, hcell, hr, hx⟩ := (hm.dr hd).at hlt
      have hidx := idxII ha hlt c
      have hrl := HG.out r (List.mem_of_getElem? hx.out)
      have HX := Lib.hid hx.out
      clear ha hm hx
      cases hb : okU n hi r
      · have HB := Lib.hid hb; clear hb
        go_wp2_with fail
        refine (s_validRun HH.out hr hrl).mono ?_
        rintro e w' ⟨rfl, n1, rfl⟩
        rw [HB.out]
        go_wp2
        go_ret
        exact (hd.drewN _).boolD (b := false) (okRs_bad h0 h1 HH.out HX.out HB.out).symm
      · have HB := Lib.hid hb; clear hb
        go_wp2_with fail
        refine (s_validRun HH.out hr hrl).mono ?_
        rintro e w' ⟨rfl, n1, rfl⟩
        rw [HB.out]
        go_wp2
        go_roundw
        case rel => exact ⟨k + 1, by omega, by go_num, hd.drewN _, all_snoc HX.out hA.out HB.out⟩
        case measure => simp [intOf]; omega
    · have HE := Lib.hid (okRs_done h0 h1 HH.out (show m.length ≤ k by omega) hA.out)
      cases hb : inR n 1 5
      · have HB := Lib.hid hb; clear hb
        go_wp2_with fail
        refine (s_inRange n 1 5 wr).mono ?_
        rintro e w1 ⟨rfl, n1, rfl⟩
        rw [HB.out]
        go_wp2
        go_ret
        exact (hd.drewN _).boolD (b := false) (by rw [← HE.out, HB.out]; rfl)
      · have HB := Lib.hid hb; clear hb
        go_wp2_with fail
        refine (s_inRange n 1 5 wr).mono ?_
        rintro e w1 ⟨rfl, n1, rfl⟩
        rw [HB.out]
        go_wp2
        go_ret
        exact (hd.drewN _).boolD (by rw [← HE.out, HB.out, Bool.true_and]; exact decide_eq_decide.2 (by omega))

theorem s_ValidRuns {n : Int} {m : List (List Int)} {a : Option Addr} {c lo hi' : Nat} {w : World} (h0 : -9223372036854775808 ≤ n) (h1 : n ≤ 9223372036854775807) (hm : RII w lo hi' a m) (hl : m.length ≤ 9223372036854775807) (hg : ∀ r ∈ m, r.length ≤ 9223372036854775807) :
    Calls Try.prog 13 #[.int .i64 n, .slice a m.length c] w (RO w (.bool (okRs n m))) := by
  have HG := Lib.hid hg; clear hg
  go_enter Try.func13, Try.ntmps13
  go_wp2_with fail
  refine (s_validRuns h0 h1 hm hl HG.out).mono ?_
  rintro e w1 ⟨rfl, n1, rfl⟩
  go_wp2
  go_ret
  exact RO.drew _ _ _

/-- A call that returns v and turns nothing that was there. -/
def NewW (w : World) (v : Value) (e : Ending) (w' : World) : Prop := e = .returned v ∧ Below w.heap.size w w'

/-! ### arrays of five cells in a block of their own -/
def rowB (F : Nat → Bool) : Array Value := #[.bool (F 0), .bool (F 1), .bool (F 2), .bool (F 3), .bool (F 4)]
theorem rowB_cell {w : World} {b t : Nat} {F : Nat → Bool} (h : w.heap[b]? = some (.cells (rowB F) t (0, 0))) {k : Nat} (hk : k < 5) : w.cell? ⟨b, k, none⟩ = some (.bool (F k)) := by
  rw [cell_of_row w b k _ t (0, 0) h]
  match k, hk with
  | 0, _ => rfl
  | 1, _ => rfl
  | 2, _ => rfl
  | 3, _ => rfl
  | 4, _ => rfl
theorem row_frozen {w : World} {b t : Nat} {c : Array Value} (h : w.heap[b]? = some (.cells c t (0, 0))) (k : Nat) : w.frozen? ⟨b, k, none⟩ = false :=
  World.rowIs.frozen (t := t) (n := c.size) (f := fun i => c.getD i undef) ⟨c, h, rfl, fun i hi => by simp [Array.getD, hi]⟩ k
def putB (F : Nat → Bool) (e : Nat) (v : Bool) (i : Nat) : Bool := if i = e then v else F i
theorem rowB_set {w : World} {b t : Nat} {F : Nat → Bool} (h : w.heap[b]? = some (.cells (rowB F) t (0, 0))) {e : Nat} (he : e < 5) (v : Bool) : (w.setCell ⟨b, e, none⟩ (.bool v)).heap[b]? = some (.cells (rowB (putB F e v)) t (0, 0)) := by
  simp only [World.setCell, Array.getElem?_modify, if_true]
  rw [h]
  match e, he with
  | 0, _ => rfl
  | 1, _ => rfl
  | 2, _ => rfl
  | 3, _ => rfl
  | 4, _ => rfl
theorem undB5 : Try.prog.underlying 73 = some (.array 5 4) := by kernel_rfl
theorem idxAtB (b : Nat) {k : Nat} (hk : k < 5) (wx : World) :
    (Instr.indexAt 73 (.pointer (some ⟨b, 0, none⟩)) (.int .i64 (k : Int))).run Try.prog wx = .ok (.pointer (some ⟨b, k, none⟩)) wx := by
  simp [Instr.indexAt, run_underlying undB5, asIntOf, Instr.sureAddr, hk, Addr.add]
  omega

/-- which events have been seen -/
def seenT (l : List Int) (e : Nat) : Bool := decide ((e : Int) ∈ l)
theorem seen_put {l : List Int} {k : Nat} {x : Int} (hx : l[k]? = some x) (h0 : 0 ≤ x) : rowB (putB (seenT (l.take k)) x.toNat true) = rowB (seenT (l.take (k + 1))) := by
  have h : ∀ i, putB (seenT (l.take k)) x.toNat true i = seenT (l.take (k + 1)) i := fun i => by
    unfold putB seenT
    rw [take_snoc hx]
    by_cases e : i = x.toNat
    · subst e; rw [if_pos rfl]; simp; right; omega
    · rw [if_neg e]; simp; intro h; omega
  unfold rowB; simp only [h]

theorem i_has {n x : Int} {w : World} : Calls Try.prog 62 #[.int .i64 n, .int .i64 x] w (RO w (.bool (inR x 0 (n - 1)))) := by
  by_cases h : 0 ≤ x
  · have hd : decide (0 ≤ x) = true := decide_eq_true h
    go_enter Try.func62, Try.ntmps62
    go_wp2
    go_ret
    exact RO.bool0 (by unfold inR; rw [hd, Bool.true_and]; exact decide_eq_decide.2 (by omega))
  · have hd : decide (0 ≤ x) = false := decide_eq_false h
    go_enter Try.func62, Try.ntmps62
    go_wp2
    go_ret
    exact RO.bool0 (by unfold inR; rw [hd, Bool.false_and])

set_option maxRecDepth 100000 in
set_option maxHeartbeats 1000000 in
theorem i_allow {n : Int} {l : List Int} {a : Option Addr} {c lo hi : Nat} {w : World} (hn1 : 1 ≤ n) (hn5 : n ≤ 5) (hm : RI w lo hi a l) (hB : hi ≤ w.heap.size) (hl : l.length ≤ 9223372036854775807) :
    Calls Try.prog 43 #[.int .i64 n, .slice a l.length c] w (NewW w (.bool (okE (n - 1) l))) := by
  have hrow : (w.alloc (.cells (rowB (seenT (l.take 0))) 73)).heap[w.heap.size]? = some (.cells (rowB (seenT (l.take 0))) 73 (0, 0)) := heap_alloc_new _ _
  have hbA := (Below.refl w.heap.size w).alloc (Nat.le_refl _) (.cells (rowB (seenT (l.take 0))) 73)
  have e0 : rowB (seenT (l.take 0)) = #[.bool false, .bool false, .bool false, .bool false, .bool false] := by unfold rowB seenT; simp
  rw [e0] at hbA
  have hrow' := hrow; rw [e0] at hrow'
  obtain ⟨W, hW⟩ : ∃ W, w.alloc (.cells #[.bool false, .bool false, .bool false, .bool false, .bool false] 73) = W := ⟨_, rfl⟩
  have hWs : w.heap.size + 1 ≤ W.heap.size ∧ W.heap.size ≤ w.heap.size + 1 := by rw [← hW]; simp
  rw [hW] at hbA hrow'
  have hR : W.heap[w.heap.size]? = some (.cells (rowB (seenT (l.take 0))) 73 (0, 0)) := by rw [e0]; exact hrow'
  clear hrow hrow' e0
  go_enter Try.func43, Try.ntmps43
  go_wp2
  try rw [hW]
  clear hW
  go_loopw [10] (fun i wr => ∃ k : Nat, k ≤ l.length ∧ i = .int .i64 k ∧ wr.heap[w.heap.size]? = some (.cells (rowB (seenT (l.take k))) 73 (0, 0)) ∧ Below w.heap.size w wr ∧ Hid (okE (n - 1) (l.take k) = true)) (fun i _ => l.length - (intOf i).toNat)
  case atStart => exact ⟨0, Nat.zero_le _, rfl, hR, hbA, okE_nil _⟩
  case round =>
    clear hR hbA
    obtain ⟨k, hk, rfl, hrow, hd, hA⟩ := hrel
    by_cases hlt : k < l.length
    · obtain ⟨b, o, x, ha, _, hbh, hcell, hx⟩ := (hm.below hd hB).at hlt
      have hidx := idxI ha hlt c
      have hblt : w.heap.size < wr.heap.size := (Array.getElem?_eq_some_iff.1 hrow).1
      have HX := Lib.hid hx.out
      clear ha hx
      cases hb : inR x 0 (n - 1)
      · have HB := Lib.hid hb; clear hb
        go_wp2_with fail
        refine (i_has (w := wr)).mono ?_
        rintro e w1 ⟨rfl, d1⟩
        rw [HB.out]
        have d1 : Dr wr w1 := d1
        go_wp2
        go_ret
        exact ⟨by rw [okE_range HX.out HB.out]; rfl, hd.trans (Dr.below d1 _)⟩
      · have hxr := inR_true.1 hb
        have HB := Lib.hid hb; clear hb
        have hx5 : x.toNat < 5 := by omega
        have hxe : ((x.toNat : Nat) : Int) = x := by omega
        have hix := idxAtB w.heap.size hx5
        rw [hxe] at hix
        cases hs : seenT (l.take k) x.toNat
        · have HNM : Hid (x ∉ l.take k) := by
            have := hs; unfold seenT at this; rw [decide_eq_false_iff_not, hxe] at this; exact this
          have hcs : ∀ w', Dr wr w' → w'.cell? ⟨w.heap.size, x.toNat, none⟩ = some (.bool false) := fun w' hd' => by
            rw [rowB_cell (F := seenT (l.take k)) (((Dr.below hd' wr.heap.size).block _ hblt).trans hrow) hx5, hs]
          have HCS := Lib.hid hcs
          have HSP := Lib.hid (seen_put HX.out hxr.1)
          have HROW : Hid (∀ w', Dr wr w' → (w'.setCell ⟨w.heap.size, x.toNat, none⟩ (.bool true)).heap[w.heap.size]? = some (.cells (rowB (seenT (l.take (k + 1)))) 73 (0, 0))) := fun w' hd' => by
            rw [← HSP.out]; exact rowB_set (((Dr.below hd' wr.heap.size).block _ hblt).trans hrow) hx5 true
          have HFR : Hid (∀ w', Dr wr w' → w'.frozen? ⟨w.heap.size, x.toNat, none⟩ = false) := fun w' hd' => row_frozen (((Dr.below hd' wr.heap.size).block _ hblt).trans hrow) _
          clear hs hcs hxe hrow
          go_wp2_with fail
          refine (i_has (w := wr)).mono ?_
          rintro e w1 ⟨rfl, d1⟩
          rw [HB.out]
          have d1 : Dr wr w1 := d1
          have hc1 := HCS.out w1 d1
          have hf1 := HFR.out w1 d1
          have HR1 := Lib.hid (HROW.out w1 d1)
          have hd1 := hd.trans (Dr.below d1 _)
          have HD1 : Hid (Below w.heap.size w (w1.setCell ⟨w.heap.size, x.toNat, none⟩ (.bool true))) := hd1.setCell (p := ⟨w.heap.size, x.toNat, none⟩) (Nat.le_refl _) _
          have HNK : Hid (okE (n - 1) (l.take (k + 1)) = true) := okE_step HX.out hA.out HB.out HNM.out
          clear d1 hd1 hd
          go_wp2
          go_roundw
          case rel => exact ⟨k + 1, by omega, by go_num, HR1.out, HD1.out, HNK.out⟩
          case measure => simp [intOf]; omega
        · have HM : Hid (x ∈ l.take k) := by
            have := hs; unfold seenT at this; rw [decide_eq_true_eq, hxe] at this; exact this
          have HCS : Hid (∀ w', Dr wr w' → w'.cell? ⟨w.heap.size, x.toNat, none⟩ = some (.bool true)) := fun w' hd' => by
            rw [rowB_cell (F := seenT (l.take k)) (((Dr.below hd' wr.heap.size).block _ hblt).trans hrow) hx5, hs]
          have HNO : Hid (okE (n - 1) l = false) := by
            obtain ⟨j, hj⟩ := List.mem_iff_getElem?.1 HM.out
            have hjk : j < k := by have := lt_of_at hj; simp at this; omega
            rw [List.getElem?_take_of_lt hjk] at hj
            exact okE_twice hj HX.out hjk
          clear hs hxe hrow
          go_wp2_with fail
          refine (i_has (w := wr)).mono ?_
          rintro e w1 ⟨rfl, d1⟩
          rw [HB.out]
          have d1 : Dr wr w1 := d1
          have hc1 := HCS.out w1 d1
          have hd1 := hd.trans (Dr.below d1 _)
          clear d1 hd
          go_wp2
          go_ret
          exact ⟨by rw [HNO.out]; rfl, hd1⟩
    · have HE : Hid (okE (n - 1) l = true) := okE_whole hA.out (by omega)
      go_wp2
      go_ret
      exact ⟨by rw [HE.out]; rfl, hd⟩

end Go.Proofs.Ytkboggohkhjciaa
