/- Walks: patterns as arrays. -/
import Derived.Test.YtpioldgpfpmjiaaGreatDoorWe
import Derived.Deep.WholeRow
namespace Go.Proofs.YtpioldgpfpmjiaaGreatDoor
open Go.RowKit

theorem undPat : Tryz.prog.underlying 130 = some (.array 5 3) := by kernel_rfl
theorem sizeOne : (Tryz.prog.info? 3).map (·.size) = some 1 := by kernel_rfl
theorem idx5 (P : Nat → Int) {k : Nat} (hk : k < 5) (wx : World) :
    (Instr.index 130 (.agg #[.int .i64 (P 0), .int .i64 (P 1), .int .i64 (P 2), .int .i64 (P 3), .int .i64 (P 4)]) (.int .i64 (k : Int))).run Tryz.prog wx = .ok (.int .i64 (P k)) wx := by
  have h0 : (Instr.index 130 (.agg #[.int .i64 (P 0), .int .i64 (P 1), .int .i64 (P 2), .int .i64 (P 3), .int .i64 (P 4)]) (.int .i64 ((0 : Nat) : Int))).run Tryz.prog wx = .ok (.int .i64 (P 0)) wx := by kernel_rfl
  have h1 : (Instr.index 130 (.agg #[.int .i64 (P 0), .int .i64 (P 1), .int .i64 (P 2), .int .i64 (P 3), .int .i64 (P 4)]) (.int .i64 ((1 : Nat) : Int))).run Tryz.prog wx = .ok (.int .i64 (P 1)) wx := by kernel_rfl
  have h2 : (Instr.index 130 (.agg #[.int .i64 (P 0), .int .i64 (P 1), .int .i64 (P 2), .int .i64 (P 3), .int .i64 (P 4)]) (.int .i64 ((2 : Nat) : Int))).run Tryz.prog wx = .ok (.int .i64 (P 2)) wx := by kernel_rfl
  have h3 : (Instr.index 130 (.agg #[.int .i64 (P 0), .int .i64 (P 1), .int .i64 (P 2), .int .i64 (P 3), .int .i64 (P 4)]) (.int .i64 ((3 : Nat) : Int))).run Tryz.prog wx = .ok (.int .i64 (P 3)) wx := by kernel_rfl
  have h4 : (Instr.index 130 (.agg #[.int .i64 (P 0), .int .i64 (P 1), .int .i64 (P 2), .int .i64 (P 3), .int .i64 (P 4)]) (.int .i64 ((4 : Nat) : Int))).run Tryz.prog wx = .ok (.int .i64 (P 4)) wx := by kernel_rfl
  obtain rfl | rfl | rfl | rfl | rfl : k = 0 ∨ k = 1 ∨ k = 2 ∨ k = 3 ∨ k = 4 := by omega
  · exact h0
  · exact h1
  · exact h2
  · exact h3
  · exact h4
theorem idxAt5 (b : Nat) {k : Nat} (hk : k < 5) (wx : World) :
    (Instr.indexAt 130 (.pointer (some ⟨b, 0, none⟩)) (.int .i64 (k : Int))).run Tryz.prog wx = .ok (.pointer (some ⟨b, k, none⟩)) wx := by
  simp [Instr.indexAt, run_underlying undPat, asIntOf, Instr.sureAddr, hk, Addr.add]
  omega
theorem cell5 {w : World} {b t : Nat} {P : Nat → Int} (h : w.heap[b]? = some (.cells #[.int .i64 (P 0), .int .i64 (P 1), .int .i64 (P 2), .int .i64 (P 3), .int .i64 (P 4)] t (0, 0))) {k : Nat} (hk : k < 5) : w.cell? ⟨b, k, none⟩ = some (.int .i64 (P k)) := by
  rw [cell_of_row w b k _ t (0, 0) h]
  match k, hk with
  | 0, _ => rfl
  | 1, _ => rfl
  | 2, _ => rfl
  | 3, _ => rfl
  | 4, _ => rfl

set_option maxRecDepth 100000 in
/-- the copy of a list into an array of zeros -/
theorem copy5 {l : List Int} {a : Option Addr} {c lo hi : Nat} {w : World} (hm : RI w lo hi a l) (hB : hi ≤ w.heap.size) (hl : l.length ≤ 5) (t : Nat) :
    (Builtin.copy_ #[45, 45] 3 #[.slice (some ⟨w.heap.size, 0, none⟩) 5 5, .slice a l.length c]).run Tryz.prog (w.alloc (.cells #[.int .i64 ((fun _ => 0) 0), .int .i64 ((fun _ => 0) 1), .int .i64 ((fun _ => 0) 2), .int .i64 ((fun _ => 0) 3), .int .i64 ((fun _ => 0) 4)] t)) =
      .ok (goInt l.length) (w.alloc (.cells #[.int .i64 (at5 l 0), .int .i64 (at5 l 1), .int .i64 (at5 l 2), .int .i64 (at5 l 3), .int .i64 (at5 l 4)] t)) := by
  have hn : (l.map (Value.int .i64)).length = Nat.min l.length 5 := by rw [List.length_map]; exact (Nat.min_eq_left hl).symm
  by_cases h0 : l = []
  · subst h0
    exact run_copy_none _ _ _ _ _ _ _ _ _ _ _ undI sizeOne (by rfl)
  obtain ⟨b, o, ha, _, h3, _⟩ := hm 0 (by cases l with | nil => exact absurd rfl h0 | cons _ _ => simp)
  subst ha
  have hsrc : ∀ j v, (l.map (Value.int .i64))[j]? = some v → (w.alloc (.cells #[.int .i64 ((fun _ => 0) 0), .int .i64 ((fun _ => 0) 1), .int .i64 ((fun _ => 0) 2), .int .i64 ((fun _ => 0) 3), .int .i64 ((fun _ => 0) 4)] t)).cell? ((⟨b, o, none⟩ : Addr).add j) = some v := by
    intro j v hv
    rw [List.getElem?_map, Option.map_eq_some_iff] at hv
    obtain ⟨x, hx, rfl⟩ := hv
    obtain ⟨b', o', e1, _, e3, x', e4, e5⟩ := hm j (lt_of_at hx)
    obtain ⟨rfl, rfl⟩ : b = b' ∧ o = o' := by simpa using e1
    rw [hx] at e4
    cases e4
    have e6 : (⟨b, o, none⟩ : Addr).add j = ⟨b, o + j, none⟩ := by unfold Addr.add; split <;> simp_all
    rw [e6]
    exact (World.cell?_of_block (w := w) (Below.heap_alloc w _ b (by omega))).trans e5
  have hr := run_copy_row (P := Tryz.prog) (w.alloc (.cells #[.int .i64 ((fun _ => 0) 0), .int .i64 ((fun _ => 0) 1), .int .i64 ((fun _ => 0) 2), .int .i64 ((fun _ => 0) 3), .int .i64 ((fun _ => 0) 4)] t)) 45 45 3 3 w.heap.size 0 5 5 ⟨b, o, none⟩ l.length c #[.int .i64 ((fun _ => 0) 0), .int .i64 ((fun _ => 0) 1), .int .i64 ((fun _ => 0) 2), .int .i64 ((fun _ => 0) 3), .int .i64 ((fun _ => 0) 4)] t (l.map (Value.int .i64)) undI sizeOne
    (heap_alloc_new w _) hn hsrc (by simp; omega) (by simp [Value.oneCell'])
  rw [hr, World.setRow_alloc_new, List.length_map]
  congr 3
  match l, hl with
  | [], _ => rfl
  | [x0], _ => rfl
  | [x0, x1], _ => rfl
  | [x0, x1, x2], _ => rfl
  | [x0, x1, x2, x3], _ => rfl
  | [x0, x1, x2, x3, x4], _ => rfl
  | _ :: _ :: _ :: _ :: _ :: _ :: _, h => simp at h

/-- A call that returns v and turns nothing that was there. -/
def NewV (w : World) (v : Value) (e : Ending) (w' : World) : Prop := e = .returned v ∧ Below w.heap.size w w'

set_option maxHeartbeats 400000 in
theorem i_patternOf {l : List Int} {a : Option Addr} {c lo hi : Nat} {w : World} (hm : RI w lo hi a l) (hB : hi ≤ w.heap.size) (hl : l.length ≤ 5) :
    Calls Tryz.prog 99 #[.slice a l.length c] w (NewV w (.agg #[.int .i64 (at5 l 0), .int .i64 (at5 l 1), .int .i64 (at5 l 2), .int .i64 (at5 l 3), .int .i64 (at5 l 4)])) := by
  have hcp := copy5 (c := c) ((hm.below ((Below.refl _ w).alloc (Nat.le_refl _) (.cells #[.int .i64 ((fun _ => 0) 0), .int .i64 ((fun _ => 0) 1), .int .i64 ((fun _ => 0) 2), .int .i64 ((fun _ => 0) 3), .int .i64 ((fun _ => 0) 4)] 130)) hB)) (by simp; omega) hl 130
  simp at hcp
  go_enter Tryz.func99, Tryz.ntmps99
  go_wp2
  exact bodyPost_ret (v := .agg #[.int .i64 (at5 l 0), .int .i64 (at5 l 1), .int .i64 (at5 l 2), .int .i64 (at5 l 3), .int .i64 (at5 l 4)]) (by simp [results, Tryz.results99, go_sem]) rfl ⟨rfl, ((Below.refl _ _).alloc (Nat.le_refl _) _).alloc (by simp) _⟩

set_option maxHeartbeats 400000 in
theorem i_meets (P Q : Nat → Int) (w : World) :
    Calls Tryz.prog 111 #[.agg #[.int .i64 (P 0), .int .i64 (P 1), .int .i64 (P 2), .int .i64 (P 3), .int .i64 (P 4)], .agg #[.int .i64 (Q 0), .int .i64 (Q 1), .int .i64 (Q 2), .int .i64 (Q 3), .int .i64 (Q 4)]] w (NewV w (.bool (meet5 P Q))) := by
  have hw1 : ((w.alloc (.cells #[.int .i64 (P 0), .int .i64 (P 1), .int .i64 (P 2), .int .i64 (P 3), .int .i64 (P 4)] 130)).alloc (.cells #[.int .i64 (Q 0), .int .i64 (Q 1), .int .i64 (Q 2), .int .i64 (Q 3), .int .i64 (Q 4)] 130)).heap[w.heap.size + 1]? = some (.cells #[.int .i64 (Q 0), .int .i64 (Q 1), .int .i64 (Q 2), .int .i64 (Q 3), .int .i64 (Q 4)] 130 (0, 0)) := by
    have := heap_alloc_new (w.alloc (.cells #[.int .i64 (P 0), .int .i64 (P 1), .int .i64 (P 2), .int .i64 (P 3), .int .i64 (P 4)] 130)) (.cells #[.int .i64 (Q 0), .int .i64 (Q 1), .int .i64 (Q 2), .int .i64 (Q 3), .int .i64 (Q 4)] 130)
    simpa using this
  have HB : Hid (Below w.heap.size w ((w.alloc (.cells #[.int .i64 (P 0), .int .i64 (P 1), .int .i64 (P 2), .int .i64 (P 3), .int .i64 (P 4)] 130)).alloc (.cells #[.int .i64 (Q 0), .int .i64 (Q 1), .int .i64 (Q 2), .int .i64 (Q 3), .int .i64 (Q 4)] 130))) := ((Below.refl _ _).alloc (Nat.le_refl _) _).alloc (by simp) _
  go_enter Tryz.func111, Tryz.ntmps111
  go_wp2
  go_loop [8] (fun i => ∃ k : Nat, k ≤ 5 ∧ i = .int .i64 k ∧ Hid ((List.range k).all (fun i => P i == -1 || P i == Q i) = true)) (fun i => 5 - (intOf i).toNat)
  case atStart => exact ⟨0, Nat.zero_le _, rfl, by simp [Hid]⟩
  case round =>
    obtain ⟨k, hk, rfl, hA⟩ := hrel
    by_cases hlt : k < 5
    · have hi := idx5 P hlt
      have hi2 := idxAt5 (w.heap.size + 1) hlt
      have hcl := cell5 hw1 hlt
      clear hw1
      by_cases hx1 : P k = -1
      · have HX : Hid ((List.range (k + 1)).all (fun i => P i == -1 || P i == Q i) = true) := by
          show _ = _; rw [List.range_succ, List.all_append, hA.out]; simp [hx1]
        have hc : (P k != -1) = false := by rw [hx1]; rfl
        clear hx1
        go_wp2
        go_round
        case rel => exact ⟨k + 1, by omega, by go_num, HX⟩
        case measure => simp [intOf]; omega
      · have hc : (P k != -1) = true := by rw [bne_iff_ne]; exact hx1
        by_cases hxy : P k = Q k
        · have HX : Hid ((List.range (k + 1)).all (fun i => P i == -1 || P i == Q i) = true) := by
            show _ = _; rw [List.range_succ, List.all_append, hA.out]; simp [hxy]
          have hc2 : (P k != Q k) = false := by rw [hxy]; exact bne_self_eq_false _
          clear hx1 hxy
          go_wp2
          go_round
          case rel => exact ⟨k + 1, by omega, by go_num, HX⟩
          case measure => simp [intOf]; omega
        · have HX : Hid (meet5 P Q = false) := by
            show _ = _; unfold meet5; rw [List.all_eq_false]; exact ⟨k, List.mem_range.2 hlt, by simp [hx1, hxy]⟩
          have hc2 : (P k != Q k) = true := by rw [bne_iff_ne]; exact hxy
          clear hx1 hxy
          go_wp2
          go_ret
          exact ⟨by rw [HX.out]; rfl, HB.out⟩
    · obtain rfl : k = 5 := by omega
      go_wp2
      go_ret
      exact ⟨by rw [show meet5 P Q = true from hA.out]; rfl, HB.out⟩

end Go.Proofs.YtpioldgpfpmjiaaGreatDoor
