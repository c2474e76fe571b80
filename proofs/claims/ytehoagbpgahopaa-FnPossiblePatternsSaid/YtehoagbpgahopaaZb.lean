/- Walks: a ban as a value, and whether a pattern has its levels. -/
import Derived.Test.YtehoagbpgahopaaWu
import Derived.Test.YtehoagbpgahopaaZm
import Derived.Laws.StructEq
namespace Go.Proofs.Ytehoagbpgahopaa
open Go.RowKit

def bF (P : Nat → Int) (i : Nat) : Bool := P i != -1
def bnL (F : Nat → Bool) (P : Nat → Int) (i : Nat) : Int := if F i then P i else 0
def fillF (F : Nat → Bool) (k i : Nat) : Bool := if i < k then F i else false
def fillL (L : Nat → Int) (k i : Nat) : Int := if i < k then L i else 0
theorem wideBan : (match Try.prog.underlying 150 with | some (.struct _) => true | _ => false) = true := by kernel_rfl
theorem undBan : ∃ fs, Try.prog.underlying 150 = some (.struct fs) := by
  have h := wideBan
  cases hu : Try.prog.underlying 150 with
  | none => rw [hu] at h; cases h
  | some d => rw [hu] at h; cases d <;> first | exact ⟨_, rfl⟩ | (cases h)
theorem infoBan : (Try.prog.info? 150).map (·.size) = some 10 := by kernel_rfl
theorem undFs : Try.prog.underlying 120 = some (.array 5 4) := by kernel_rfl
theorem idxAtF (b : Nat) {k : Nat} (hk : k < 5) (wx : World) :
    (Instr.indexAt 120 (.pointer (some ⟨b, 0, none⟩)) (.int .i64 (k : Int))).run Try.prog wx = .ok (.pointer (some ⟨b, k, none⟩)) wx := by
  simp [Instr.indexAt, run_underlying undFs, asIntOf, Instr.sureAddr, hk, Addr.add]
  omega

theorem cellb5 {w : World} {b t : Nat} {F : Nat → Bool} (h : w.heap[b]? = some (.cells #[.bool (F 0), .bool (F 1), .bool (F 2), .bool (F 3), .bool (F 4)] t (0, 0))) {k : Nat} (hk : k < 5) : w.cell? ⟨b, k, none⟩ = some (.bool (F k)) := by
  rw [cell_of_row w b k _ t (0, 0) h]
  match k, hk with
  | 0, _ => rfl
  | 1, _ => rfl
  | 2, _ => rfl
  | 3, _ => rfl
  | 4, _ => rfl

theorem fillF_set {w : World} {b t k : Nat} {F : Nat → Bool} (h : w.heap[b]? = some (.cells #[.bool (fillF F k 0), .bool (fillF F k 1), .bool (fillF F k 2), .bool (fillF F k 3), .bool (fillF F k 4)] t (0, 0))) (hk : k < 5) :
    (w.setCell ⟨b, k, none⟩ (.bool (F k))).heap[b]? = some (.cells #[.bool (fillF F (k + 1) 0), .bool (fillF F (k + 1) 1), .bool (fillF F (k + 1) 2), .bool (fillF F (k + 1) 3), .bool (fillF F (k + 1) 4)] t (0, 0)) := by
  have hs : (w.setCell ⟨b, k, none⟩ (.bool (F k))).heap[b]? = some (.cells ((#[.bool (fillF F k 0), .bool (fillF F k 1), .bool (fillF F k 2), .bool (fillF F k 3), .bool (fillF F k 4)] : Array Value).setIfInBounds k (.bool (F k))) t (0, 0)) := by
    simp only [World.setCell, Array.getElem?_modify, if_true]
    rw [h]; rfl
  rw [hs]
  obtain rfl | rfl | rfl | rfl | rfl : k = 0 ∨ k = 1 ∨ k = 2 ∨ k = 3 ∨ k = 4 := by omega
  all_goals rfl

theorem set5 {w : World} {b t : Nat} {c : Array Value} (hc : c.size = 5) (h : w.heap[b]? = some (.cells c t (0, 0))) (v0 v1 v2 v3 v4 : Value) :
    (((((w.setCell ⟨b, 0, none⟩ v0).setCell ⟨b, 1, none⟩ v1).setCell ⟨b, 2, none⟩ v2).setCell ⟨b, 3, none⟩ v3).setCell ⟨b, 4, none⟩ v4).heap[b]? = some (.cells #[v0, v1, v2, v3, v4] t (0, 0)) := by
  obtain ⟨l⟩ := c
  match l, hc, h with
  | [x0, x1, x2, x3, x4], _, h =>
    simp only [World.setCell, Array.getElem?_modify, if_true]
    rw [h]; rfl

set_option maxHeartbeats 400000 in
theorem i_factors (P : Nat → Int) (w : World) :
    Calls Try.prog 162 #[.agg #[.int .i64 (P 0), .int .i64 (P 1), .int .i64 (P 2), .int .i64 (P 3), .int .i64 (P 4)]] w (NewV w (.agg #[.bool (bF P 0), .bool (bF P 1), .bool (bF P 2), .bool (bF P 3), .bool (bF P 4)])) := by
  go_enter Try.func162, Try.ntmps162
  go_wp2
  go_loopw [7] (fun i wr => ∃ k : Nat, k ≤ 5 ∧ i = .int .i64 k ∧ wr.heap[w.heap.size + 1 + 1]? = some (.cells #[.bool (fillF (bF P) k 0), .bool (fillF (bF P) k 1), .bool (fillF (bF P) k 2), .bool (fillF (bF P) k 3), .bool (fillF (bF P) k 4)] 120 (0, 0)) ∧ wr.heap[w.heap.size + 1]? = some (.cells #[.bool ((fun _ => false) 0), .bool ((fun _ => false) 1), .bool ((fun _ => false) 2), .bool ((fun _ => false) 3), .bool ((fun _ => false) 4)] 120 (0, 0)) ∧ Below w.heap.size w wr) (fun i _ => 5 - (intOf i).toNat)
  case atStart =>
    refine ⟨0, Nat.zero_le _, rfl, ?_, ?_, (((Below.refl _ w).alloc (Nat.le_refl _) _).alloc (by simp) _).alloc (by simp; omega) _⟩
    · have := heap_alloc_new ((w.alloc (.cells #[.int .i64 (P 0), .int .i64 (P 1), .int .i64 (P 2), .int .i64 (P 3), .int .i64 (P 4)] 97)).alloc (.cells #[.bool ((fun _ => false) 0), .bool ((fun _ => false) 1), .bool ((fun _ => false) 2), .bool ((fun _ => false) 3), .bool ((fun _ => false) 4)] 120)) (.cells #[.bool ((fun _ => false) 0), .bool ((fun _ => false) 1), .bool ((fun _ => false) 2), .bool ((fun _ => false) 3), .bool ((fun _ => false) 4)] 120)
      simp only [World.size_alloc] at this
      exact this
    · have := heap_alloc_new (w.alloc (.cells #[.int .i64 (P 0), .int .i64 (P 1), .int .i64 (P 2), .int .i64 (P 3), .int .i64 (P 4)] 97)) (.cells #[.bool ((fun _ => false) 0), .bool ((fun _ => false) 1), .bool ((fun _ => false) 2), .bool ((fun _ => false) 3), .bool ((fun _ => false) 4)] 120)
      simp only [World.size_alloc] at this
      exact (Below.heap_alloc _ _ _ (by simp)).trans this
  case round =>
    obtain ⟨k, hk, rfl, hh, hr, hb⟩ := hrel
    have hsz := hb.size
    have hlt2 : w.heap.size + 1 + 1 < wr.heap.size := (Array.getElem?_eq_some_iff.1 hh).1
    by_cases hlt : k < 5
    · have hi := idx5 P hlt
      have hi2 := idxAtF (w.heap.size + 1 + 1) hlt
      have hc := cellb5 hh hlt
      have hf := frozen5 hh k
      have hst := Lib.hid (fillF_set hh hlt)
      have hrr := Lib.hid ((Below.heap_setCell wr ⟨w.heap.size + 1 + 1, k, none⟩ (.bool (bF P k)) (w.heap.size + 1) (by simp)).trans hr)
      clear hh hr
      go_wp2
      go_roundw
      case rel => exact ⟨k + 1, by omega, by go_num, hst.out, hrr.out, hb.setCell (p := ⟨w.heap.size + 1 + 1, k, none⟩) (by simp; omega) _⟩
      case measure => simp [intOf]; omega
    · have hh : wr.heap[w.heap.size + 1 + 1]? = some (.cells #[.bool (bF P 0), .bool (bF P 1), .bool (bF P 2), .bool (bF P 3), .bool (bF P 4)] 120 (0, 0)) := by
        obtain rfl : k = 5 := by omega
        exact hh
      have c0 := cellb5 hh (k := 0) (by omega)
      have c1 := cellb5 hh (k := 1) (by omega)
      have c2 := cellb5 hh (k := 2) (by omega)
      have c3 := cellb5 hh (k := 3) (by omega)
      have c4 := cellb5 hh (k := 4) (by omega)
      have r0 := cellb5 (F := fun _ => false) hr (k := 0) (by omega)
      have r1 := cellb5 (F := fun _ => false) hr (k := 1) (by omega)
      have r2 := cellb5 (F := fun _ => false) hr (k := 2) (by omega)
      have r3 := cellb5 (F := fun _ => false) hr (k := 3) (by omega)
      have r4 := cellb5 (F := fun _ => false) hr (k := 4) (by omega)
      have f0 := frozen5 hr 0
      have f1 := frozen5 hr 1
      have f2 := frozen5 hr 2
      have f3 := frozen5 hr 3
      have f4 := frozen5 hr 4
      clear hh
      have hr := Lib.hid hr
      go_wp2
      have hW := set5 (by rfl) hr.out (.bool (bF P 0)) (.bool (bF P 1)) (.bool (bF P 2)) (.bool (bF P 3)) (.bool (bF P 4))
      have hbW : Below w.heap.size w (((((wr.setCell ⟨w.heap.size + 1, 0, none⟩ (.bool (bF P 0))).setCell ⟨w.heap.size + 1, 1, none⟩ (.bool (bF P 1))).setCell ⟨w.heap.size + 1, 2, none⟩ (.bool (bF P 2))).setCell ⟨w.heap.size + 1, 3, none⟩ (.bool (bF P 3))).setCell ⟨w.heap.size + 1, 4, none⟩ (.bool (bF P 4))) :=
        ((((hb.setCell (p := ⟨w.heap.size + 1, 0, none⟩) (by simp) _).setCell (p := ⟨w.heap.size + 1, 1, none⟩) (by simp) _).setCell (p := ⟨w.heap.size + 1, 2, none⟩) (by simp) _).setCell (p := ⟨w.heap.size + 1, 3, none⟩) (by simp) _).setCell (p := ⟨w.heap.size + 1, 4, none⟩) (by simp) _
      revert hW hbW
      generalize (((((wr.setCell ⟨w.heap.size + 1, 0, none⟩ (.bool (bF P 0))).setCell ⟨w.heap.size + 1, 1, none⟩ (.bool (bF P 1))).setCell ⟨w.heap.size + 1, 2, none⟩ (.bool (bF P 2))).setCell ⟨w.heap.size + 1, 3, none⟩ (.bool (bF P 3))).setCell ⟨w.heap.size + 1, 4, none⟩ (.bool (bF P 4))) = W5
      intro hW hbW
      have g0 := cellb5 hW (k := 0) (by omega)
      have g1 := cellb5 hW (k := 1) (by omega)
      have g2 := cellb5 hW (k := 2) (by omega)
      have g3 := cellb5 hW (k := 3) (by omega)
      have g4 := cellb5 hW (k := 4) (by omega)
      exact bodyPost_ret (v := .agg #[.bool (bF P 0), .bool (bF P 1), .bool (bF P 2), .bool (bF P 3), .bool (bF P 4)]) (by simp [results, Try.results162, go_sem, g0, g1, g2, g3, g4]) rfl ⟨rfl, hbW⟩

theorem idxAt5o (b o : Nat) {k : Nat} (hk : k < 5) (wx : World) :
    (Instr.indexAt 97 (.pointer (some ⟨b, o, none⟩)) (.int .i64 (k : Int))).run Try.prog wx = .ok (.pointer (some ⟨b, o + k, none⟩)) wx := by
  simp [Instr.indexAt, run_underlying undPat, asIntOf, Instr.sureAddr, hk, Addr.add]
theorem cellbnF {w : World} {b t : Nat} {F : Nat → Bool} {L : Nat → Int} (h : w.heap[b]? = some (.cells #[.bool (F 0), .bool (F 1), .bool (F 2), .bool (F 3), .bool (F 4), .int .i64 (L 0), .int .i64 (L 1), .int .i64 (L 2), .int .i64 (L 3), .int .i64 (L 4)] t (0, 0))) {k : Nat} (hk : k < 5) : w.cell? ⟨b, k, none⟩ = some (.bool (F k)) := by
  rw [cell_of_row w b k _ t (0, 0) h]
  match k, hk with
  | 0, _ => rfl
  | 1, _ => rfl
  | 2, _ => rfl
  | 3, _ => rfl
  | 4, _ => rfl
theorem cellbnL {w : World} {b t : Nat} {F : Nat → Bool} {L : Nat → Int} (h : w.heap[b]? = some (.cells #[.bool (F 0), .bool (F 1), .bool (F 2), .bool (F 3), .bool (F 4), .int .i64 (L 0), .int .i64 (L 1), .int .i64 (L 2), .int .i64 (L 3), .int .i64 (L 4)] t (0, 0))) {k : Nat} (hk : k < 5) : w.cell? ⟨b, 5 + k, none⟩ = some (.int .i64 (L k)) := by
  rw [cell_of_row w b (5 + k) _ t (0, 0) h]
  match k, hk with
  | 0, _ => rfl
  | 1, _ => rfl
  | 2, _ => rfl
  | 3, _ => rfl
  | 4, _ => rfl
/-- the ten cells of a ban -/
theorem cells10 {w : World} {b t : Nat} {F : Nat → Bool} {L : Nat → Int} (h : w.heap[b]? = some (.cells #[.bool (F 0), .bool (F 1), .bool (F 2), .bool (F 3), .bool (F 4), .int .i64 (L 0), .int .i64 (L 1), .int .i64 (L 2), .int .i64 (L 3), .int .i64 (L 4)] t (0, 0))) :
    (w.cell? ⟨b, 0, none⟩ = some (.bool (F 0)) ∧ w.cell? ⟨b, 1, none⟩ = some (.bool (F 1)) ∧ w.cell? ⟨b, 2, none⟩ = some (.bool (F 2)) ∧ w.cell? ⟨b, 3, none⟩ = some (.bool (F 3)) ∧ w.cell? ⟨b, 4, none⟩ = some (.bool (F 4))) ∧
    w.cell? ⟨b, 5, none⟩ = some (.int .i64 (L 0)) ∧ w.cell? ⟨b, 6, none⟩ = some (.int .i64 (L 1)) ∧ w.cell? ⟨b, 7, none⟩ = some (.int .i64 (L 2)) ∧ w.cell? ⟨b, 8, none⟩ = some (.int .i64 (L 3)) ∧ w.cell? ⟨b, 9, none⟩ = some (.int .i64 (L 4)) :=
  ⟨⟨cellbnF h (k := 0) (by omega), cellbnF h (k := 1) (by omega), cellbnF h (k := 2) (by omega), cellbnF h (k := 3) (by omega), cellbnF h (k := 4) (by omega)⟩,
    cellbnL h (k := 0) (by omega), cellbnL h (k := 1) (by omega), cellbnL h (k := 2) (by omega), cellbnL h (k := 3) (by omega), cellbnL h (k := 4) (by omega)⟩
theorem fillL_set {w : World} {b t k : Nat} {F : Nat → Bool} {L : Nat → Int} (h : w.heap[b]? = some (.cells #[.bool (F 0), .bool (F 1), .bool (F 2), .bool (F 3), .bool (F 4), .int .i64 (fillL L k 0), .int .i64 (fillL L k 1), .int .i64 (fillL L k 2), .int .i64 (fillL L k 3), .int .i64 (fillL L k 4)] t (0, 0))) (hk : k < 5) :
    (w.setCell ⟨b, 5 + k, none⟩ (.int .i64 (L k))).heap[b]? = some (.cells #[.bool (F 0), .bool (F 1), .bool (F 2), .bool (F 3), .bool (F 4), .int .i64 (fillL L (k + 1) 0), .int .i64 (fillL L (k + 1) 1), .int .i64 (fillL L (k + 1) 2), .int .i64 (fillL L (k + 1) 3), .int .i64 (fillL L (k + 1) 4)] t (0, 0)) := by
  have hs : (w.setCell ⟨b, 5 + k, none⟩ (.int .i64 (L k))).heap[b]? = some (.cells ((#[.bool (F 0), .bool (F 1), .bool (F 2), .bool (F 3), .bool (F 4), .int .i64 (fillL L k 0), .int .i64 (fillL L k 1), .int .i64 (fillL L k 2), .int .i64 (fillL L k 3), .int .i64 (fillL L k 4)] : Array Value).setIfInBounds (5 + k) (.int .i64 (L k))) t (0, 0)) := by
    simp only [World.setCell, Array.getElem?_modify, if_true]
    rw [h]; rfl
  rw [hs]
  obtain rfl | rfl | rfl | rfl | rfl : k = 0 ∨ k = 1 ∨ k = 2 ∨ k = 3 ∨ k = 4 := by omega
  all_goals rfl
theorem fillL_skip {L : Nat → Int} {k : Nat} (h : L k = 0) (i : Nat) : fillL L (k + 1) i = fillL L k i := by
  unfold fillL
  by_cases h1 : i < k
  · rw [if_pos h1, if_pos (by omega)]
  · by_cases h2 : i = k
    · subst h2; rw [if_pos (by omega), if_neg h1, h]
    · rw [if_neg h1, if_neg (by omega)]
theorem set1 {w : World} {b t k : Nat} {c : Array Value} {fr : Nat × Nat} (h : w.heap[b]? = some (.cells c t fr)) (v : Value) : (w.setCell ⟨b, k, none⟩ v).heap[b]? = some (.cells (c.setIfInBounds k v) t fr) := by
  simp only [World.setCell, Array.getElem?_modify, if_true]
  rw [h]; rfl
theorem set10 {w : World} {b t : Nat} {c : Array Value} (hc : c.size = 10) (h : w.heap[b]? = some (.cells c t (0, 0))) (v0 v1 v2 v3 v4 v5 v6 v7 v8 v9 : Value) :
    ((((((((((w.setCell ⟨b, 0, none⟩ v0).setCell ⟨b, 1, none⟩ v1).setCell ⟨b, 2, none⟩ v2).setCell ⟨b, 3, none⟩ v3).setCell ⟨b, 4, none⟩ v4).setCell ⟨b, 5, none⟩ v5).setCell ⟨b, 6, none⟩ v6).setCell ⟨b, 7, none⟩ v7).setCell ⟨b, 8, none⟩ v8).setCell ⟨b, 9, none⟩ v9).heap[b]? = some (.cells #[v0, v1, v2, v3, v4, v5, v6, v7, v8, v9] t (0, 0)) := by
  rw [set1 (set1 (set1 (set1 (set1 (set1 (set1 (set1 (set1 (set1 h v0) v1) v2) v3) v4) v5) v6) v7) v8) v9]
  obtain ⟨l⟩ := c
  match l, hc with
  | [x0, x1, x2, x3, x4, x5, x6, x7, x8, x9], _ => simp

theorem al4 (w : World) (o0 o1 o2 o3 : Obj) : ((((w.alloc o0).alloc o1).alloc o2).alloc o3).heap[w.heap.size]? = some o0 ∧ ((((w.alloc o0).alloc o1).alloc o2).alloc o3).heap[w.heap.size + 1]? = some o1 ∧ ((((w.alloc o0).alloc o1).alloc o2).alloc o3).heap[w.heap.size + 1 + 1]? = some o2 ∧ ((((w.alloc o0).alloc o1).alloc o2).alloc o3).heap[w.heap.size + 1 + 1 + 1]? = some o3 ∧ Below w.heap.size w ((((w.alloc o0).alloc o1).alloc o2).alloc o3) := by
  have h0 := heap_alloc_new w o0
  have h1 := heap_alloc_new (w.alloc o0) o1
  have h2 := heap_alloc_new ((w.alloc o0).alloc o1) o2
  have h3 := heap_alloc_new (((w.alloc o0).alloc o1).alloc o2) o3
  simp only [World.size_alloc] at h1 h2 h3
  refine ⟨?_, ?_, ?_, h3, (((Below.refl _ w).alloc (Nat.le_refl _) _).alloc (by simp) _).alloc (by simp <;> omega) _ |>.alloc (by simp <;> omega) _⟩
  · rw [Below.heap_alloc _ _ _ (by simp <;> omega), Below.heap_alloc _ _ _ (by simp <;> omega), Below.heap_alloc _ _ _ (by simp)]; exact h0
  · rw [Below.heap_alloc _ _ _ (by simp <;> omega), Below.heap_alloc _ _ _ (by simp)]; exact h1
  · rw [Below.heap_alloc _ _ _ (by simp)]; exact h2
/-- ten cells written: the box, and what lay below -/
theorem set10b {n : Nat} {w0 w : World} {b t : Nat} {c : Array Value} (hB : Below n w0 w) (hn : n ≤ b) (hc : c.size = 10) (h : w.heap[b]? = some (.cells c t (0, 0))) (v0 v1 v2 v3 v4 v5 v6 v7 v8 v9 : Value) :
    ∃ W, W = ((((((((((w.setCell ⟨b, 0, none⟩ v0).setCell ⟨b, 1, none⟩ v1).setCell ⟨b, 2, none⟩ v2).setCell ⟨b, 3, none⟩ v3).setCell ⟨b, 4, none⟩ v4).setCell ⟨b, 5, none⟩ v5).setCell ⟨b, 6, none⟩ v6).setCell ⟨b, 7, none⟩ v7).setCell ⟨b, 8, none⟩ v8).setCell ⟨b, 9, none⟩ v9) ∧ W.heap[b]? = some (.cells #[v0, v1, v2, v3, v4, v5, v6, v7, v8, v9] t (0, 0)) ∧ Below n w0 W :=
  ⟨_, rfl, set10 hc h v0 v1 v2 v3 v4 v5 v6 v7 v8 v9, (((((((((hB.setCell (p := ⟨b, 0, none⟩) hn _).setCell (p := ⟨b, 1, none⟩) hn _).setCell (p := ⟨b, 2, none⟩) hn _).setCell (p := ⟨b, 3, none⟩) hn _).setCell (p := ⟨b, 4, none⟩) hn _).setCell (p := ⟨b, 5, none⟩) hn _).setCell (p := ⟨b, 6, none⟩) hn _).setCell (p := ⟨b, 7, none⟩) hn _).setCell (p := ⟨b, 8, none⟩) hn _).setCell (p := ⟨b, 9, none⟩) hn _⟩
theorem set5b {n : Nat} {w0 w : World} {b t : Nat} {c : Array Value} (hB : Below n w0 w) (hn : n ≤ b) (hc : c.size = 5) (h : w.heap[b]? = some (.cells c t (0, 0))) (v0 v1 v2 v3 v4 : Value) :
    ∃ W, W = (((((w.setCell ⟨b, 0, none⟩ v0).setCell ⟨b, 1, none⟩ v1).setCell ⟨b, 2, none⟩ v2).setCell ⟨b, 3, none⟩ v3).setCell ⟨b, 4, none⟩ v4) ∧ W.heap[b]? = some (.cells #[v0, v1, v2, v3, v4] t (0, 0)) ∧ Below n w0 W :=
  ⟨_, rfl, set5 hc h v0 v1 v2 v3 v4, ((((hB.setCell (p := ⟨b, 0, none⟩) hn _).setCell (p := ⟨b, 1, none⟩) hn _).setCell (p := ⟨b, 2, none⟩) hn _).setCell (p := ⟨b, 3, none⟩) hn _).setCell (p := ⟨b, 4, none⟩) hn _⟩

set_option maxHeartbeats 400000 in
theorem i_banAt (F : Nat → Bool) (P : Nat → Int) (w : World) :
    Calls Try.prog 223 #[.agg #[.bool (F 0), .bool (F 1), .bool (F 2), .bool (F 3), .bool (F 4)], .agg #[.int .i64 (P 0), .int .i64 (P 1), .int .i64 (P 2), .int .i64 (P 3), .int .i64 (P 4)]] w (NewV w (.agg #[.bool (F 0), .bool (F 1), .bool (F 2), .bool (F 3), .bool (F 4), .int .i64 (bnL F P 0), .int .i64 (bnL F P 1), .int .i64 (bnL F P 2), .int .i64 (bnL F P 3), .int .i64 (bnL F P 4)])) := by
  go_enter Try.func223, Try.ntmps223
  go_wp2
  go_loopw [11] (fun i wr => ∃ k : Nat, k ≤ 5 ∧ i = .int .i64 k ∧ wr.heap[w.heap.size + 1 + 1 + 1]? = some (.cells #[.bool (F 0), .bool (F 1), .bool (F 2), .bool (F 3), .bool (F 4), .int .i64 (fillL (bnL F P) k 0), .int .i64 (fillL (bnL F P) k 1), .int .i64 (fillL (bnL F P) k 2), .int .i64 (fillL (bnL F P) k 3), .int .i64 (fillL (bnL F P) k 4)] 150 (0, 0)) ∧ wr.heap[w.heap.size + 1 + 1]? = some (.cells #[.bool ((fun _ => false) 0), .bool ((fun _ => false) 1), .bool ((fun _ => false) 2), .bool ((fun _ => false) 3), .bool ((fun _ => false) 4), .int .i64 ((fun _ => 0) 0), .int .i64 ((fun _ => 0) 1), .int .i64 ((fun _ => 0) 2), .int .i64 ((fun _ => 0) 3), .int .i64 ((fun _ => 0) 4)] 150 (0, 0)) ∧ wr.heap[w.heap.size]? = some (.cells #[.bool (F 0), .bool (F 1), .bool (F 2), .bool (F 3), .bool (F 4)] 120 (0, 0)) ∧ Below w.heap.size w wr) (fun i _ => 5 - (intOf i).toNat)
  case atStart =>
    obtain ⟨a0, a1, a2, a3, ab⟩ := al4 w (.cells #[.bool (F 0), .bool (F 1), .bool (F 2), .bool (F 3), .bool (F 4)] 120) (.cells #[.int .i64 (P 0), .int .i64 (P 1), .int .i64 (P 2), .int .i64 (P 3), .int .i64 (P 4)] 97) (.cells #[.bool ((fun _ => false) 0), .bool ((fun _ => false) 1), .bool ((fun _ => false) 2), .bool ((fun _ => false) 3), .bool ((fun _ => false) 4), .int .i64 ((fun _ => 0) 0), .int .i64 ((fun _ => 0) 1), .int .i64 ((fun _ => 0) 2), .int .i64 ((fun _ => 0) 3), .int .i64 ((fun _ => 0) 4)] 150) (.cells #[.bool (F 0), .bool (F 1), .bool (F 2), .bool (F 3), .bool (F 4), .int .i64 ((fun _ => 0) 0), .int .i64 ((fun _ => 0) 1), .int .i64 ((fun _ => 0) 2), .int .i64 ((fun _ => 0) 3), .int .i64 ((fun _ => 0) 4)] 150)
    exact ⟨0, Nat.zero_le _, rfl, a3, a2, a0, ab⟩
  case round =>
    obtain ⟨k, hk, rfl, hh, hr, h0, hb⟩ := hrel
    have hsz := hb.size
    have hlt2 : w.heap.size + 1 + 1 + 1 < wr.heap.size := (Array.getElem?_eq_some_iff.1 hh).1
    by_cases hlt : k < 5
    · have hi := idx5 P hlt
      have hi2 := idxAtF w.heap.size hlt
      have hi3 := idxAt5o (w.heap.size + 1 + 1 + 1) 5 hlt
      have hcF := cellb5 h0 hlt
      have hc := cellbnL hh hlt
      have hf := frozen5 hh (5 + k)
      cases hF : F k
      · have HK := Lib.hid (fillL_skip (L := bnL F P) (k := k) (by unfold bnL; rw [hF]; rfl))
        rw [hF] at hcF
        clear hF
        have hhH := Lib.hid hh; have hrH := Lib.hid hr; have h0H := Lib.hid h0
        clear hh hr h0
        go_wp2
        go_roundw
        case rel => exact ⟨k + 1, by omega, by go_num, by simp only [HK.out]; exact hhH.out, hrH.out, h0H.out, hb⟩
        case measure => simp [intOf]; omega
      · have hst := Lib.hid (fillL_set hh hlt)
        have HF := Lib.hid (show bnL F P k = P k by unfold bnL; rw [hF]; rfl)
        have hrr := Lib.hid ((Below.heap_setCell wr ⟨w.heap.size + 1 + 1 + 1, 5 + k, none⟩ (.int .i64 (P k)) (w.heap.size + 1 + 1) (by simp)).trans hr)
        have h00 := Lib.hid ((Below.heap_setCell wr ⟨w.heap.size + 1 + 1 + 1, 5 + k, none⟩ (.int .i64 (P k)) (w.heap.size) (by simp; omega)).trans h0)
        rw [hF] at hcF
        rw [HF.out] at hst
        clear hF hh hr h0
        go_wp2
        go_roundw
        case rel => exact ⟨k + 1, by omega, by go_num, hst.out, hrr.out, h00.out, hb.setCell (p := ⟨w.heap.size + 1 + 1 + 1, 5 + k, none⟩) (by simp; omega) _⟩
        case measure => simp [intOf]; omega
    · have hh : wr.heap[w.heap.size + 1 + 1 + 1]? = some (.cells #[.bool (F 0), .bool (F 1), .bool (F 2), .bool (F 3), .bool (F 4), .int .i64 (bnL F P 0), .int .i64 (bnL F P 1), .int .i64 (bnL F P 2), .int .i64 (bnL F P 3), .int .i64 (bnL F P 4)] 150 (0, 0)) := by
        obtain rfl : k = 5 := by omega
        exact hh
      obtain ⟨⟨c0, c1, c2, c3, c4⟩, c5, c6, c7, c8, c9⟩ := cells10 hh
      obtain ⟨⟨r0, r1, r2, r3, r4⟩, r5, r6, r7, r8, r9⟩ := cells10 (F := fun _ => false) (L := fun _ => 0) hr
      have f0 := frozen5 hr 0
      have f1 := frozen5 hr 1
      have f2 := frozen5 hr 2
      have f3 := frozen5 hr 3
      have f4 := frozen5 hr 4
      have f5 := frozen5 hr 5
      have f6 := frozen5 hr 6
      have f7 := frozen5 hr 7
      have f8 := frozen5 hr 8
      have f9 := frozen5 hr 9
      have hr := Lib.hid hr
      clear hh h0
      go_wp2
      obtain ⟨W, hWe, hW, hbW⟩ := set10b hb (by omega) (by rfl) hr.out (.bool (F 0)) (.bool (F 1)) (.bool (F 2)) (.bool (F 3)) (.bool (F 4)) (.int .i64 (bnL F P 0)) (.int .i64 (bnL F P 1)) (.int .i64 (bnL F P 2)) (.int .i64 (bnL F P 3)) (.int .i64 (bnL F P 4))
      rw [← hWe]
      obtain ⟨fs, hu⟩ := undBan
      exact bodyPost_ret (v := .agg #[.bool (F 0), .bool (F 1), .bool (F 2), .bool (F 3), .bool (F 4), .int .i64 (bnL F P 0), .int .i64 (bnL F P 1), .int .i64 (bnL F P 2), .int .i64 (bnL F P 3), .int .i64 (bnL F P 4)]) (results_cell_row Try.results223 _ _ _ _ _ (0, 0) (.struct fs) rfl hW hu rfl infoBan) rfl ⟨rfl, hbW⟩

def eq5 (a b : Nat → Int) : Bool := (List.range 5).all fun i => a i == b i
def eqb5 (a b : Nat → Bool) : Bool := (List.range 5).all fun i => a i == b i
theorem eq5_lit (a b : Nat → Int) : eq5 a b = (a 0 == b 0 && (a 1 == b 1 && (a 2 == b 2 && (a 3 == b 3 && a 4 == b 4)))) := by
  simp [eq5, List.range, List.range.loop]
theorem eqb5_self (a : Nat → Bool) : eqb5 a a = true := by simp [eqb5]

theorem eqArrI (d : Nat) (a b : Nat → Int) (w : World) : (Op.equalIn (d + 2) 97 (.agg #[.int .i64 (a 0), .int .i64 (a 1), .int .i64 (a 2), .int .i64 (a 3), .int .i64 (a 4)]) (.agg #[.int .i64 (b 0), .int .i64 (b 1), .int .i64 (b 2), .int .i64 (b 3), .int .i64 (b 4)])).run Try.prog w = .ok (eq5 a b) w := by
  have u3 := Try.underlying3
  have a3 := Try.isAgg3
  have z3 := Try.sizeOf3
  rw [Op.equalIn]
  simp only [Sem.run_bind, run_underlying undPat, Result.andThen_ok]
  simp only [Std.Legacy.Range.forIn_eq_forIn_range', Std.Legacy.Range.size, Nat.sub_zero, Nat.add_sub_cancel, Nat.div_one, List.range'_succ, List.range'_zero, List.forIn_cons, List.forIn_nil]
  go_simp
  rw [eq5_lit]
  by_cases h0 : a 0 = b 0
  case neg => simp [h0]
  by_cases h1 : a 1 = b 1
  case neg => simp [h0, h1]
  by_cases h2 : a 2 = b 2
  case neg => simp [h0, h1, h2]
  by_cases h3 : a 3 = b 3
  case neg => simp [h0, h1, h2, h3]
  by_cases h4 : a 4 = b 4
  case neg => simp [h0, h1, h2, h3, h4]
  simp [h0, h1, h2, h3, h4]
theorem eqArrB (d : Nat) (a : Nat → Bool) (w : World) : (Op.equalIn (d + 2) 120 (.agg #[.bool (a 0), .bool (a 1), .bool (a 2), .bool (a 3), .bool (a 4)]) (.agg #[.bool (a 0), .bool (a 1), .bool (a 2), .bool (a 3), .bool (a 4)])).run Try.prog w = .ok true w := by
  have u3 := Try.underlying4
  have a3 := Try.isAgg4
  have z3 := Try.sizeOf4
  rw [Op.equalIn]
  simp only [Sem.run_bind, run_underlying undFs, Result.andThen_ok]
  simp only [Std.Legacy.Range.forIn_eq_forIn_range', Std.Legacy.Range.size, Nat.sub_zero, Nat.add_sub_cancel, Nat.div_one, List.range'_succ, List.range'_zero, List.forIn_cons, List.forIn_nil]
  go_simp
theorem eqBan (F : Nat → Bool) (a b : Nat → Int) (w : World) : (Op.equalIn 10000 150 (.agg #[.bool (F 0), .bool (F 1), .bool (F 2), .bool (F 3), .bool (F 4), .int .i64 (a 0), .int .i64 (a 1), .int .i64 (a 2), .int .i64 (a 3), .int .i64 (a 4)]) (.agg #[.bool (F 0), .bool (F 1), .bool (F 2), .bool (F 3), .bool (F 4), .int .i64 (b 0), .int .i64 (b 1), .int .i64 (b 2), .int .i64 (b 3), .int .i64 (b 4)])).run Try.prog w = .ok (eq5 a b) w := by
  have u3 := Try.underlying3
  have a3 := Try.isAgg3
  have z3 := Try.sizeOf3
  have hS : Try.prog.underlying 150 = some (.struct (Try.prog.fieldsOf 150)) := by kernel_rfl
  have hp : Try.prog.stoodInHeld 150 = false := by kernel_rfl
  have e1 := eqArrB 9997 F w
  have e2 := eqArrI 9997 a b w
  rw [show (10000 : Nat) = 9999 + 1 from rfl, run_equalIn_agg w 9999 150 _ _ hS hp]
  simp only [Program.fieldsOf, Try.underlying150]
  go_simp
  cases eq5 a b <;> rfl

/- Walks: whether a ban is met; the forbidding of a pattern. -/
open Go.RowKit

theorem al2 (w : World) (o0 o1 : Obj) : ((w.alloc o0).alloc o1).heap[w.heap.size]? = some o0 ∧ ((w.alloc o0).alloc o1).heap[w.heap.size + 1]? = some o1 ∧ Below w.heap.size w ((w.alloc o0).alloc o1) := by
  have h0 := heap_alloc_new w o0
  have h1 := heap_alloc_new (w.alloc o0) o1
  simp only [World.size_alloc] at h1
  refine ⟨?_, h1, ((Below.refl _ w).alloc (Nat.le_refl _) _).alloc (by simp) _⟩
  rw [Below.heap_alloc _ _ _ (by simp)]; exact h0

set_option maxHeartbeats 400000 in
theorem i_isIn (F : Nat → Bool) (L P : Nat → Int) (w : World) :
    Calls Try.prog 231 #[.agg #[.bool (F 0), .bool (F 1), .bool (F 2), .bool (F 3), .bool (F 4), .int .i64 (L 0), .int .i64 (L 1), .int .i64 (L 2), .int .i64 (L 3), .int .i64 (L 4)], .agg #[.int .i64 (P 0), .int .i64 (P 1), .int .i64 (P 2), .int .i64 (P 3), .int .i64 (P 4)]] w (NewV w (.bool (eq5 (bnL F P) L))) := by
  have heq := eqBan F (bnL F P) L
  obtain ⟨A0, _, AB⟩ := al2 w (.cells #[.bool (F 0), .bool (F 1), .bool (F 2), .bool (F 3), .bool (F 4), .int .i64 (L 0), .int .i64 (L 1), .int .i64 (L 2), .int .i64 (L 3), .int .i64 (L 4)] 150) (.cells #[.int .i64 (P 0), .int .i64 (P 1), .int .i64 (P 2), .int .i64 (P 3), .int .i64 (P 4)] 97)
  replace A0 := Lib.hid A0
  replace AB := Lib.hid AB
  go_enter Try.func231, Try.ntmps231
  go_wp2_with fail
  go_region_with (go_at_call 223; refine (i_banAt F P _).mono ?_; rintro e w1 ⟨rfl, hb1⟩; obtain ⟨⟨g0, g1, g2, g3, g4⟩, g5, g6, g7, g8, g9⟩ := cells10 ((hb1.block w.heap.size (by simp; omega)).trans A0.out))
  all_goals go_wp2
  all_goals go_ret
  all_goals (first | exact ⟨rfl, AB.out.drew.trans (hb1.mono (B' := w.heap.size) (by simp; omega))⟩ | exact ⟨rfl, AB.out.trans (hb1.mono (B' := w.heap.size) (by simp; omega))⟩)

/-- the closure of forbid: the pattern lies in a box -/
theorem i_forbid1 (F : Nat → Bool) (L P : Nat → Int) (b : Nat) (w : World) (hp : w.heap[b]? = some (.cells #[.int .i64 (P 0), .int .i64 (P 1), .int .i64 (P 2), .int .i64 (P 3), .int .i64 (P 4)] 97 (0, 0))) :
    Calls Try.prog 230 #[.agg #[.bool (F 0), .bool (F 1), .bool (F 2), .bool (F 3), .bool (F 4), .int .i64 (L 0), .int .i64 (L 1), .int .i64 (L 2), .int .i64 (L 3), .int .i64 (L 4)], .pointer (some ⟨b, 0, none⟩)] w (NewV w (.bool (eq5 (bnL F P) L))) := by
  have hlt : b < w.heap.size := (Array.getElem?_eq_some_iff.1 hp).1
  have hA := heap_alloc_new w (.cells #[.bool (F 0), .bool (F 1), .bool (F 2), .bool (F 3), .bool (F 4), .int .i64 (L 0), .int .i64 (L 1), .int .i64 (L 2), .int .i64 (L 3), .int .i64 (L 4)] 150)
  obtain ⟨⟨g0, g1, g2, g3, g4⟩, g5, g6, g7, g8, g9⟩ := cells10 hA
  obtain ⟨p0, p1, p2, p3, p4⟩ := cells5' ((Below.heap_alloc w (.cells #[.bool (F 0), .bool (F 1), .bool (F 2), .bool (F 3), .bool (F 4), .int .i64 (L 0), .int .i64 (L 1), .int .i64 (L 2), .int .i64 (L 3), .int .i64 (L 4)] 150) b hlt).trans hp)
  clear hp hA
  go_enter Try.func230, Try.ntmps230
  go_wp2_with fail
  refine (i_isIn F L P _).mono ?_
  rintro e w1 ⟨rfl, hb1⟩
  go_wp2
  go_ret
  exact ⟨rfl, ((Below.refl _ w).alloc (Nat.le_refl _) _).trans (hb1.mono (by simp))⟩

end Go.Proofs.Ytehoagbpgahopaa
