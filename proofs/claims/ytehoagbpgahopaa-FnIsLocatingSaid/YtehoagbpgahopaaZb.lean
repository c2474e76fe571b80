/- Walks: a ban as a value, and whether a pattern has its levels. -/
import Derived.Test.YtehoagbpgahopaaWu
import Derived.Test.YtehoagbpgahopaaZm
import Derived.Laws.StructEq
import Derived.OrdersHeld
import Derived.Deep.RegionHeld3
import Derived.ScopeJumps
import Derived.Test.YtehoagbpgahopaaMath
import Derived.Test.YtehoagbpgahopaaOh
import Derived.Test.YtehoagbpgahopaaOwnP
import Derived.Test.YtehoagbpgahopaaWg
namespace Go.Proofs.Ytehoagbpgahopaa
open Go.RowKit

def bF (P : Nat → Int) (i : Nat) : Bool := P i != -1
def bnL (F : Nat → Bool) (P : Nat → Int) (i : Nat) : Int := if F i then P i else 0
def fillF (F : Nat → Bool) (k i : Nat) : Bool := if i < k then F i else false
def fillL (L : Nat → Int) (k i : Nat) : Int := if i < k then L i else 0
theorem wideBan : (match Try.prog.underlying 150 with | some (.struct _) => true | _ => false) = true := by kernel_rfl
theorem undBan : ∃ fs, Try.prog.underlying 150 = some (.struct fs) := by
  have h := wideBan
  cases hu : Try.prog.underlying 150 with
  | none => rw [hu] at h; cases h
  | some d => rw [hu] at h; cases d <;> first | exact ⟨_, rfl⟩ | (cases h)
theorem infoBan : (Try.prog.info? 150).map (·.size) = some 10 := by kernel_rfl
theorem undFs : Try.prog.underlying 120 = some (.array 5 4) := by kernel_rfl
theorem idxAtF (b : Nat) {k : Nat} (hk : k < 5) (wx : World) :
    (Instr.indexAt 120 (.pointer (some ⟨b, 0, none⟩)) (.int .i64 (k : Int))).run Try.prog wx = .ok (.pointer (some ⟨b, k, none⟩)) wx := by
  simp [Instr.indexAt, run_underlying undFs, asIntOf, Instr.sureAddr, hk, Addr.add]
  omega

theorem cellb5 {w : World} {b t : Nat} {F : Nat → Bool} (h : w.heap[b]? = some (.cells #[.bool (F 0), .bool (F 1), .bool (F 2), .bool (F 3), .bool (F 4)] t (0, 0))) {k : Nat} (hk : k < 5) : w.cell? ⟨b, k, none⟩ = some (.bool (F k)) := by
  rw [cell_of_row w b k _ t (0, 0) h]
  match k, hk with
  | 0, _ => rfl
  | 1, _ => rfl
  | 2, _ => rfl
  | 3, _ => rfl
  | 4, _ => rfl

theorem fillF_set {w : World} {b t k : Nat} {F : Nat → Bool} (h : w.heap[b]? = some (.cells #[.bool (fillF F k 0), .bool (fillF F k 1), .bool (fillF F k 2), .bool (fillF F k 3), .bool (fillF F k 4)] t (0, 0))) (hk : k < 5) :
    (w.setCell ⟨b, k, none⟩ (.bool (F k))).heap[b]? = some (.cells #[.bool (fillF F (k + 1) 0), .bool (fillF F (k + 1) 1), .bool (fillF F (k + 1) 2), .bool (fillF F (k + 1) 3), .bool (fillF F (k + 1) 4)] t (0, 0)) := by
  have hs : (w.setCell ⟨b, k, none⟩ (.bool (F k))).heap[b]? = some (.cells ((#[.bool (fillF F k 0), .bool (fillF F k 1), .bool (fillF F k 2), .bool (fillF F k 3), .bool (fillF F k 4)] : Array Value).setIfInBounds k (.bool (F k))) t (0, 0)) := by
    simp only [World.setCell, Array.getElem?_modify, if_true]
    rw [h]; rfl
  rw [hs]
  obtain rfl | rfl | rfl | rfl | rfl : k = 0 ∨ k = 1 ∨ k = 2 ∨ k = 3 ∨ k = 4 := by omega
  all_goals rfl

theorem set5 {w : World} {b t : Nat} {c : Array Value} (hc : c.size = 5) (h : w.heap[b]? = some (.cells c t (0, 0))) (v0 v1 v2 v3 v4 : Value) :
    (((((w.setCell ⟨b, 0, none⟩ v0).setCell ⟨b, 1, none⟩ v1).setCell ⟨b, 2, none⟩ v2).setCell ⟨b, 3, none⟩ v3).setCell ⟨b, 4, none⟩ v4).heap[b]? = some (.cells #[v0, v1, v2, v3, v4] t (0, 0)) := by
  obtain ⟨l⟩ := c
  match l, hc, h with
  | [x0, x1, x2, x3, x4], _, h =>
    simp only [World.setCell, Array.getElem?_modify, if_true]
    rw [h]; rfl

set_option maxHeartbeats 400000 in
theorem i_factors (P : Nat → Int) (w : World) :
    Calls Try.prog 162 #[.agg #[.int .i64 (P 0), .int .i64 (P 1), .int .i64 (P 2), .int .i64 (P 3), .int .i64 (P 4)]] w (NewV w (.agg #[.bool (bF P 0), .bool (bF P 1), .bool (bF P 2), .bool (bF P 3), .bool (bF P 4)])) := by
  go_enter Try.func162, Try.ntmps162
  go_wp2
  go_loopw [7] (fun i wr => ∃ k : Nat, k ≤ 5 ∧ i = .int .i64 k ∧ wr.heap[w.heap.size + 1 + 1]? = some (.cells #[.bool (fillF (bF P) k 0), .bool (fillF (bF P) k 1), .bool (fillF (bF P) k 2), .bool (fillF (bF P) k 3), .bool (fillF (bF P) k 4)] 120 (0, 0)) ∧ wr.heap[w.heap.size + 1]? = some (.cells #[.bool ((fun _ => false) 0), .bool ((fun _ => false) 1), .bool ((fun _ => false) 2), .bool ((fun _ => false) 3), .bool ((fun _ => false) 4)] 120 (0, 0)) ∧ Below w.heap.size w wr) (fun i _ => 5 - (intOf i).toNat)
  case atStart =>
    refine ⟨0, Nat.zero_le _, rfl, ?_, ?_, (((Below.refl _ w).alloc (Nat.le_refl _) _).alloc (by simp) _).alloc (by simp; omega) _⟩
    · have := heap_alloc_new ((w.alloc (.cells #[.int .i64 (P 0), .int .i64 (P 1), .int .i64 (P 2), .int .i64 (P 3), .int .i64 (P 4)] 97)).alloc (.cells #[.bool ((fun _ => false) 0), .bool ((fun _ => false) 1), .bool ((fun _ => false) 2), .bool ((fun _ => false) 3), .bool ((fun _ => false) 4)] 120)) (.cells #[.bool ((fun _ => false) 0), .bool ((fun _ => false) 1), .bool ((fun _ => false) 2), .bool ((fun _ => false) 3), .bool ((fun _ => false) 4)] 120)
      simp only [World.size_alloc] at this
      exact this
    · have := heap_alloc_new (w.alloc (.cells #[.int .i64 (P 0), .int .i64 (P 1), .int .i64 (P 2), .int .i64 (P 3), .int .i64 (P 4)] 97)) (.cells #[.bool ((fun _ => false) 0), .bool ((fun _ => false) 1), .bool ((fun _ => false) 2), .bool ((fun _ => false) 3), .bool ((fun _ => false) 4)] 120)
      simp only [World.size_alloc] at this
      exact (Below.heap_alloc _ _ _ (by simp)).trans this
  case round =>
    obtain ⟨k, hk, rfl, hh, hr, hb⟩ := hrel
    have hsz := hb.size
    have hlt2 : w.heap.size + 1 + 1 < wr.heap.size := (Array.getElem?_eq_some_iff.1 hh).1
    by_cases hlt : k < 5
    · have hi := idx5 P hlt
      have hi2 := idxAtF (w.heap.size + 1 + 1) hlt
      have hc := cellb5 hh hlt
      have hf := frozen5 hh k
      have hst := Lib.hid (fillF_set hh hlt)
      have hrr := Lib.hid ((Below.heap_setCell wr ⟨w.heap.size + 1 + 1, k, none⟩ (.bool (bF P k)) (w.heap.size + 1) (by simp)).trans hr)
      clear hh hr
      go_wp2
      go_roundw
      case rel => exact ⟨k + 1, by omega, by go_num, hst.out, hrr.out, hb.setCell (p := ⟨w.heap.size + 1 + 1, k, none⟩) (by simp; omega) _⟩
      case measure => simp [intOf]; omega
    · have hh : wr.heap[w.heap.size + 1 + 1]? = some (.cells #[.bool (bF P 0), .bool (bF P 1), .bool (bF P 2), .bool (bF P 3), .bool (bF P 4)] 120 (0, 0)) := by
        obtain rfl : k = 5 := by omega
        exact hh
      have c0 := cellb5 hh (k := 0) (by omega)
      have c1 := cellb5 hh (k := 1) (by omega)
      have c2 := cellb5 hh (k := 2) (by omega)
      have c3 := cellb5 hh (k := 3) (by omega)
      have c4 := cellb5 hh (k := 4) (by omega)
      have r0 := cellb5 (F := fun _ => false) hr (k := 0) (by omega)
      have r1 := cellb5 (F := fun _ => false) hr (k := 1) (by omega)
      have r2 := cellb5 (F := fun _ => false) hr (k := 2) (by omega)
      have r3 := cellb5 (F := fun _ => false) hr (k := 3) (by omega)
      have r4 := cellb5 (F := fun _ => false) hr (k := 4) (by omega)
      have f0 := frozen5 hr 0
      have f1 := frozen5 hr 1
      have f2 := frozen5 hr 2
      have f3 := frozen5 hr 3
      have f4 := frozen5 hr 4
      clear hh
      have hr := Lib.hid hr
      go_wp2
      have hW := set5 (by rfl) hr.out (.bool (bF P 0)) (.bool (bF P 1)) (.bool (bF P 2)) (.bool (bF P 3)) (.bool (bF P 4))
      have hbW : Below w.heap.size w (((((wr.setCell ⟨w.heap.size + 1, 0, none⟩ (.bool (bF P 0))).setCell ⟨w.heap.size + 1, 1, none⟩ (.bool (bF P 1))).setCell ⟨w.heap.size + 1, 2, none⟩ (.bool (bF P 2))).setCell ⟨w.heap.size + 1, 3, none⟩ (.bool (bF P 3))).setCell ⟨w.heap.size + 1, 4, none⟩ (.bool (bF P 4))) :=
        ((((hb.setCell (p := ⟨w.heap.size + 1, 0, none⟩) (by simp) _).setCell (p := ⟨w.heap.size + 1, 1, none⟩) (by simp) _).setCell (p := ⟨w.heap.size + 1, 2, none⟩) (by simp) _).setCell (p := ⟨w.heap.size + 1, 3, none⟩) (by simp) _).setCell (p := ⟨w.heap.size + 1, 4, none⟩) (by simp) _
      revert hW hbW
      generalize (((((wr.setCell ⟨w.heap.size + 1, 0, none⟩ (.bool (bF P 0))).setCell ⟨w.heap.size + 1, 1, none⟩ (.bool (bF P 1))).setCell ⟨w.heap.size + 1, 2, none⟩ (.bool (bF P 2))).setCell ⟨w.heap.size + 1, 3, none⟩ (.bool (bF P 3))).setCell ⟨w.heap.size + 1, 4, none⟩ (.bool (bF P 4))) = W5
      intro hW hbW
      have g0 := cellb5 hW (k := 0) (by omega)
      have g1 := cellb5 hW (k := 1) (by omega)
      have g2 := cellb5 hW (k := 2) (by omega)
      have g3 := cellb5 hW (k := 3) (by omega)
      have g4 := cellb5 hW (k := 4) (by omega)
      exact bodyPost_ret (v := .agg #[.bool (bF P 0), .bool (bF P 1), .bool (bF P 2), .bool (bF P 3), .bool (bF P 4)]) (by simp [results, Try.results162, go_sem, g0, g1, g2, g3, g4]) rfl ⟨rfl, hbW⟩

theorem idxAt5o (b o : Nat) {k : Nat} (hk : k < 5) (wx : World) :
    (Instr.indexAt 97 (.pointer (some ⟨b, o, none⟩)) (.int .i64 (k : Int))).run Try.prog wx = .ok (.pointer (some ⟨b, o + k, none⟩)) wx := by
  simp [Instr.indexAt, run_underlying undPat, asIntOf, Instr.sureAddr, hk, Addr.add]
theorem cellbnF {w : World} {b t : Nat} {F : Nat → Bool} {L : Nat → Int} (h : w.heap[b]? = some (.cells #[.bool (F 0), .bool (F 1), .bool (F 2), .bool (F 3), .bool (F 4), .int .i64 (L 0), .int .i64 (L 1), .int .i64 (L 2), .int .i64 (L 3), .int .i64 (L 4)] t (0, 0))) {k : Nat} (hk : k < 5) : w.cell? ⟨b, k, none⟩ = some (.bool (F k)) := by
  rw [cell_of_row w b k _ t (0, 0) h]
  match k, hk with
  | 0, _ => rfl
  | 1, _ => rfl
  | 2, _ => rfl
  | 3, _ => rfl
  | 4, _ => rfl
theorem cellbnL {w : World} {b t : Nat} {F : Nat → Bool} {L : Nat → Int} (h : w.heap[b]? = some (.cells #[.bool (F 0), .bool (F 1), .bool (F 2), .bool (F 3), .bool (F 4), .int .i64 (L 0), .int .i64 (L 1), .int .i64 (L 2), .int .i64 (L 3), .int .i64 (L 4)] t (0, 0))) {k : Nat} (hk : k < 5) : w.cell? ⟨b, 5 + k, none⟩ = some (.int .i64 (L k)) := by
  rw [cell_of_row w b (5 + k) _ t (0, 0) h]
  match k, hk with
  | 0, _ => rfl
  | 1, _ => rfl
  | 2, _ => rfl
  | 3, _ => rfl
  | 4, _ => rfl
/-- the ten cells of a ban -/
theorem cells10 {w : World} {b t : Nat} {F : Nat → Bool} {L : Nat → Int} (h : w.heap[b]? = some (.cells #[.bool (F 0), .bool (F 1), .bool (F 2), .bool (F 3), .bool (F 4), .int .i64 (L 0), .int .i64 (L 1), .int .i64 (L 2), .int .i64 (L 3), .int .i64 (L 4)] t (0, 0))) :
    (w.cell? ⟨b, 0, none⟩ = some (.bool (F 0)) ∧ w.cell? ⟨b, 1, none⟩ = some (.bool (F 1)) ∧ w.cell? ⟨b, 2, none⟩ = some (.bool (F 2)) ∧ w.cell? ⟨b, 3, none⟩ = some (.bool (F 3)) ∧ w.cell? ⟨b, 4, none⟩ = some (.bool (F 4))) ∧
    w.cell? ⟨b, 5, none⟩ = some (.int .i64 (L 0)) ∧ w.cell? ⟨b, 6, none⟩ = some (.int .i64 (L 1)) ∧ w.cell? ⟨b, 7, none⟩ = some (.int .i64 (L 2)) ∧ w.cell? ⟨b, 8, none⟩ = some (.int .i64 (L 3)) ∧ w.cell? ⟨b, 9, none⟩ = some (.int .i64 (L 4)) :=
  ⟨⟨cellbnF h (k := 0) (by omega), cellbnF h (k := 1) (by omega), cellbnF h (k := 2) (by omega), cellbnF h (k := 3) (by omega), cellbnF h (k := 4) (by omega)⟩,
    cellbnL h (k := 0) (by omega), cellbnL h (k := 1) (by omega), cellbnL h (k := 2) (by omega), cellbnL h (k := 3) (by omega), cellbnL h (k := 4) (by omega)⟩
theorem fillL_set {w : World} {b t k : Nat} {F : Nat → Bool} {L : Nat → Int} (h : w.heap[b]? = some (.cells #[.bool (F 0), .bool (F 1), .bool (F 2), .bool (F 3), .bool (F 4), .int .i64 (fillL L k 0), .int .i64 (fillL L k 1), .int .i64 (fillL L k 2), .int .i64 (fillL L k 3), .int .i64 (fillL L k 4)] t (0, 0))) (hk : k < 5) :
    (w.setCell ⟨b, 5 + k, none⟩ (.int .i64 (L k))).heap[b]? = some (.cells #[.bool (F 0), .bool (F 1), .bool (F 2), .bool (F 3), .bool (F 4), .int .i64 (fillL L (k + 1) 0), .int .i64 (fillL L (k + 1) 1), .int .i64 (fillL L (k + 1) 2), .int .i64 (fillL L (k + 1) 3), .int .i64 (fillL L (k + 1) 4)] t (0, 0)) := by
  have hs : (w.setCell ⟨b, 5 + k, none⟩ (.int .i64 (L k))).heap[b]? = some (.cells ((#[.bool (F 0), .bool (F 1), .bool (F 2), .bool (F 3), .bool (F 4), .int .i64 (fillL L k 0), .int .i64 (fillL L k 1), .int .i64 (fillL L k 2), .int .i64 (fillL L k 3), .int .i64 (fillL L k 4)] : Array Value).setIfInBounds (5 + k) (.int .i64 (L k))) t (0, 0)) := by
    simp only [World.setCell, Array.getElem?_modify, if_true]
    rw [h]; rfl
  rw [hs]
  obtain rfl | rfl | rfl | rfl | rfl : k = 0 ∨ k = 1 ∨ k = 2 ∨ k = 3 ∨ k = 4 := by omega
  all_goals rfl
theorem fillL_skip {L : Nat → Int} {k : Nat} (h : L k = 0) (i : Nat) : fillL L (k + 1) i = fillL L k i := by
  unfold fillL
  by_cases h1 : i < k
  · rw [if_pos h1, if_pos (by omega)]
  · by_cases h2 : i = k
    · subst h2; rw [if_pos (by omega), if_neg h1, h]
    · rw [if_neg h1, if_neg (by omega)]
theorem set1 {w : World} {b t k : Nat} {c : Array Value} {fr : Nat × Nat} (h : w.heap[b]? = some (.cells c t fr)) (v : Value) : (w.setCell ⟨b, k, none⟩ v).heap[b]? = some (.cells (c.setIfInBounds k v) t fr) := by
  simp only [World.setCell, Array.getElem?_modify, if_true]
  rw [h]; rfl
theorem set10 {w : World} {b t : Nat} {c : Array Value} (hc : c.size = 10) (h : w.heap[b]? = some (.cells c t (0, 0))) (v0 v1 v2 v3 v4 v5 v6 v7 v8 v9 : Value) :
    ((((((((((w.setCell ⟨b, 0, none⟩ v0).setCell ⟨b, 1, none⟩ v1).setCell ⟨b, 2, none⟩ v2).setCell ⟨b, 3, none⟩ v3).setCell ⟨b, 4, none⟩ v4).setCell ⟨b, 5, none⟩ v5).setCell ⟨b, 6, none⟩ v6).setCell ⟨b, 7, none⟩ v7).setCell ⟨b, 8, none⟩ v8).setCell ⟨b, 9, none⟩ v9).heap[b]? = some (.cells #[v0, v1, v2, v3, v4, v5, v6, v7, v8, v9] t (0, 0)) := by
  rw [set1 (set1 (set1 (set1 (set1 (set1 (set1 (set1 (set1 (set1 h v0) v1) v2) v3) v4) v5) v6) v7) v8) v9]
  obtain ⟨l⟩ := c
  match l, hc with
  | [x0, x1, x2, x3, x4, x5, x6, x7, x8, x9], _ => simp

theorem al4 (w : World) (o0 o1 o2 o3 : Obj) : ((((w.alloc o0).alloc o1).alloc o2).alloc o3).heap[w.heap.size]? = some o0 ∧ ((((w.alloc o0).alloc o1).alloc o2).alloc o3).heap[w.heap.size + 1]? = some o1 ∧ ((((w.alloc o0).alloc o1).alloc o2).alloc o3).heap[w.heap.size + 1 + 1]? = some o2 ∧ ((((w.alloc o0).alloc o1).alloc o2).alloc o3).heap[w.heap.size + 1 + 1 + 1]? = some o3 ∧ Below w.heap.size w ((((w.alloc o0).alloc o1).alloc o2).alloc o3) := by
  have h0 := heap_alloc_new w o0
  have h1 := heap_alloc_new (w.alloc o0) o1
  have h2 := heap_alloc_new ((w.alloc o0).alloc o1) o2
  have h3 := heap_alloc_new (((w.alloc o0).alloc o1).alloc o2) o3
  simp only [World.size_alloc] at h1 h2 h3
  refine ⟨?_, ?_, ?_, h3, (((Below.refl _ w).alloc (Nat.le_refl _) _).alloc (by simp) _).alloc (by simp <;> omega) _ |>.alloc (by simp <;> omega) _⟩
  · rw [Below.heap_alloc _ _ _ (by simp <;> omega), Below.heap_alloc _ _ _ (by simp <;> omega), Below.heap_alloc _ _ _ (by simp)]; exact h0
  · rw [Below.heap_alloc _ _ _ (by simp <;> omega), Below.heap_alloc _ _ _ (by simp)]; exact h1
  · rw [Below.heap_alloc _ _ _ (by simp)]; exact h2
/-- ten cells written: the box, and what lay below -/
theorem set10b {n : Nat} {w0 w : World} {b t : Nat} {c : Array Value} (hB : Below n w0 w) (hn : n ≤ b) (hc : c.size = 10) (h : w.heap[b]? = some (.cells c t (0, 0))) (v0 v1 v2 v3 v4 v5 v6 v7 v8 v9 : Value) :
    ∃ W, W = ((((((((((w.setCell ⟨b, 0, none⟩ v0).setCell ⟨b, 1, none⟩ v1).setCell ⟨b, 2, none⟩ v2).setCell ⟨b, 3, none⟩ v3).setCell ⟨b, 4, none⟩ v4).setCell ⟨b, 5, none⟩ v5).setCell ⟨b, 6, none⟩ v6).setCell ⟨b, 7, none⟩ v7).setCell ⟨b, 8, none⟩ v8).setCell ⟨b, 9, none⟩ v9) ∧ W.heap[b]? = some (.cells #[v0, v1, v2, v3, v4, v5, v6, v7, v8, v9] t (0, 0)) ∧ Below n w0 W :=
  ⟨_, rfl, set10 hc h v0 v1 v2 v3 v4 v5 v6 v7 v8 v9, (((((((((hB.setCell (p := ⟨b, 0, none⟩) hn _).setCell (p := ⟨b, 1, none⟩) hn _).setCell (p := ⟨b, 2, none⟩) hn _).setCell (p := ⟨b, 3, none⟩) hn _).setCell (p := ⟨b, 4, none⟩) hn _).setCell (p := ⟨b, 5, none⟩) hn _).setCell (p := ⟨b, 6, none⟩) hn _).setCell (p := ⟨b, 7, none⟩) hn _).setCell (p := ⟨b, 8, none⟩) hn _).setCell (p := ⟨b, 9, none⟩) hn _⟩
theorem set5b {n : Nat} {w0 w : World} {b t : Nat} {c : Array Value} (hB : Below n w0 w) (hn : n ≤ b) (hc : c.size = 5) (h : w.heap[b]? = some (.cells c t (0, 0))) (v0 v1 v2 v3 v4 : Value) :
    ∃ W, W = (((((w.setCell ⟨b, 0, none⟩ v0).setCell ⟨b, 1, none⟩ v1).setCell ⟨b, 2, none⟩ v2).setCell ⟨b, 3, none⟩ v3).setCell ⟨b, 4, none⟩ v4) ∧ W.heap[b]? = some (.cells #[v0, v1, v2, v3, v4] t (0, 0)) ∧ Below n w0 W :=
  ⟨_, rfl, set5 hc h v0 v1 v2 v3 v4, ((((hB.setCell (p := ⟨b, 0, none⟩) hn _).setCell (p := ⟨b, 1, none⟩) hn _).setCell (p := ⟨b, 2, none⟩) hn _).setCell (p := ⟨b, 3, none⟩) hn _).setCell (p := ⟨b, 4, none⟩) hn _⟩

set_option maxHeartbeats 400000 in
theorem i_banAt (F : Nat → Bool) (P : Nat → Int) (w : World) :
    Calls Try.prog 223 #[.agg #[.bool (F 0), .bool (F 1), .bool (F 2), .bool (F 3), .bool (F 4)], .agg #[.int .i64 (P 0), .int .i64 (P 1), .int .i64 (P 2), .int .i64 (P 3), .int .i64 (P 4)]] w (NewV w (.agg #[.bool (F 0), .bool (F 1), .bool (F 2), .bool (F 3), .bool (F 4), .int .i64 (bnL F P 0), .int .i64 (bnL F P 1), .int .i64 (bnL F P 2), .int .i64 (bnL F P 3), .int .i64 (bnL F P 4)])) := by
  go_enter Try.func223, Try.ntmps223
  go_wp2
  go_loopw [11] (fun i wr => ∃ k : Nat, k ≤ 5 ∧ i = .int .i64 k ∧ wr.heap[w.heap.size + 1 + 1 + 1]? = some (.cells #[.bool (F 0), .bool (F 1), .bool (F 2), .bool (F 3), .bool (F 4), .int .i64 (fillL (bnL F P) k 0), .int .i64 (fillL (bnL F P) k 1), .int .i64 (fillL (bnL F P) k 2), .int .i64 (fillL (bnL F P) k 3), .int .i64 (fillL (bnL F P) k 4)] 150 (0, 0)) ∧ wr.heap[w.heap.size + 1 + 1]? = some (.cells #[.bool ((fun _ => false) 0), .bool ((fun _ => false) 1), .bool ((fun _ => false) 2), .bool ((fun _ => false) 3), .bool ((fun _ => false) 4), .int .i64 ((fun _ => 0) 0), .int .i64 ((fun _ => 0) 1), .int .i64 ((fun _ => 0) 2), .int .i64 ((fun _ => 0) 3), .int .i64 ((fun _ => 0) 4)] 150 (0, 0)) ∧ wr.heap[w.heap.size]? = some (.cells #[.bool (F 0), .bool (F 1), .bool (F 2), .bool (F 3), .bool (F 4)] 120 (0, 0)) ∧ Below w.heap.size w wr) (fun i _ => 5 - (intOf i).toNat)
  case atStart =>
    obtain ⟨a0, a1, a2, a3, ab⟩ := al4 w (.cells #[.bool (F 0), .bool (F 1), .bool (F 2), .bool (F 3), .bool (F 4)] 120) (.cells #[.int .i64 (P 0), .int .i64 (P 1), .int .i64 (P 2), .int .i64 (P 3), .int .i64 (P 4)] 97) (.cells #[.bool ((fun _ => false) 0), .bool ((fun _ => false) 1), .bool ((fun _ => false) 2), .bool ((fun _ => false) 3), .bool ((fun _ => false) 4), .int .i64 ((fun _ => 0) 0), .int .i64 ((fun _ => 0) 1), .int .i64 ((fun _ => 0) 2), .int .i64 ((fun _ => 0) 3), .int .i64 ((fun _ => 0) 4)] 150) (.cells #[.bool (F 0), .bool (F 1), .bool (F 2), .bool (F 3), .bool (F 4), .int .i64 ((fun _ => 0) 0), .int .i64 ((fun _ => 0) 1), .int .i64 ((fun _ => 0) 2), .int .i64 ((fun _ => 0) 3), .int .i64 ((fun _ => 0) 4)] 150)
    exact ⟨0, Nat.zero_le _, rfl, a3, a2, a0, ab⟩
  case round =>
    obtain ⟨k, hk, rfl, hh, hr, h0, hb⟩ := hrel
    have hsz := hb.size
    have hlt2 : w.heap.size + 1 + 1 + 1 < wr.heap.size := (Array.getElem?_eq_some_iff.1 hh).1
    by_cases hlt : k < 5
    · have hi := idx5 P hlt
      have hi2 := idxAtF w.heap.size hlt
      have hi3 := idxAt5o (w.heap.size + 1 + 1 + 1) 5 hlt
      have hcF := cellb5 h0 hlt
      have hc := cellbnL hh hlt
      have hf := frozen5 hh (5 + k)
      cases hF : F k
      · have HK := Lib.hid (fillL_skip (L := bnL F P) (k := k) (by unfold bnL; rw [hF]; rfl))
        rw [hF] at hcF
        clear hF
        have hhH := Lib.hid hh; have hrH := Lib.hid hr; have h0H := Lib.hid h0
        clear hh hr h0
        go_wp2
        go_roundw
        case rel => exact ⟨k + 1, by omega, by go_num, by simp only [HK.out]; exact hhH.out, hrH.out, h0H.out, hb⟩
        case measure => simp [intOf]; omega
      · have hst := Lib.hid (fillL_set hh hlt)
        have HF := Lib.hid (show bnL F P k = P k by unfold bnL; rw [hF]; rfl)
        have hrr := Lib.hid ((Below.heap_setCell wr ⟨w.heap.size + 1 + 1 + 1, 5 + k, none⟩ (.int .i64 (P k)) (w.heap.size + 1 + 1) (by simp)).trans hr)
        have h00 := Lib.hid ((Below.heap_setCell wr ⟨w.heap.size + 1 + 1 + 1, 5 + k, none⟩ (.int .i64 (P k)) (w.heap.size) (by simp; omega)).trans h0)
        rw [hF] at hcF
        rw [HF.out] at hst
        clear hF hh hr h0
        go_wp2
        go_roundw
        case rel => exact ⟨k + 1, by omega, by go_num, hst.out, hrr.out, h00.out, hb.setCell (p := ⟨w.heap.size + 1 + 1 + 1, 5 + k, none⟩) (by simp; omega) _⟩
        case measure => simp [intOf]; omega
    · have hh : wr.heap[w.heap.size + 1 + 1 + 1]? = some (.cells #[.bool (F 0), .bool (F 1), .bool (F 2), .bool (F 3), .bool (F 4), .int .i64 (bnL F P 0), .int .i64 (bnL F P 1), .int .i64 (bnL F P 2), .int .i64 (bnL F P 3), .int .i64 (bnL F P 4)] 150 (0, 0)) := by
        obtain rfl : k = 5 := by omega
        exact hh
      obtain ⟨⟨c0, c1, c2, c3, c4⟩, c5, c6, c7, c8, c9⟩ := cells10 hh
      obtain ⟨⟨r0, r1, r2, r3, r4⟩, r5, r6, r7, r8, r9⟩ := cells10 (F := fun _ => false) (L := fun _ => 0) hr
      have f0 := frozen5 hr 0
      have f1 := frozen5 hr 1
      have f2 := frozen5 hr 2
      have f3 := frozen5 hr 3
      have f4 := frozen5 hr 4
      have f5 := frozen5 hr 5
      have f6 := frozen5 hr 6
      have f7 := frozen5 hr 7
      have f8 := frozen5 hr 8
      have f9 := frozen5 hr 9
      have hr := Lib.hid hr
      clear hh h0
      go_wp2
      obtain ⟨W, hWe, hW, hbW⟩ := set10b hb (by omega) (by rfl) hr.out (.bool (F 0)) (.bool (F 1)) (.bool (F 2)) (.bool (F 3)) (.bool (F 4)) (.int .i64 (bnL F P 0)) (.int .i64 (bnL F P 1)) (.int .i64 (bnL F P 2)) (.int .i64 (bnL F P 3)) (.int .i64 (bnL F P 4))
      rw [← hWe]
      obtain ⟨fs, hu⟩ := undBan
      exact bodyPost_ret (v := .agg #[.bool (F 0), .bool (F 1), .bool (F 2), .bool (F 3), .bool (F 4), .int .i64 (bnL F P 0), .int .i64 (bnL F P 1), .int .i64 (bnL F P 2), .int .i64 (bnL F P 3), .int .i64 (bnL F P 4)]) (results_cell_row Try.results223 _ _ _ _ _ (0, 0) (.struct fs) rfl hW hu rfl infoBan) rfl ⟨rfl, hbW⟩

def eq5 (a b : Nat → Int) : Bool := (List.range 5).all fun i => a i == b i
def eqb5 (a b : Nat → Bool) : Bool := (List.range 5).all fun i => a i == b i
theorem eq5_lit (a b : Nat → Int) : eq5 a b = (a 0 == b 0 && (a 1 == b 1 && (a 2 == b 2 && (a 3 == b 3 && a 4 == b 4)))) := by
  simp [eq5, List.range, List.range.loop]
theorem eqb5_self (a : Nat → Bool) : eqb5 a a = true := by simp [eqb5]

theorem eqArrI (d : Nat) (a b : Nat → Int) (w : World) : (Op.equalIn (d + 2) 97 (.agg #[.int .i64 (a 0), .int .i64 (a 1), .int .i64 (a 2), .int .i64 (a 3), .int .i64 (a 4)]) (.agg #[.int .i64 (b 0), .int .i64 (b 1), .int .i64 (b 2), .int .i64 (b 3), .int .i64 (b 4)])).run Try.prog w = .ok (eq5 a b) w := by
  have u3 := Try.underlying3
  have a3 := Try.isAgg3
  have z3 := Try.sizeOf3
  rw [Op.equalIn]
  simp only [Sem.run_bind, run_underlying undPat, Result.andThen_ok]
  simp only [Std.Legacy.Range.forIn_eq_forIn_range', Std.Legacy.Range.size, Nat.sub_zero, Nat.add_sub_cancel, Nat.div_one, List.range'_succ, List.range'_zero, List.forIn_cons, List.forIn_nil]
  go_simp
  rw [eq5_lit]
  by_cases h0 : a 0 = b 0
  case neg => simp [h0]
  by_cases h1 : a 1 = b 1
  case neg => simp [h0, h1]
  by_cases h2 : a 2 = b 2
  case neg => simp [h0, h1, h2]
  by_cases h3 : a 3 = b 3
  case neg => simp [h0, h1, h2, h3]
  by_cases h4 : a 4 = b 4
  case neg => simp [h0, h1, h2, h3, h4]
  simp [h0, h1, h2, h3, h4]
theorem eqArrB (d : Nat) (a : Nat → Bool) (w : World) : (Op.equalIn (d + 2) 120 (.agg #[.bool (a 0), .bool (a 1), .bool (a 2), .bool (a 3), .bool (a 4)]) (.agg #[.bool (a 0), .bool (a 1), .bool (a 2), .bool (a 3), .bool (a 4)])).run Try.prog w = .ok true w := by
  have u3 := Try.underlying4
  have a3 := Try.isAgg4
  have z3 := Try.sizeOf4
  rw [Op.equalIn]
  simp only [Sem.run_bind, run_underlying undFs, Result.andThen_ok]
  simp only [Std.Legacy.Range.forIn_eq_forIn_range', Std.Legacy.Range.size, Nat.sub_zero, Nat.add_sub_cancel, Nat.div_one, List.range'_succ, List.range'_zero, List.forIn_cons, List.forIn_nil]
  go_simp
theorem eqBan (F : Nat → Bool) (a b : Nat → Int) (w : World) : (Op.equalIn 10000 150 (.agg #[.bool (F 0), .bool (F 1), .bool (F 2), .bool (F 3), .bool (F 4), .int .i64 (a 0), .int .i64 (a 1), .int .i64 (a 2), .int .i64 (a 3), .int .i64 (a 4)]) (.agg #[.bool (F 0), .bool (F 1), .bool (F 2), .bool (F 3), .bool (F 4), .int .i64 (b 0), .int .i64 (b 1), .int .i64 (b 2), .int .i64 (b 3), .int .i64 (b 4)])).run Try.prog w = .ok (eq5 a b) w := by
  have u3 := Try.underlying3
  have a3 := Try.isAgg3
  have z3 := Try.sizeOf3
  have hS : Try.prog.underlying 150 = some (.struct (Try.prog.fieldsOf 150)) := by kernel_rfl
  have hp : Try.prog.stoodInHeld 150 = false := by kernel_rfl
  have e1 := eqArrB 9997 F w
  have e2 := eqArrI 9997 a b w
  rw [show (10000 : Nat) = 9999 + 1 from rfl, run_equalIn_agg w 9999 150 _ _ hS hp]
  simp only [Program.fieldsOf, Try.underlying150]
  go_simp
  cases eq5 a b <;> rfl

/- Walks: whether a ban is met; the forbidding of a pattern. -/
open Go.RowKit

theorem al2 (w : World) (o0 o1 : Obj) : ((w.alloc o0).alloc o1).heap[w.heap.size]? = some o0 ∧ ((w.alloc o0).alloc o1).heap[w.heap.size + 1]? = some o1 ∧ Below w.heap.size w ((w.alloc o0).alloc o1) := by
  have h0 := heap_alloc_new w o0
  have h1 := heap_alloc_new (w.alloc o0) o1
  simp only [World.size_alloc] at h1
  refine ⟨?_, h1, ((Below.refl _ w).alloc (Nat.le_refl _) _).alloc (by simp) _⟩
  rw [Below.heap_alloc _ _ _ (by simp)]; exact h0

set_option maxHeartbeats 400000 in
theorem i_isIn (F : Nat → Bool) (L P : Nat → Int) (w : World) :
    Calls Try.prog 231 #[.agg #[.bool (F 0), .bool (F 1), .bool (F 2), .bool (F 3), .bool (F 4), .int .i64 (L 0), .int .i64 (L 1), .int .i64 (L 2), .int .i64 (L 3), .int .i64 (L 4)], .agg #[.int .i64 (P 0), .int .i64 (P 1), .int .i64 (P 2), .int .i64 (P 3), .int .i64 (P 4)]] w (NewV w (.bool (eq5 (bnL F P) L))) := by
  have heq := eqBan F (bnL F P) L
  obtain ⟨A0, _, AB⟩ := al2 w (.cells #[.bool (F 0), .bool (F 1), .bool (F 2), .bool (F 3), .bool (F 4), .int .i64 (L 0), .int .i64 (L 1), .int .i64 (L 2), .int .i64 (L 3), .int .i64 (L 4)] 150) (.cells #[.int .i64 (P 0), .int .i64 (P 1), .int .i64 (P 2), .int .i64 (P 3), .int .i64 (P 4)] 97)
  replace A0 := Lib.hid A0
  replace AB := Lib.hid AB
  go_enter Try.func231, Try.ntmps231
  go_wp2_with fail
  go_region_with (go_at_call 223; refine (i_banAt F P _).mono ?_; rintro e w1 ⟨rfl, hb1⟩; obtain ⟨⟨g0, g1, g2, g3, g4⟩, g5, g6, g7, g8, g9⟩ := cells10 ((hb1.block w.heap.size (by simp; omega)).trans A0.out))
  all_goals go_wp2
  all_goals go_ret
  all_goals (first | exact ⟨rfl, AB.out.drew.trans (hb1.mono (B' := w.heap.size) (by simp; omega))⟩ | exact ⟨rfl, AB.out.trans (hb1.mono (B' := w.heap.size) (by simp; omega))⟩)

/-- the closure of forbid: the pattern lies in a box -/
theorem i_forbid1 (F : Nat → Bool) (L P : Nat → Int) (b : Nat) (w : World) (hp : w.heap[b]? = some (.cells #[.int .i64 (P 0), .int .i64 (P 1), .int .i64 (P 2), .int .i64 (P 3), .int .i64 (P 4)] 97 (0, 0))) :
    Calls Try.prog 230 #[.agg #[.bool (F 0), .bool (F 1), .bool (F 2), .bool (F 3), .bool (F 4), .int .i64 (L 0), .int .i64 (L 1), .int .i64 (L 2), .int .i64 (L 3), .int .i64 (L 4)], .pointer (some ⟨b, 0, none⟩)] w (NewV w (.bool (eq5 (bnL F P) L))) := by
  have hlt : b < w.heap.size := (Array.getElem?_eq_some_iff.1 hp).1
  have hA := heap_alloc_new w (.cells #[.bool (F 0), .bool (F 1), .bool (F 2), .bool (F 3), .bool (F 4), .int .i64 (L 0), .int .i64 (L 1), .int .i64 (L 2), .int .i64 (L 3), .int .i64 (L 4)] 150)
  obtain ⟨⟨g0, g1, g2, g3, g4⟩, g5, g6, g7, g8, g9⟩ := cells10 hA
  obtain ⟨p0, p1, p2, p3, p4⟩ := cells5' ((Below.heap_alloc w (.cells #[.bool (F 0), .bool (F 1), .bool (F 2), .bool (F 3), .bool (F 4), .int .i64 (L 0), .int .i64 (L 1), .int .i64 (L 2), .int .i64 (L 3), .int .i64 (L 4)] 150) b hlt).trans hp)
  clear hp hA
  go_enter Try.func230, Try.ntmps230
  go_wp2_with fail
  refine (i_isIn F L P _).mono ?_
  rintro e w1 ⟨rfl, hb1⟩
  go_wp2
  go_ret
  exact ⟨rfl, ((Below.refl _ w).alloc (Nat.le_refl _) _).trans (hb1.mono (by simp))⟩

open Go

variable {P : Program} {ops : Array Oper} {Q : Exit → Act → World → Prop} {md : Region.Mode} {S : World → Prop} {z : Nat}

/-- a scope to whose label the run jumps back: the code behind the label is walked once -/
theorem wp_scope_once {a : Act} {w : World} {c rest : Code} (l : Nat) (J : Act → World → Prop) (μ : Act → World → Nat) (hf : findLabel c l = some (Code.skip.seq rest))
    (pass : ∀ a w, J a w → rest.wp P (Exit.jump l (fun a' w' => J a' w' ∧ μ a' w' < μ a w) Q) a w)
    (first : (∀ a w, J a w → rest.wp P (Exit.jump l J Q) a w) → c.wp P (Exit.jump l J Q) a w) : (Code.scope c).wp P Q a w :=
  wp_scope_jumps l J μ hf (first fun a w hJ => Code.wp_mono (fun e a' w' h => by
    cases e with
    | goto l' => exact ⟨h.1, h.2.1⟩
    | normal => exact h
    | exit id => exact h
    | ret => exact h
    | panic ch => exact h
    | outgrown => exact h) (pass a w hJ)) (fun a w hJ => wp_seq (wp_skip (pass a w hJ)))

/- Walks: bans in memory; rulesOf; forbid. -/
open Go.RowKit

def csB (l : List Int) : List Value := [.bool (bF (at5 l) 0), .bool (bF (at5 l) 1), .bool (bF (at5 l) 2), .bool (bF (at5 l) 3), .bool (bF (at5 l) 4), .int .i64 (bnL (bF (at5 l)) (at5 l) 0), .int .i64 (bnL (bF (at5 l)) (at5 l) 1), .int .i64 (bnL (bF (at5 l)) (at5 l) 2), .int .i64 (bnL (bF (at5 l)) (at5 l) 3), .int .i64 (bnL (bF (at5 l)) (at5 l) 4)]
theorem wideRul : (match Try.prog.underlying 93 with | some (.struct _) => true | _ => false) = true := by kernel_rfl
theorem undRul : ∃ fs, Try.prog.underlying 93 = some (.struct fs) := by
  have h := wideRul
  cases hu : Try.prog.underlying 93 with
  | none => rw [hu] at h; cases h
  | some d => rw [hu] at h; cases d <;> first | exact ⟨_, rfl⟩ | (cases h)
theorem infoRul : (Try.prog.info? 93).map (·.size) = some 2 := by kernel_rfl
theorem undBans : Try.prog.underlying 91 = some (.slice 150) := by kernel_rfl
theorem sizeBan (w : World) : (sizeOf 150).run Try.prog w = .ok 10 w := by kernel_rfl
theorem infoBan2 : (Try.prog.info? 150).map (fun i => (i.zero, i.size, i.bytes)) = some (some (.agg #[.bool ((fun _ => false) 0), .bool ((fun _ => false) 1), .bool ((fun _ => false) 2), .bool ((fun _ => false) 3), .bool ((fun _ => false) 4), .int .i64 ((fun _ => 0) 0), .int .i64 ((fun _ => 0) 1), .int .i64 ((fun _ => 0) 2), .int .i64 ((fun _ => 0) 3), .int .i64 ((fun _ => 0) 4)]), 10, 48) := by kernel_rfl
/-- v owns, from block B on, the bans of the patterns ps -/
def OwnBn (w : World) (B : Nat) (v : Value) (ps : List (List Int)) : Prop := w.ownsRow B 150 10 v ps.length (ps.flatMap csB)
theorem OwnBn.lt {w : World} {B : Nat} {v : Value} {ps : List (List Int)} (h : OwnBn w B v ps) : ∀ g, v.ownBlock = some g → B ≤ g ∧ g < w.heap.size := World.ownsRow.lt h
theorem OwnBn.nil (w : World) (B : Nat) : OwnBn w B (.slice none 0 0) [] := World.ownsRow_nil _ _ _ _
theorem OwnBn.kept {w w' : World} {B : Nat} {v : Value} {ps : List (List Int)} (h : OwnBn w B v ps) (hb : ∀ k, k < w.heap.size → v.ownBlock = some k → w'.heap[k]? = w.heap[k]?) : OwnBn w' B v ps := by
  have hlt := h.lt
  obtain ⟨h1, h2⟩ := h
  refine ⟨h1, ?_⟩
  rcases h2 with h2 | ⟨g, cap, cur, rfl, hB, hg, rest⟩
  · exact .inl h2
  · exact .inr ⟨g, cap, cur, rfl, hB, by rw [hb g (hlt g rfl).2 rfl]; exact hg, rest⟩
theorem OwnBn.below {w w' : World} {B : Nat} {v : Value} {ps : List (List Int)} (h : OwnBn w B v ps) (hb : Below w.heap.size w w') : OwnBn w' B v ps := h.kept fun k hk _ => hb.block k hk
theorem csB_at {ps : List (List Int)} {k j : Nat} {l : List Int} (h : ps[k]? = some l) (hj : j < 10) : (ps.flatMap csB)[k * 10 + j]? = (csB l)[j]? := by
  induction ps generalizing k with
  | nil => simp at h
  | cons p ps ih =>
    rw [List.flatMap_cons]
    have hc : (csB p).length = 10 := rfl
    cases k with
    | zero =>
      simp at h; subst h
      rw [List.getElem?_append_left (by rw [hc]; omega)]
      simp
    | succ k =>
      simp only [List.getElem?_cons_succ] at h
      rw [List.getElem?_append_right (by rw [hc]; omega), hc]
      have e : (k + 1) * 10 + j - 10 = k * 10 + j := by omega
      rw [e]; exact ih h
/-- where ban k of such a slice lies, and what is there -/
theorem OwnBn.at {w : World} {B : Nat} {v : Value} {ps : List (List Int)} (h : OwnBn w B v ps) : ∃ a c, v = .slice a ps.length c ∧ ∀ (k : Nat) (l : List Int), ps[k]? = some l → ∃ g, B ≤ g ∧ g < w.heap.size ∧
    (∀ wx, (Instr.indexAt 91 (.slice a ps.length c) (.int .i64 (k : Int))).run Try.prog wx = .ok (.pointer (some ⟨g, k * 10, none⟩)) wx) ∧ ∀ (j : Nat), j < 10 → w.cell? ⟨g, k * 10 + j, none⟩ = (csB l)[j]? := by
  have hlt := h.lt
  rcases h.2 with ⟨rfl, h0⟩ | ⟨g, cap, cur, rfl, hb, hg, hn, hm, hs, ht⟩
  · have e : ps = [] := List.eq_nil_of_length_eq_zero h0
    subst e
    exact ⟨none, 0, rfl, by simp⟩
  · refine ⟨_, _, rfl, fun k l e => ⟨g, hb, (hlt g rfl).2, fun wx => ?_, fun j hj => ?_⟩⟩
    · have hk := lt_of_at e
      have h1 := sizeBan wx
      simp [Instr.indexAt, run_underlying undBans, asIntOf, hk, Addr.add]
      try omega
    · rw [cell_of_row w g _ cur _ (0, 0) hg]
      have e2 := csB_at e hj
      rw [← ht, List.getElem?_take] at e2
      have hc : j < (csB l).length := hj
      split at e2
      · simpa using e2
      · rw [List.getElem?_eq_getElem hc] at e2; cases e2

theorem OwnBn.wide {w : World} {B B' : Nat} {v : Value} {ps : List (List Int)} (h : OwnBn w B v ps) (hB : B' ≤ B) : OwnBn w B' v ps := by
  obtain ⟨h1, h2⟩ := h
  refine ⟨h1, ?_⟩
  rcases h2 with h2 | ⟨g, cap, cur, rfl, hb, hg, rest⟩
  · exact .inl h2
  · exact .inr ⟨g, cap, cur, rfl, Nat.le_trans hB hb, hg, rest⟩
theorem OwnBn.slice {w : World} {B : Nat} {v : Value} {ps : List (List Int)} (h : OwnBn w B v ps) : ∃ a c, v = .slice a ps.length c ∧ OwnBn w B (.slice a ps.length c) ps := by
  obtain ⟨a, c, rfl, _⟩ := h.at
  exact ⟨a, c, rfl, h⟩

/-- append of one ban -/
theorem step_appBn {wr : World} {ops : Array Oper} {o : Oper} {a : Act} {K : Act → World → Prop} {Q : Exit → Act → World → Prop} {E : Prop} (hgd : o.guard = none) (s t : Operand)
    (ho : o.op = .call { callee := .builtin .append, args := #[s, t], argTypes := #[91, 91] }) (B : Nat) (v : Value) (ps : List (List Int)) (hs : a.eval s = v) (hown : OwnBn wr B v ps) (l : List Int)
    (nw : Nat) (hx : a.eval t = .slice (some ⟨nw, 0, none⟩) 1 1) (hnw : nw = wr.heap.size) (hl : ps.length ≤ 1099511627776) (hB : B ≤ wr.heap.size)
    (h : ∀ v' w', OwnBn w' B v' (ps ++ [l]) → wr.grownBy w' v.ownBlock → K (a.put o.dst v') w') : if Region.wanted o (yielded ops a.tmps) = true then Oper.wp Try.prog o a (wr.alloc (.cells #[.bool (bF (at5 l) 0), .bool (bF (at5 l) 1), .bool (bF (at5 l) 2), .bool (bF (at5 l) 3), .bool (bF (at5 l) 4), .int .i64 (bnL (bF (at5 l)) (at5 l) 0), .int .i64 (bnL (bF (at5 l)) (at5 l) 1), .int .i64 (bnL (bF (at5 l)) (at5 l) 2), .int .i64 (bnL (bF (at5 l)) (at5 l) 3), .int .i64 (bnL (bF (at5 l)) (at5 l) 4)] 150)) K Q else E := by
  subst hnw
  have hw : Region.wanted o (yielded ops a.tmps) = true := by simp [Region.wanted, hgd]
  rw [if_pos hw]
  obtain ⟨i0, hi, hz0, hz1, hz2⟩ := info_parts infoBan2
  obtain ⟨v', w', hr, g1, g2, g3, g4⟩ := run_append_own_at (P := Try.prog) (wr.alloc (.cells #[.bool (bF (at5 l) 0), .bool (bF (at5 l) 1), .bool (bF (at5 l) 2), .bool (bF (at5 l) 3), .bool (bF (at5 l) 4), .int .i64 (bnL (bF (at5 l)) (at5 l) 0), .int .i64 (bnL (bF (at5 l)) (at5 l) 1), .int .i64 (bnL (bF (at5 l)) (at5 l) 2), .int .i64 (bnL (bF (at5 l)) (at5 l) 3), .int .i64 (bnL (bF (at5 l)) (at5 l) 4)] 150)) B 91 o.type 150 i0 _ 10 48 undBans hi hz0 hz1 hz2 rfl (by decide) v ps.length (ps.flatMap csB) (World.ownsRow.alloc hown _) ⟨wr.heap.size, 0, none⟩ 1 1 (csB l) rfl
    (World.news_of_block (cs := #[.bool (bF (at5 l) 0), .bool (bF (at5 l) 1), .bool (bF (at5 l) 2), .bool (bF (at5 l) 3), .bool (bF (at5 l) 4), .int .i64 (bnL (bF (at5 l)) (at5 l) 0), .int .i64 (bnL (bF (at5 l)) (at5 l) 1), .int .i64 (bnL (bF (at5 l)) (at5 l) 2), .int .i64 (bnL (bF (at5 l)) (at5 l) 3), .int .i64 (bnL (bF (at5 l)) (at5 l) 4)]) (t := 150) (fr := (0, 0)) (heap_alloc_new wr _))
    (by intro u hu; simp [csB] at hu; rcases hu with rfl | rfl | rfl | rfl | rfl | rfl | rfl | rfl | rfl | rfl <;> rfl) (by unfold maxLen; omega) (by omega) (by simp; omega)
  unfold Oper.wp execOp
  simp only [ho, resolve, invoke, builtin, Sem.run_bind, Sem.run_pure, Result.andThen_ok, List.map_toArray, List.map_cons, List.map_nil, hs, hx, hr]
  exact h v' w' (by unfold OwnBn; rw [List.flatMap_append, List.length_append]; simpa using g1) ((World.grownBy_alloc wr _ _).trans g2)

theorem mt_meet (q : List Int) (P : Nat → Int) : eq5 (bnL (bF (at5 q)) P) (bnL (bF (at5 q)) (at5 q)) = meet5 (at5 q) P := by
  unfold eq5 meet5
  rw [Bool.eq_iff_iff, List.all_eq_true, List.all_eq_true]
  constructor
  · intro h i hi
    have := h i hi
    unfold bnL bF at this
    by_cases hq : at5 q i = -1
    · simp [hq]
    · simp [hq] at this; simp [this]
  · intro h i hi
    have := h i hi
    unfold bnL bF
    by_cases hq : at5 q i = -1
    · simp [hq]
    · simp [hq] at this; simp [this]

set_option maxRecDepth 100000 in
set_option maxHeartbeats 2000000 in
theorem x_IndexFuncBn {ps : List (List Int)} {v : Value} {B : Nat} {w0 w : World} (P : Nat → Int) (b : Nat) (ho : OwnBn w0 B v ps) (hb0 : Below w0.heap.size w0 w) (hp : w.heap[b]? = some (.cells #[.int .i64 (P 0), .int .i64 (P 1), .int .i64 (P 2), .int .i64 (P 3), .int .i64 (P 4)] 97 (0, 0))) (hl : ps.length ≤ 1048576) :
    Calls Try.prog 249 #[v, .func (.func 230) #[] #[.pointer (some ⟨b, 0, none⟩)]] w (fun e w' => ∃ r : Int, e = .returned (.int .i64 r) ∧ decide (0 ≤ r) = fbB ps P ∧ Below w.heap.size w w') := by
  obtain ⟨a, c, rfl, hat⟩ := ho.at
  have HAT := Lib.hid hat
  obtain ⟨M, hM⟩ : ∃ M, ps.length = M := ⟨_, rfl⟩
  have HNN := Lib.hid hM
  have hMl : M ≤ 1048576 := by omega
  have hs0 := hb0.size
  have hbl : b < w.heap.size := (Array.getElem?_eq_some_iff.1 hp).1
  have HP := Lib.hid hp
  rw [hM]
  clear hat ho hM hl hp
  go_enter Try.func249, Try.ntmps249
  go_wp2
  go_loopw [5, 8] (fun _ i wr => ∃ k : Nat, k ≤ M ∧ i = .int .i64 k ∧ Below w.heap.size w wr ∧ Hid ((ps.take k).all (fun q => !meet5 (at5 q) P) = true)) (fun _ i _ => M - (intOf i).toNat)
  case atStart => exact ⟨0, Nat.zero_le _, rfl, Below.refl _ _, by simp [Hid]⟩
  case round =>
    obtain ⟨k, hk, rfl, hB3, hA⟩ := hrel
    have hz3 := hB3.size
    by_cases hlt : k < M
    · obtain ⟨l, hx⟩ := at_of_lt (show k < ps.length by have := HNN.out; omega)
      obtain ⟨g, hg1, hg2, hidx, hcs⟩ := HAT.out k l hx
      have HX := Lib.hid hx
      rw [HNN.out] at hidx
      have hBl3 : Below w0.heap.size w0 wr := hb0.trans (hB3.mono (by omega))
      have hc (j : Nat) (hj : j < 10) : wr.cell? ⟨g, k * 10 + j, none⟩ = (csB l)[j]? := (hBl3.cell (p := ⟨g, k * 10 + j, none⟩) hg2).trans (hcs j hj)
      have hc0 : wr.cell? ⟨g, k * 10, none⟩ = some (.bool (bF (at5 l) 0)) := hc 0 (by omega)
      have hc1 : wr.cell? ⟨g, k * 10 + 1, none⟩ = some (.bool (bF (at5 l) 1)) := hc 1 (by omega)
      have hc2 : wr.cell? ⟨g, k * 10 + 2, none⟩ = some (.bool (bF (at5 l) 2)) := hc 2 (by omega)
      have hc3 : wr.cell? ⟨g, k * 10 + 3, none⟩ = some (.bool (bF (at5 l) 3)) := hc 3 (by omega)
      have hc4 : wr.cell? ⟨g, k * 10 + 4, none⟩ = some (.bool (bF (at5 l) 4)) := hc 4 (by omega)
      have hc5 : wr.cell? ⟨g, k * 10 + 5, none⟩ = some (.int .i64 (bnL (bF (at5 l)) (at5 l) 0)) := hc 5 (by omega)
      have hc6 : wr.cell? ⟨g, k * 10 + 6, none⟩ = some (.int .i64 (bnL (bF (at5 l)) (at5 l) 1)) := hc 6 (by omega)
      have hc7 : wr.cell? ⟨g, k * 10 + 7, none⟩ = some (.int .i64 (bnL (bF (at5 l)) (at5 l) 2)) := hc 7 (by omega)
      have hc8 : wr.cell? ⟨g, k * 10 + 8, none⟩ = some (.int .i64 (bnL (bF (at5 l)) (at5 l) 3)) := hc 8 (by omega)
      have hc9 : wr.cell? ⟨g, k * 10 + 9, none⟩ = some (.int .i64 (bnL (bF (at5 l)) (at5 l) 4)) := hc 9 (by omega)
      have hcl := i_forbid1 (bF (at5 l)) (bnL (bF (at5 l)) (at5 l)) P b wr ((hB3.block b hbl).trans HP.out)
      rw [mt_meet] at hcl
      clear hc hcs hx
      cases hm : meet5 (at5 l) P
      · have HM := Lib.hid hm; clear hm
        rw [HM.out] at hcl
        replace hcl := Lib.hid hcl
        go_wp2_with fail
        refine hcl.out.mono ?_
        rintro e w1 ⟨rfl, hb1⟩
        go_wp2
        go_roundw
        case rel => exact ⟨k + 1, by omega, by go_num, hB3.trans (hb1.mono hz3), all_snoc HX.out hA.out (by rw [HM.out]; rfl)⟩
        case measure => simp [intOf]; omega
      · have HM := Lib.hid hm; clear hm
        rw [HM.out] at hcl
        replace hcl := Lib.hid hcl
        go_wp2_with fail
        refine hcl.out.mono ?_
        rintro e w1 ⟨rfl, hb1⟩
        go_wp2
        go_ret
        refine ⟨_, rfl, ?_, hB3.trans (hb1.mono hz3)⟩
        rw [decide_eq_true (by omega)]
        exact (List.any_eq_true.2 ⟨l, List.mem_of_getElem? HX.out, HM.out⟩).symm
    · go_wp2
      go_ret
      refine ⟨_, rfl, ?_, hB3⟩
      have h1 := all_whole hA.out (show ps.length ≤ k by have := HNN.out; omega)
      have h2 : fbB ps P = false := by
        unfold fbB; rw [List.any_eq_false]
        intro r hr
        have := (List.all_eq_true.1 h1) r hr
        simpa using this
      rw [h2]; rfl

set_option maxHeartbeats 1000000 in
theorem x_ContainsFuncBn {ps : List (List Int)} {v : Value} {B : Nat} {w0 w : World} (P : Nat → Int) (b : Nat) (ho : OwnBn w0 B v ps) (hb0 : Below w0.heap.size w0 w) (hp : w.heap[b]? = some (.cells #[.int .i64 (P 0), .int .i64 (P 1), .int .i64 (P 2), .int .i64 (P 3), .int .i64 (P 4)] 97 (0, 0))) (hl : ps.length ≤ 1048576) :
    Calls Try.prog 229 #[v, .func (.func 230) #[] #[.pointer (some ⟨b, 0, none⟩)]] w (NewV w (.bool (fbB ps P))) := by
  go_enter Try.func229, Try.ntmps229
  go_wp2_with fail
  refine (x_IndexFuncBn P b ho hb0 hp hl).mono ?_
  rintro e w1 ⟨r, rfl, hr, hb1⟩
  have HR := Lib.hid hr
  clear hr
  go_wp2
  go_ret
  exact ⟨by rw [← HR.out]; rfl, hb1⟩

set_option maxHeartbeats 1000000 in
theorem i_forbid {ps : List (List Int)} {v mv : Value} {B : Nat} {w0 w : World} (P : Nat → Int) (ho : OwnBn w0 B v ps) (hb0 : Below w0.heap.size w0 w) (hl : ps.length ≤ 1048576) :
    Calls Try.prog 150 #[.agg #[mv, v], .agg #[.int .i64 (P 0), .int .i64 (P 1), .int .i64 (P 2), .int .i64 (P 3), .int .i64 (P 4)]] w (NewV w (.bool (fbB ps P))) := by
  obtain ⟨A0, A1, AB⟩ := al2 w (.cells #[mv, v] 93) (.cells #[.int .i64 (P 0), .int .i64 (P 1), .int .i64 (P 2), .int .i64 (P 3), .int .i64 (P 4)] 97)
  replace A1 := Lib.hid A1
  replace AB := Lib.hid AB
  clear A0
  go_enter Try.func150, Try.ntmps150
  go_wp2_with fail
  refine (x_ContainsFuncBn P (w.heap.size + 1) ho (hb0.trans (AB.out.mono hb0.size)) A1.out hl).mono ?_
  rintro e w1 ⟨rfl, hb1⟩
  go_wp2
  go_ret
  exact ⟨rfl, AB.out.trans (hb1.mono (B' := w.heap.size) (by simp; omega))⟩

set_option maxRecDepth 100000 in
set_option maxHeartbeats 4000000 in
theorem i_rulesOf {b : List (List Int)} {a a' : Option Addr} {c c' lo' hi' : Nat} {w : World} (n : Nat) (hs : RII w lo' hi' a' b) (hB : hi' ≤ w.heap.size) (hl : b.length ≤ 5) (h5 : ∀ r ∈ b, r.length ≤ 5) :
    Calls Try.prog 131 #[.slice a n c, .slice a' b.length c'] w (fun e w' => ∃ v, e = .returned (.agg #[.slice a n c, v]) ∧ OwnBn w' w.heap.size v b ∧ Below w.heap.size w w') := by
  have H5 := Lib.hid h5; clear h5
  go_enter Try.func131, Try.ntmps131
  go_wp2
  go_loopw [13] (fun i wr => ∃ (k : Nat) (v : Value), k ≤ b.length ∧ i = .int .i64 k ∧ wr.heap[w.heap.size]? = some (.cells #[.slice none 0 0, .slice none 0 0] 93 (0, 0)) ∧ wr.heap[w.heap.size + 1]? = some (.cells #[.slice a n c, v] 93 (0, 0)) ∧ OwnBn wr (w.heap.size + 1 + 1) v (b.take k) ∧ Below w.heap.size w wr) (fun i _ => b.length - (intOf i).toNat)
  case atStart =>
    obtain ⟨A0, A1, AB⟩ := al2 w (.cells #[.slice none 0 0, .slice none 0 0] 93) (.cells #[.slice a n c, .slice none 0 0] 93)
    exact ⟨0, _, Nat.zero_le _, rfl, A0, A1, OwnBn.nil _ _, AB⟩
  case round =>
    obtain ⟨k, v, hk, rfl, h0, h1, hown, hBl⟩ := hrel
    have hz := hBl.size
    have hz1 : w.heap.size + 1 < wr.heap.size := (Array.getElem?_eq_some_iff.1 h1).1
    by_cases hlt : k < b.length
    · obtain ⟨bb, o, a1, c1, r, ha, _, _, hcell, hr, hx⟩ := (hs.below hBl hB).at hlt
      have hidx := idxII ha hlt c'
      have hr5 := H5.out r (List.mem_of_getElem? hx.out)
      have h0 := Lib.hid h0; have h1 := Lib.hid h1
      clear ha hs
      go_wp2_with fail
      refine (i_patternOf hr (by omega) hr5).mono ?_
      rintro e w1 ⟨rfl, hb1⟩
      have hz2 := hb1.size
      have HW := Lib.hid (heap_alloc_new w1 (.cells #[.int .i64 (at5 r 0), .int .i64 (at5 r 1), .int .i64 (at5 r 2), .int .i64 (at5 r 3), .int .i64 (at5 r 4)] 97))
      have hbW := hb1.alloc (o := .cells #[.int .i64 (at5 r 0), .int .i64 (at5 r 1), .int .i64 (at5 r 2), .int .i64 (at5 r 3), .int .i64 (at5 r 4)] 97) hz2
      obtain ⟨W, hWe⟩ : ∃ W, w1.alloc (.cells #[.int .i64 (at5 r 0), .int .i64 (at5 r 1), .int .i64 (at5 r 2), .int .i64 (at5 r 3), .int .i64 (at5 r 4)] 97) = W := ⟨_, rfl⟩
      have hWs : W.heap.size = w1.heap.size + 1 := by rw [← hWe]; simp
      rw [hWe] at HW hbW
      have hq1 : Below W.heap.size W W := Below.refl _ _
      have HS : Hid (∀ w', Below W.heap.size W w' → w'.cell? ⟨w1.heap.size, 0, none⟩ = some (.int .i64 (at5 r 0)) ∧ w'.cell? ⟨w1.heap.size, 1, none⟩ = some (.int .i64 (at5 r 1)) ∧ w'.cell? ⟨w1.heap.size, 2, none⟩ = some (.int .i64 (at5 r 2)) ∧ w'.cell? ⟨w1.heap.size, 3, none⟩ = some (.int .i64 (at5 r 3)) ∧ w'.cell? ⟨w1.heap.size, 4, none⟩ = some (.int .i64 (at5 r 4)) ∧ w'.cell? ⟨w.heap.size + 1, 1, none⟩ = some v) := fun w' hb => by
        obtain ⟨e0, e1, e2, e3, e4⟩ := cells5' ((hb.block _ (by omega)).trans HW.out)
        refine ⟨e0, e1, e2, e3, e4, ?_⟩
        rw [cell_of_row _ _ 1 _ _ _ ((hb.block (w.heap.size + 1) (by omega)).trans ((hbW.block (w.heap.size + 1) (by omega)).trans h1.out))]; rfl
      have HC : Hid (∀ w', Below W.heap.size W w' → w'.cell? ⟨w.heap.size + 1, 1, none⟩ = some v) := fun w' hb => by
        rw [cell_of_row _ _ 1 _ _ _ ((hb.block (w.heap.size + 1) (by omega)).trans ((hbW.block (w.heap.size + 1) (by omega)).trans h1.out))]; rfl
      have HF : Hid (∀ w', Below W.heap.size W w' → w'.frozen? ⟨w.heap.size + 1, 1, none⟩ = false) := fun w' hb => frozen5 ((hb.block (w.heap.size + 1) (by omega)).trans ((hbW.block (w.heap.size + 1) (by omega)).trans h1.out)) 1
      have HO : Hid (∀ w', Below W.heap.size W w' → OwnBn w' (w.heap.size + 1 + 1) v (b.take k)) := fun w' hb => hown.below (hbW.trans (hb.mono (by omega)))
      have hkl : (b.take k).length ≤ 1099511627776 := by simp; omega
      have hvl := hown.lt
      have HP5 : ∀ w3 w5, Below W.heap.size W w3 → w3.grownBy w5 v.ownBlock → (w5.cell? ⟨w1.heap.size, 0, none⟩ = some (.int .i64 (at5 r 0)) ∧ w5.cell? ⟨w1.heap.size, 1, none⟩ = some (.int .i64 (at5 r 1)) ∧ w5.cell? ⟨w1.heap.size, 2, none⟩ = some (.int .i64 (at5 r 2)) ∧ w5.cell? ⟨w1.heap.size, 3, none⟩ = some (.int .i64 (at5 r 3)) ∧ w5.cell? ⟨w1.heap.size, 4, none⟩ = some (.int .i64 (at5 r 4)) ∧ w5.cell? ⟨w.heap.size + 1, 1, none⟩ = some v) ∧ w5.frozen? ⟨w.heap.size + 1, 1, none⟩ = false ∧ (w5.heap[w.heap.size]? = some (.cells #[.slice none 0 0, .slice none 0 0] 93 (0, 0)) ∧ w5.heap[w.heap.size + 1]? = some (.cells #[.slice a n c, v] 93 (0, 0)) ∧ Below w.heap.size w w5) := fun w3 w5 h3 h5 => by
        have hz3 := h3.size
        have k0 : w5.heap[w.heap.size]? = some (.cells #[.slice none 0 0, .slice none 0 0] 93 (0, 0)) := by
          rw [h5.block _ (by omega) (fun e => by have := hvl _ e.symm; omega), h3.block _ (by omega), hbW.block _ (by omega)]; exact h0.out
        have k1 : w5.heap[w.heap.size + 1]? = some (.cells #[.slice a n c, v] 93 (0, 0)) := by
          rw [h5.block _ (by omega) (fun e => by have := hvl _ e.symm; omega), h3.block _ (by omega), hbW.block _ (by omega)]; exact h1.out
        have k2 : w5.heap[w1.heap.size]? = some (.cells #[.int .i64 (at5 r 0), .int .i64 (at5 r 1), .int .i64 (at5 r 2), .int .i64 (at5 r 3), .int .i64 (at5 r 4)] 97 (0, 0)) := by
          rw [h5.block _ (by omega) (fun e => by have := hvl _ e.symm; omega), h3.block _ (by omega)]; exact HW.out
        obtain ⟨p0, p1, p2, p3, p4⟩ := cells5' k2
        refine ⟨⟨p0, p1, p2, p3, p4, ?_⟩, frozen5 k1 1, k0, k1, (hBl.trans ((hbW.mono (by omega)).trans (h3.mono (by omega)))).trans ((Below.refl w.heap.size w3).grown h5 (by omega) fun g hg => by have := hvl g hg; omega)⟩
        rw [cell_of_row _ _ 1 _ _ _ k1]; rfl
      have hcW := HC.out W hq1
      have hWs' : w1.heap.size + 1 ≤ W.heap.size := by omega
      clear hown hcell hr hvl
      replace HP5 := Lib.hid HP5
      go_wp2_with fail
      try rw [hWe]
      clear hWe
      refine wp_region_L 9 (fun w' => w'.cell? ⟨w1.heap.size, 0, none⟩ = some (.int .i64 (at5 r 0)) ∧ w'.cell? ⟨w1.heap.size, 1, none⟩ = some (.int .i64 (at5 r 1)) ∧ w'.cell? ⟨w1.heap.size, 2, none⟩ = some (.int .i64 (at5 r 2)) ∧ w'.cell? ⟨w1.heap.size, 3, none⟩ = some (.int .i64 (at5 r 3)) ∧ w'.cell? ⟨w1.heap.size, 4, none⟩ = some (.int .i64 (at5 r 4)) ∧ w'.cell? ⟨w.heap.size + 1, 1, none⟩ = some v) (by kernel_rfl) ?_
      have hS0 := HS.out _ hq1.drew
      refine wpAnyL_take (i := 0) (v := ?_) rfl rfl (by kernel_rfl) rfl (by kernel_rfl) (by kernel_rfl) (by kernel_rfl) (fun _ _ _ h => h) (Or.inl ⟨by rfl, ?_⟩) hS0 ?_
      rotate_left
      · intro w hSw; (try dsimp only at hSw); go_simp; (try with_reducible rfl)
      try simp only [Act.put, List.setIfInBounds_toArray, List.set_cons_zero, List.set_cons_succ]
      refine wpAnyL_take (i := 1) (v := ?_) rfl rfl (by kernel_rfl) rfl (by kernel_rfl) (by kernel_rfl) (by kernel_rfl) (fun _ _ _ h => h) (Or.inl ⟨by rfl, ?_⟩) hS0 ?_
      rotate_left
      · intro w hSw; (try dsimp only at hSw); go_simp; (try with_reducible rfl)
      try simp only [Act.put, List.setIfInBounds_toArray, List.set_cons_zero, List.set_cons_succ]
      refine wpAnyL_take (i := 2) (v := ?_) rfl rfl (by kernel_rfl) rfl (by kernel_rfl) (by kernel_rfl) (by kernel_rfl) (fun _ _ _ h => h) (Or.inl ⟨by rfl, ?_⟩) hS0 ?_
      rotate_left
      · intro w hSw; (try dsimp only at hSw); go_simp; (try with_reducible rfl)
      try simp only [Act.put, List.setIfInBounds_toArray, List.set_cons_zero, List.set_cons_succ]
      refine wpAnyL_take (i := 4) (v := ?_) rfl rfl (by kernel_rfl) rfl (by kernel_rfl) (by kernel_rfl) (by kernel_rfl) (fun _ _ _ h => h) (Or.inl ⟨by rfl, ?_⟩) hS0 ?_
      rotate_left
      · intro w hSw; (try dsimp only at hSw); go_simp; (try with_reducible rfl)
      try simp only [Act.put, List.setIfInBounds_toArray, List.set_cons_zero, List.set_cons_succ]
      refine wpAnyL_one (i := 3) (by kernel_rfl) rfl (fun K3 hK3 => ?_)
      go_simp
      refine (i_factors (at5 r) _).mono ?_
      rintro e w2 ⟨rfl, hb2⟩
      have hq2 := hq1.drew.trans hb2
      refine hK3.out _ _ (HS.out _ hq2) (fun _ => ?_)
      clear hK3 K3 hb2
      try simp only [Act.put, List.setIfInBounds_toArray, List.set_cons_zero, List.set_cons_succ]
      refine wpAnyL_one (i := 5) (by kernel_rfl) rfl (fun K3 hK3 => ?_)
      go_simp
      refine (i_banAt (bF (at5 r)) (at5 r) _).mono ?_
      rintro e w3 ⟨rfl, hb3⟩
      have hq3 := hq2.trans (hb3.mono hq2.size)
      have hz3 := hq3.size
      refine hK3.out _ _ (HS.out _ hq3) (fun _ => ?_)
      clear hK3 K3 hb3
      try simp only [Act.put, List.setIfInBounds_toArray, List.set_cons_zero, List.set_cons_succ]
      refine wpAnyL_one (i := 6) (by kernel_rfl) rfl (fun K3 hK3 => ?_)
      go_simp
      refine hK3.out _ _ (HS.out _ (hq3.alloc (by omega) _)) (fun _ => ?_)
      clear hK3 K3
      try simp only [Act.put, List.setIfInBounds_toArray, List.set_cons_zero, List.set_cons_succ]
      refine wpAnyL_one (i := 7) (by kernel_rfl) rfl (fun K3 hK3 => ?_)
      have hown3 := HO.out _ hq3
      refine step_appBn (by rfl) _ _ (by rfl) (w.heap.size + 1 + 1) _ _ (by rfl) hown3 r _ (by rfl) (by rfl) hkl (by omega) ?_
      intro v5 w5 hown5 hg5
      obtain ⟨a5, c5, rfl, hown5⟩ := hown5.slice
      have hS5 := HP5.out w3 w5 hq3 hg5
      refine hK3.out _ _ hS5.1 (fun _ => ?_)
      clear hK3 K3 hown3
      try simp only [Act.put, List.setIfInBounds_toArray, List.set_cons_zero, List.set_cons_succ]
      refine wpAnyL_one (i := 8) (by kernel_rfl) rfl (fun K3 hK3 => ?_)
      go_simp
      refine hK3.out _ _ hS5.1 (fun _ => ?_)
      clear hK3 K3
      try simp only [Act.put, List.setIfInBounds_toArray, List.set_cons_zero, List.set_cons_succ]
      refine wpAnyL_last (by kernel_rfl) rfl (fun K3 hK3 => ?_)
      have e5 := hS5.1.2.2.2.2.2
      have f5 := hS5.2.1
      have hS5 := Lib.hid hS5.2.2
      go_simp
      refine hK3.out _ _ ?_
      clear hK3 K3
      try simp only [Act.put, List.setIfInBounds_toArray, List.set_cons_zero, List.set_cons_succ]
      refine wpAnyL_done (by kernel_rfl) ?_ _
      refine NoPanic.normal ?_
      all_goals
        have hu5 := Lib.hid (set1 (k := 1) hS5.out.2.1 (.slice a5 ((b.take k ++ [r]).length) c5))
        have hk5 := Lib.hid ((Below.heap_setCell w5 ⟨w.heap.size + 1, 1, none⟩ (.slice a5 ((b.take k ++ [r]).length) c5) w.heap.size (by simp)).trans hS5.out.1)
        have ho5 : Hid (OwnBn (w5.setCell ⟨w.heap.size + 1, 1, none⟩ (.slice a5 ((b.take k ++ [r]).length) c5)) (w.heap.size + 1 + 1) (.slice a5 ((b.take k ++ [r]).length) c5) (b.take (k + 1))) := by
          show OwnBn _ _ _ _
          rw [take_snoc hx.out]
          exact hown5.kept fun j _ hj => Below.heap_setCell _ _ _ _ (by have := (hown5.lt j hj).1; simp; omega)
        have hb5 := Lib.hid (hS5.out.2.2.setCell (p := ⟨w.heap.size + 1, 1, none⟩) (by simp) (.slice a5 ((b.take k ++ [r]).length) c5))
        have hlen : (b.take k ++ [r]).length = k + 1 := by simp; omega
        rw [hlen] at hu5 hk5 ho5 hb5
        clear e5 f5 hown5 hg5 hlen
        go_wp2
        go_roundw
        case rel => exact ⟨k + 1, _, by omega, by go_num, hk5.out, hu5.out, ho5.out, hb5.out⟩
        case measure => simp [intOf]; omega
    · have h0H := Lib.hid h0
      obtain ⟨av, cv, rfl, hown⟩ := hown.slice
      have r0 := cell_of_row _ _ 0 _ _ _ h0
      have r1 := cell_of_row _ _ 1 _ _ _ h0
      have c0 := cell_of_row _ _ 0 _ _ _ h1
      have c1 := cell_of_row _ _ 1 _ _ _ h1
      have f0 := frozen5 h0 0
      have f1 := frozen5 h0 1
      simp at r0 r1 c0 c1
      clear h0 h1
      go_wp2
      obtain ⟨fs, hu⟩ := undRul
      have hW := set1 (k := 1) (set1 (k := 0) h0H.out (.slice a n c)) (.slice av k cv)
      have hbW := (hBl.setCell (p := ⟨w.heap.size, 0, none⟩) (by simp) (.slice a n c)).setCell (p := ⟨w.heap.size, 1, none⟩) (by simp) (.slice av k cv)
      refine bodyPost_ret (v := .agg #[.slice a n c, .slice av k cv]) (results_cell_row Try.results131 _ _ _ _ _ (0, 0) (.struct fs) rfl hW hu rfl infoRul) rfl ⟨_, rfl, ?_, hbW⟩
      have hk2 : k = b.length := by omega
      have hown2 : OwnBn wr (w.heap.size + 1 + 1) (.slice av k cv) b := by
        have := hown
        rw [List.take_of_length_le (by omega)] at this
        rw [hk2]; exact this
      exact ((hown2.kept (w' := wr.setCell ⟨w.heap.size, 0, none⟩ (.slice a n c)) fun j _ hj => Below.heap_setCell _ _ _ _ (by have := (hown2.lt j hj).1; simp; omega)).kept fun j _ hj => Below.heap_setCell _ _ _ _ (by have := (hown2.lt j hj).1; simp; omega)).wide (by omega)

end Go.Proofs.Ytehoagbpgahopaa
