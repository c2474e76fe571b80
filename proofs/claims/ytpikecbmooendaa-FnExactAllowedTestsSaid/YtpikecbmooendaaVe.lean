/- Rows of patterns that are written in place: their cells, a place written, the end cleared. -/
import Derived.Laws.IdiomCopy
import Derived.Test.YtpikecbmooendaaWw
import Derived.Test.YtpikecbmooendaaYa
namespace Go.Proofs.Ytpikecbmooendaa
open Go.RowKit

/-- the least number of which something holds -/
theorem leastN {P : Nat → Prop} {n : Nat} (h : P n) : ∃ k, P k ∧ ∀ j, j < k → ¬ P j := by
  induction n using Nat.strongRecOn with
  | ind n ih =>
    by_cases hx : ∃ m, m < n ∧ P m
    · obtain ⟨m, h1, h2⟩ := hx
      exact ih m h1 h2
    · exact ⟨n, h, fun j hj hp => hx ⟨j, hj, hp⟩⟩
/-- the block g of room for cap patterns begins with the patterns ps -/
def RowP (w : World) (g cap : Nat) (ps : List (List Int)) : Prop :=
  ∃ cur : Array Value, w.heap[g]? = some (.cells cur 62 (0, 0)) ∧ ps.length ≤ cap ∧ cap ≤ maxLen ∧ cur.size = cap * 5 ∧ ∀ k l, ps[k]? = some l → ∀ j, j < 5 → cur[k * 5 + j]? = some (.int .i64 (at5 l j))
theorem OwnP.row {w : World} {B : Nat} {v : Value} {ps : List (List Int)} (h : OwnP w B v ps) (hne : ps ≠ []) : ∃ g cap, v = .slice (some ⟨g, 0, none⟩) ps.length cap ∧ B ≤ g ∧ RowP w g cap ps := by
  rcases h.2 with ⟨rfl, h0⟩ | ⟨g, cap, cur, rfl, hb, hg, hn, hm, hs, ht⟩
  · exact absurd (List.eq_nil_of_length_eq_zero h0) hne
  · refine ⟨g, cap, rfl, hb, cur, hg, hn, hm, hs, fun k l e j hj => ?_⟩
    have e2 := cs5_at e hj
    rw [← ht, List.getElem?_take] at e2
    split at e2
    · simpa using e2
    · cases e2
theorem cs5_len (ps : List (List Int)) : (ps.flatMap cs5).length = ps.length * 5 := by
  induction ps with
  | nil => rfl
  | cons p ps ih => rw [List.flatMap_cons, List.length_append, ih, List.length_cons]; show 5 + _ = _; omega
theorem RowP.own {w : World} {g cap B : Nat} {ps : List (List Int)} (h : RowP w g cap ps) (hB : B ≤ g) : OwnP w B (.slice (some ⟨g, 0, none⟩) ps.length cap) ps := by
  obtain ⟨cur, hg, hn, hm, hs, ht⟩ := h
  refine ⟨cs5_len ps, .inr ⟨g, cap, cur, rfl, hB, hg, hn, hm, hs, ?_⟩⟩
  apply List.ext_getElem?
  intro i
  by_cases hi : i < ps.length * 5
  · rw [List.getElem?_take, if_pos hi]
    obtain ⟨l, hl⟩ := at_of_lt (show i / 5 < ps.length by omega)
    have h1 := ht _ l hl (i % 5) (by omega)
    have h2 := cs5_at hl (show i % 5 < 5 by omega)
    have e : i / 5 * 5 + i % 5 = i := by omega
    rw [e] at h1 h2
    rw [h2]; simpa using h1
  · rw [List.getElem?_eq_none (by rw [List.length_take]; omega), List.getElem?_eq_none (by rw [cs5_len]; omega)]
theorem RowP.same {w w' : World} {g cap : Nat} {ps : List (List Int)} (h : RowP w g cap ps) (e : w'.heap[g]? = w.heap[g]?) : RowP w' g cap ps := by
  obtain ⟨cur, hg, rest⟩ := h
  exact ⟨cur, e.trans hg, rest⟩
theorem RowP.take {w : World} {g cap : Nat} {ps : List (List Int)} (h : RowP w g cap ps) (n : Nat) : RowP w g cap (ps.take n) := by
  obtain ⟨cur, hg, hn, hm, hs, ht⟩ := h
  refine ⟨cur, hg, by rw [List.length_take]; omega, hm, hs, fun k l e j hj => ht k l ?_ j hj⟩
  rw [List.getElem?_take] at e
  split at e
  · exact e
  · cases e
theorem RowP.lt {w : World} {g cap : Nat} {ps : List (List Int)} (h : RowP w g cap ps) : g < w.heap.size := by
  obtain ⟨cur, hg, _⟩ := h
  exact (Array.getElem?_eq_some_iff.1 hg).1
theorem RowP.cell {w : World} {g cap : Nat} {ps : List (List Int)} (h : RowP w g cap ps) {k : Nat} {l : List Int} (e : ps[k]? = some l) (j : Nat) (hj : j < 5) : w.cell? ⟨g, k * 5 + j, none⟩ = some (.int .i64 (at5 l j)) := by
  obtain ⟨cur, hg, _, _, _, ht⟩ := h
  rw [cell_of_row w g _ cur _ (0, 0) hg]; exact ht k l e j hj
theorem RowP.frozen {w : World} {g cap : Nat} {ps : List (List Int)} (h : RowP w g cap ps) (k : Nat) : w.frozen? ⟨g, k, none⟩ = false := by
  obtain ⟨cur, hg, _⟩ := h
  exact World.rowIs.frozen (t := 62) (n := cur.size) (f := fun i => cur.getD i undef) ⟨cur, hg, rfl, fun i hi => by simp [Array.getD, hi]⟩ k
theorem RowP.idx {g cap n k : Nat} (hk : k < n) (wx : World) : (Instr.indexAt 59 (.slice (some ⟨g, 0, none⟩) n cap) (.int .i64 (k : Int))).run Try.prog wx = .ok (.pointer (some ⟨g, k * 5, none⟩)) wx := by
  have h1 := sizePat wx
  simp [Instr.indexAt, run_underlying undPs, asIntOf, hk, Addr.add]
  try omega
theorem heap_set1 {w : World} {b t f : Nat} {c : Array Value} (h : w.heap[b]? = some (.cells c t (0, 0))) (v : Value) : (w.setCell ⟨b, f, none⟩ v).heap[b]? = some (.cells (c.setIfInBounds f v) t (0, 0)) := by
  simp only [World.setCell, Array.getElem?_modify, if_true]; rw [h]; rfl
/-- one place of it written -/
theorem RowP.set {w : World} {g cap : Nat} {ps : List (List Int)} (h : RowP w g cap ps) {i : Nat} (hi : i < ps.length) (l : List Int) :
    ∃ W, W = (((((w.setCell ⟨g, i * 5, none⟩ (.int .i64 (at5 l 0))).setCell ⟨g, i * 5 + 1, none⟩ (.int .i64 (at5 l 1))).setCell ⟨g, i * 5 + 2, none⟩ (.int .i64 (at5 l 2))).setCell ⟨g, i * 5 + 3, none⟩ (.int .i64 (at5 l 3))).setCell ⟨g, i * 5 + 4, none⟩ (.int .i64 (at5 l 4))) ∧
      RowP W g cap (ps.set i l) ∧ w.grownBy W (some g) := by
  obtain ⟨cur, hg, hn, hm, hs, ht⟩ := h
  have h0 := heap_set1 hg (f := i * 5) (.int .i64 (at5 l 0))
  have h1 := heap_set1 h0 (f := i * 5 + 1) (.int .i64 (at5 l 1))
  have h2 := heap_set1 h1 (f := i * 5 + 2) (.int .i64 (at5 l 2))
  have h3 := heap_set1 h2 (f := i * 5 + 3) (.int .i64 (at5 l 3))
  have h4 := heap_set1 h3 (f := i * 5 + 4) (.int .i64 (at5 l 4))
  refine ⟨_, rfl, ⟨_, h4, by rw [List.length_set]; exact hn, hm, by simp only [Array.size_setIfInBounds]; exact hs, fun k q e j hj => ?_⟩, ?_⟩
  · rw [List.getElem?_set] at e
    simp only [Array.getElem?_setIfInBounds, Array.size_setIfInBounds]
    by_cases hk : i = k
    · subst hk
      rw [if_pos rfl, if_pos hi] at e
      obtain rfl : l = q := Option.some.inj e
      obtain rfl | rfl | rfl | rfl | rfl : j = 0 ∨ j = 1 ∨ j = 2 ∨ j = 3 ∨ j = 4 := by omega
      · rw [if_neg (by omega), if_neg (by omega), if_neg (by omega), if_neg (by omega), if_pos (by omega), if_pos (by omega)]
      · rw [if_neg (by omega), if_neg (by omega), if_neg (by omega), if_pos (by omega), if_pos (by omega)]
      · rw [if_neg (by omega), if_neg (by omega), if_pos (by omega), if_pos (by omega)]
      · rw [if_neg (by omega), if_pos (by omega), if_pos (by omega)]
      · rw [if_pos (by omega), if_pos (by omega)]
    · rw [if_neg hk] at e
      have e0 := ht k q e j hj
      rw [if_neg (by omega), if_neg (by omega), if_neg (by omega), if_neg (by omega), if_neg (by omega)]
      exact e0
  · refine ⟨by simp only [World.setCell], by simp only [World.setCell], by simp only [World.setCell], by simp only [World.setCell, Array.size_modify, Nat.le_refl], fun k _ hk => ?_⟩
    have hk2 : g ≠ k := fun e => hk (by rw [e])
    simp only [World.setCell, Array.getElem?_modify, if_neg hk2]
/-- cells set one by one from a place on -/
theorem setCells_row (b : Nat) : ∀ (vs : List Value) (o : Nat) (w : World) (cur : Array Value) (t : Nat), w.heap[b]? = some (.cells cur t (0, 0)) →
    ∃ cur' : Array Value, (w.setCells b o vs).heap[b]? = some (.cells cur' t (0, 0)) ∧ cur'.size = cur.size ∧ (∀ i, i < o → cur'[i]? = cur[i]?) ∧ w.grownBy (w.setCells b o vs) (some b)
  | [], o, w, cur, t, h => ⟨cur, h, rfl, fun _ _ => rfl, ⟨rfl, rfl, rfl, Nat.le_refl _, fun _ _ _ => rfl⟩⟩
  | v :: r, o, w, cur, t, h => by
    obtain ⟨cur', h1, h2, h3, h4⟩ := setCells_row b r (o + 1) (w.setCell ⟨b, o, none⟩ v) (cur.setIfInBounds o v) t (heap_set1 h v)
    refine ⟨cur', h1, by rw [h2, Array.size_setIfInBounds], fun i hi => ?_, ?_⟩
    · rw [h3 i (by omega), Array.getElem?_setIfInBounds, if_neg (by omega)]
    · have hs : (w.setCell ⟨b, o, none⟩ v).heap.size = w.heap.size := by simp only [World.setCell, Array.size_modify]
      refine ⟨h4.os, h4.tape, h4.output, by have := h4.size; rw [hs] at this; exact this, fun k hk hn => (h4.block k (by rw [hs]; exact hk) hn).trans ?_⟩
      have hk2 : b ≠ k := fun e => hn (by rw [e])
      simp only [World.setCell, Array.getElem?_modify, if_neg hk2]
theorem zeroPat (w : World) : (zeroValue 62).run Try.prog w = .ok (.agg #[.int .i64 ((fun _ => 0) 0), .int .i64 ((fun _ => 0) 1), .int .i64 ((fun _ => 0) 2), .int .i64 ((fun _ => 0) 3), .int .i64 ((fun _ => 0) 4)]) w := by kernel_rfl
/-- the end of it cleared -/
theorem run_clearP {w : World} {g cap : Nat} {ps : List (List Int)} (h : RowP w g cap ps) {i n c : Nat} (hn : 0 < n) (hi : i + n ≤ ps.length) (ty : TypeId) :
    ∃ W, (Builtin.clear_ #[59] ty #[.slice (some ⟨g, i * 5, none⟩) n c]).run Try.prog w = .ok (.tuple #[]) W ∧ RowP W g cap (ps.take i) ∧ w.grownBy W (some g) := by
  have hRow := h
  obtain ⟨cur, hg, hl, hm, hs, ht⟩ := h
  have hlen : (Builtin.zeroCells (Value.agg #[.int .i64 ((fun _ => 0) 0), .int .i64 ((fun _ => 0) 1), .int .i64 ((fun _ => 0) 2), .int .i64 ((fun _ => 0) 3), .int .i64 ((fun _ => 0) 4)]).cells n).toList.length = n * 5 := by simp [Builtin.zeroCells, Value.cells]
  have hcell : ∀ j, j < n * 5 → (w.cell? ⟨g, i * 5 + j, none⟩).isSome = true := fun j hj => by
    rw [cell_of_row w g _ cur _ (0, 0) hg]
    rw [Array.getElem?_eq_getElem (by omega)]; rfl
  have hst := run_storeCells_cells (P := Try.prog) g (i * 5) (Builtin.zeroCells (Value.agg #[.int .i64 ((fun _ => 0) 0), .int .i64 ((fun _ => 0) 1), .int .i64 ((fun _ => 0) 2), .int .i64 ((fun _ => 0) 3), .int .i64 ((fun _ => 0) 4)]).cells n).toList 0 w (fun j hj => by simpa using hcell j (by rw [hlen] at hj; exact hj)) (fun j _ => by simpa using hRow.frozen _) (by
    intro v hv
    rw [Array.mem_toList_iff] at hv
    unfold Builtin.zeroCells at hv
    obtain ⟨i, _, rfl⟩ := Array.mem_map.1 hv
    have h5 : i % (Value.agg #[.int .i64 ((fun _ => 0) 0), .int .i64 ((fun _ => 0) 1), .int .i64 ((fun _ => 0) 2), .int .i64 ((fun _ => 0) 3), .int .i64 ((fun _ => 0) 4)]).cells.size < 5 := Nat.mod_lt _ (by decide)
    generalize i % (Value.agg #[.int .i64 ((fun _ => 0) 0), .int .i64 ((fun _ => 0) 1), .int .i64 ((fun _ => 0) 2), .int .i64 ((fun _ => 0) 3), .int .i64 ((fun _ => 0) 4)]).cells.size = q at h5 ⊢
    obtain rfl | rfl | rfl | rfl | rfl : q = 0 ∨ q = 1 ∨ q = 2 ∨ q = 3 ∨ q = 4 := by omega
    all_goals rfl)
  simp only [Nat.add_zero] at hst
  obtain ⟨cur', k1, k2, k3, k4⟩ := setCells_row g (Builtin.zeroCells (Value.agg #[.int .i64 ((fun _ => 0) 0), .int .i64 ((fun _ => 0) 1), .int .i64 ((fun _ => 0) 2), .int .i64 ((fun _ => 0) 3), .int .i64 ((fun _ => 0) 4)]).cells n).toList (i * 5) w cur _ hg
  obtain ⟨m, rfl⟩ : ∃ m, n = m + 1 := ⟨n - 1, by omega⟩
  refine ⟨_, ?_, ⟨cur', k1, by rw [List.length_take]; omega, hm, by rw [k2]; exact hs, fun k l e j hj => ?_⟩, k4⟩
  · simp [Builtin.clear_, run_underlying undPs, zeroPat, hst]
  · rw [List.getElem?_take] at e
    split at e
    · rename_i hk
      rw [k3 _ (by omega)]; exact ht k l e j hj
    · cases e

end Go.Proofs.Ytpikecbmooendaa
