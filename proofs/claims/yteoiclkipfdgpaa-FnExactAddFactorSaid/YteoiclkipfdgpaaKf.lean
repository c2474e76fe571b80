/- Rows of patterns that are written in place: their cells, a place written, the end cleared; slices.DeleteFunc with the closure of AddFactor. -/
import Derived.Laws.IdiomCopy
import Derived.Test.YteoiclkipfdgpaaWv
import Derived.Test.YteoiclkipfdgpaaYa
import Derived.Test.YteoiclkipfdgpaaWu
import Derived.Test.YteoiclkipfdgpaaZg
namespace Go.Proofs.Yteoiclkipfdgpaa
open Go.RowKit

/-- the least number of which something holds -/
theorem leastN {P : Nat → Prop} {n : Nat} (h : P n) : ∃ k, P k ∧ ∀ j, j < k → ¬ P j := by
  induction n using Nat.strongRecOn with
  | ind n ih =>
    by_cases hx : ∃ m, m < n ∧ P m
    · obtain ⟨m, h1, h2⟩ := hx
      exact ih m h1 h2
    · exact ⟨n, h, fun j hj hp => hx ⟨j, hj, hp⟩⟩
/-- the block g of room for cap patterns begins with the patterns ps -/
def RowP (w : World) (g cap : Nat) (ps : List (List Int)) : Prop :=
  ∃ cur : Array Value, w.heap[g]? = some (.cells cur 50 (0, 0)) ∧ ps.length ≤ cap ∧ cap ≤ maxLen ∧ cur.size = cap * 5 ∧ ∀ k l, ps[k]? = some l → ∀ j, j < 5 → cur[k * 5 + j]? = some (.int .i64 (at5 l j))
theorem OwnP.row {w : World} {B : Nat} {v : Value} {ps : List (List Int)} (h : OwnP w B v ps) (hne : ps ≠ []) : ∃ g cap, v = .slice (some ⟨g, 0, none⟩) ps.length cap ∧ B ≤ g ∧ RowP w g cap ps := by
  rcases h.2 with ⟨rfl, h0⟩ | ⟨g, cap, cur, rfl, hb, hg, hn, hm, hs, ht⟩
  · exact absurd (List.eq_nil_of_length_eq_zero h0) hne
  · refine ⟨g, cap, rfl, hb, cur, hg, hn, hm, hs, fun k l e j hj => ?_⟩
    have e2 := cs5_at e hj
    rw [← ht, List.getElem?_take] at e2
    split at e2
    · simpa using e2
    · cases e2
theorem cs5_len (ps : List (List Int)) : (ps.flatMap cs5).length = ps.length * 5 := by
  induction ps with
  | nil => rfl
  | cons p ps ih => rw [List.flatMap_cons, List.length_append, ih, List.length_cons]; show 5 + _ = _; omega
theorem RowP.own {w : World} {g cap B : Nat} {ps : List (List Int)} (h : RowP w g cap ps) (hB : B ≤ g) : OwnP w B (.slice (some ⟨g, 0, none⟩) ps.length cap) ps := by
  obtain ⟨cur, hg, hn, hm, hs, ht⟩ := h
  refine ⟨cs5_len ps, .inr ⟨g, cap, cur, rfl, hB, hg, hn, hm, hs, ?_⟩⟩
  apply List.ext_getElem?
  intro i
  by_cases hi : i < ps.length * 5
  · rw [List.getElem?_take, if_pos hi]
    obtain ⟨l, hl⟩ := at_of_lt (show i / 5 < ps.length by omega)
    have h1 := ht _ l hl (i % 5) (by omega)
    have h2 := cs5_at hl (show i % 5 < 5 by omega)
    have e : i / 5 * 5 + i % 5 = i := by omega
    rw [e] at h1 h2
    rw [h2]; simpa using h1
  · rw [List.getElem?_eq_none (by rw [List.length_take]; omega), List.getElem?_eq_none (by rw [cs5_len]; omega)]
theorem RowP.same {w w' : World} {g cap : Nat} {ps : List (List Int)} (h : RowP w g cap ps) (e : w'.heap[g]? = w.heap[g]?) : RowP w' g cap ps := by
  obtain ⟨cur, hg, rest⟩ := h
  exact ⟨cur, e.trans hg, rest⟩
theorem RowP.take {w : World} {g cap : Nat} {ps : List (List Int)} (h : RowP w g cap ps) (n : Nat) : RowP w g cap (ps.take n) := by
  obtain ⟨cur, hg, hn, hm, hs, ht⟩ := h
  refine ⟨cur, hg, by rw [List.length_take]; omega, hm, hs, fun k l e j hj => ht k l ?_ j hj⟩
  rw [List.getElem?_take] at e
  split at e
  · exact e
  · cases e
theorem RowP.lt {w : World} {g cap : Nat} {ps : List (List Int)} (h : RowP w g cap ps) : g < w.heap.size := by
  obtain ⟨cur, hg, _⟩ := h
  exact (Array.getElem?_eq_some_iff.1 hg).1
theorem RowP.cell {w : World} {g cap : Nat} {ps : List (List Int)} (h : RowP w g cap ps) {k : Nat} {l : List Int} (e : ps[k]? = some l) (j : Nat) (hj : j < 5) : w.cell? ⟨g, k * 5 + j, none⟩ = some (.int .i64 (at5 l j)) := by
  obtain ⟨cur, hg, _, _, _, ht⟩ := h
  rw [cell_of_row w g _ cur _ (0, 0) hg]; exact ht k l e j hj
theorem RowP.frozen {w : World} {g cap : Nat} {ps : List (List Int)} (h : RowP w g cap ps) (k : Nat) : w.frozen? ⟨g, k, none⟩ = false := by
  obtain ⟨cur, hg, _⟩ := h
  exact World.rowIs.frozen (t := 50) (n := cur.size) (f := fun i => cur.getD i undef) ⟨cur, hg, rfl, fun i hi => by simp [Array.getD, hi]⟩ k
theorem RowP.idx {g cap n k : Nat} (hk : k < n) (wx : World) : (Instr.indexAt 47 (.slice (some ⟨g, 0, none⟩) n cap) (.int .i64 (k : Int))).run Try.prog wx = .ok (.pointer (some ⟨g, k * 5, none⟩)) wx := by
  have h1 := sizePat wx
  simp [Instr.indexAt, run_underlying undPs, asIntOf, hk, Addr.add]
  try omega
theorem heap_set1 {w : World} {b t f : Nat} {c : Array Value} (h : w.heap[b]? = some (.cells c t (0, 0))) (v : Value) : (w.setCell ⟨b, f, none⟩ v).heap[b]? = some (.cells (c.setIfInBounds f v) t (0, 0)) := by
  simp only [World.setCell, Array.getElem?_modify, if_true]; rw [h]; rfl
/-- one place of it written -/
theorem RowP.set {w : World} {g cap : Nat} {ps : List (List Int)} (h : RowP w g cap ps) {i : Nat} (hi : i < ps.length) (l : List Int) :
    ∃ W, W = (((((w.setCell ⟨g, i * 5, none⟩ (.int .i64 (at5 l 0))).setCell ⟨g, i * 5 + 1, none⟩ (.int .i64 (at5 l 1))).setCell ⟨g, i * 5 + 2, none⟩ (.int .i64 (at5 l 2))).setCell ⟨g, i * 5 + 3, none⟩ (.int .i64 (at5 l 3))).setCell ⟨g, i * 5 + 4, none⟩ (.int .i64 (at5 l 4))) ∧
      RowP W g cap (ps.set i l) ∧ w.grownBy W (some g) := by
  obtain ⟨cur, hg, hn, hm, hs, ht⟩ := h
  have h0 := heap_set1 hg (f := i * 5) (.int .i64 (at5 l 0))
  have h1 := heap_set1 h0 (f := i * 5 + 1) (.int .i64 (at5 l 1))
  have h2 := heap_set1 h1 (f := i * 5 + 2) (.int .i64 (at5 l 2))
  have h3 := heap_set1 h2 (f := i * 5 + 3) (.int .i64 (at5 l 3))
  have h4 := heap_set1 h3 (f := i * 5 + 4) (.int .i64 (at5 l 4))
  refine ⟨_, rfl, ⟨_, h4, by rw [List.length_set]; exact hn, hm, by simp only [Array.size_setIfInBounds]; exact hs, fun k q e j hj => ?_⟩, ?_⟩
  · rw [List.getElem?_set] at e
    simp only [Array.getElem?_setIfInBounds, Array.size_setIfInBounds]
    by_cases hk : i = k
    · subst hk
      rw [if_pos rfl, if_pos hi] at e
      obtain rfl : l = q := Option.some.inj e
      obtain rfl | rfl | rfl | rfl | rfl : j = 0 ∨ j = 1 ∨ j = 2 ∨ j = 3 ∨ j = 4 := by omega
      · rw [if_neg (by omega), if_neg (by omega), if_neg (by omega), if_neg (by omega), if_pos (by omega), if_pos (by omega)]
      · rw [if_neg (by omega), if_neg (by omega), if_neg (by omega), if_pos (by omega), if_pos (by omega)]
      · rw [if_neg (by omega), if_neg (by omega), if_pos (by omega), if_pos (by omega)]
      · rw [if_neg (by omega), if_pos (by omega), if_pos (by omega)]
      · rw [if_pos (by omega), if_pos (by omega)]
    · rw [if_neg hk] at e
      have e0 := ht k q e j hj
      rw [if_neg (by omega), if_neg (by omega), if_neg (by omega), if_neg (by omega), if_neg (by omega)]
      exact e0
  · refine ⟨by simp only [World.setCell], by simp only [World.setCell], by simp only [World.setCell], by simp only [World.setCell, Array.size_modify, Nat.le_refl], fun k _ hk => ?_⟩
    have hk2 : g ≠ k := fun e => hk (by rw [e])
    simp only [World.setCell, Array.getElem?_modify, if_neg hk2]
/-- cells set one by one from a place on -/
theorem setCells_row (b : Nat) : ∀ (vs : List Value) (o : Nat) (w : World) (cur : Array Value) (t : Nat), w.heap[b]? = some (.cells cur t (0, 0)) →
    ∃ cur' : Array Value, (w.setCells b o vs).heap[b]? = some (.cells cur' t (0, 0)) ∧ cur'.size = cur.size ∧ (∀ i, i < o → cur'[i]? = cur[i]?) ∧ w.grownBy (w.setCells b o vs) (some b)
  | [], o, w, cur, t, h => ⟨cur, h, rfl, fun _ _ => rfl, ⟨rfl, rfl, rfl, Nat.le_refl _, fun _ _ _ => rfl⟩⟩
  | v :: r, o, w, cur, t, h => by
    obtain ⟨cur', h1, h2, h3, h4⟩ := setCells_row b r (o + 1) (w.setCell ⟨b, o, none⟩ v) (cur.setIfInBounds o v) t (heap_set1 h v)
    refine ⟨cur', h1, by rw [h2, Array.size_setIfInBounds], fun i hi => ?_, ?_⟩
    · rw [h3 i (by omega), Array.getElem?_setIfInBounds, if_neg (by omega)]
    · have hs : (w.setCell ⟨b, o, none⟩ v).heap.size = w.heap.size := by simp only [World.setCell, Array.size_modify]
      refine ⟨h4.os, h4.tape, h4.output, by have := h4.size; rw [hs] at this; exact this, fun k hk hn => (h4.block k (by rw [hs]; exact hk) hn).trans ?_⟩
      have hk2 : b ≠ k := fun e => hn (by rw [e])
      simp only [World.setCell, Array.getElem?_modify, if_neg hk2]
theorem zeroPat (w : World) : (zeroValue 50).run Try.prog w = .ok (.agg #[.int .i64 ((fun _ => 0) 0), .int .i64 ((fun _ => 0) 1), .int .i64 ((fun _ => 0) 2), .int .i64 ((fun _ => 0) 3), .int .i64 ((fun _ => 0) 4)]) w := by kernel_rfl
/-- the end of it cleared -/
theorem run_clearP {w : World} {g cap : Nat} {ps : List (List Int)} (h : RowP w g cap ps) {i n c : Nat} (hn : 0 < n) (hi : i + n ≤ ps.length) (ty : TypeId) :
    ∃ W, (Builtin.clear_ #[47] ty #[.slice (some ⟨g, i * 5, none⟩) n c]).run Try.prog w = .ok (.tuple #[]) W ∧ RowP W g cap (ps.take i) ∧ w.grownBy W (some g) := by
  have hRow := h
  obtain ⟨cur, hg, hl, hm, hs, ht⟩ := h
  have hlen : (Builtin.zeroCells (Value.agg #[.int .i64 ((fun _ => 0) 0), .int .i64 ((fun _ => 0) 1), .int .i64 ((fun _ => 0) 2), .int .i64 ((fun _ => 0) 3), .int .i64 ((fun _ => 0) 4)]).cells n).toList.length = n * 5 := by simp [Builtin.zeroCells, Value.cells]
  have hcell : ∀ j, j < n * 5 → (w.cell? ⟨g, i * 5 + j, none⟩).isSome = true := fun j hj => by
    rw [cell_of_row w g _ cur _ (0, 0) hg]
    rw [Array.getElem?_eq_getElem (by omega)]; rfl
  have hst := run_storeCells_cells (P := Try.prog) g (i * 5) (Builtin.zeroCells (Value.agg #[.int .i64 ((fun _ => 0) 0), .int .i64 ((fun _ => 0) 1), .int .i64 ((fun _ => 0) 2), .int .i64 ((fun _ => 0) 3), .int .i64 ((fun _ => 0) 4)]).cells n).toList 0 w (fun j hj => by simpa using hcell j (by rw [hlen] at hj; exact hj)) (fun j _ => by simpa using hRow.frozen _) (by
    intro v hv
    rw [Array.mem_toList_iff] at hv
    unfold Builtin.zeroCells at hv
    obtain ⟨i, _, rfl⟩ := Array.mem_map.1 hv
    have h5 : i % (Value.agg #[.int .i64 ((fun _ => 0) 0), .int .i64 ((fun _ => 0) 1), .int .i64 ((fun _ => 0) 2), .int .i64 ((fun _ => 0) 3), .int .i64 ((fun _ => 0) 4)]).cells.size < 5 := Nat.mod_lt _ (by decide)
    generalize i % (Value.agg #[.int .i64 ((fun _ => 0) 0), .int .i64 ((fun _ => 0) 1), .int .i64 ((fun _ => 0) 2), .int .i64 ((fun _ => 0) 3), .int .i64 ((fun _ => 0) 4)]).cells.size = q at h5 ⊢
    obtain rfl | rfl | rfl | rfl | rfl : q = 0 ∨ q = 1 ∨ q = 2 ∨ q = 3 ∨ q = 4 := by omega
    all_goals rfl)
  simp only [Nat.add_zero] at hst
  obtain ⟨cur', k1, k2, k3, k4⟩ := setCells_row g (Builtin.zeroCells (Value.agg #[.int .i64 ((fun _ => 0) 0), .int .i64 ((fun _ => 0) 1), .int .i64 ((fun _ => 0) 2), .int .i64 ((fun _ => 0) 3), .int .i64 ((fun _ => 0) 4)]).cells n).toList (i * 5) w cur _ hg
  obtain ⟨m, rfl⟩ : ∃ m, n = m + 1 := ⟨n - 1, by omega⟩
  refine ⟨_, ?_, ⟨cur', k1, by rw [List.length_take]; omega, hm, by rw [k2]; exact hs, fun k l e j hj => ?_⟩, k4⟩
  · simp [Builtin.clear_, run_underlying undPs, zeroPat, hst]
  · rw [List.getElem?_take] at e
    split at e
    · rename_i hk
      rw [k3 _ (by omega)]; exact ht k l e j hj
    · cases e

/- Walks: slices.IndexFunc and slices.DeleteFunc over patterns. -/
open Go.RowKit

/-- the index of the first one, or -1 -/
def ixI (q : List Int → Bool) (ps : List (List Int)) : Int := if ps.findIdx q < ps.length then (ps.findIdx q : Int) else -1
theorem ix_yes {q : List Int → Bool} {ps : List (List Int)} {k : Nat} {l : List Int} (hx : ps[k]? = some l) (hq : q l = true) (hA : ∀ j, j < k → ∀ l, ps[j]? = some l → q l = false) : ixI q ps = k := by
  have hk := lt_of_at hx
  have h1 : ps.findIdx q = k := by
    rw [List.findIdx_eq hk]
    refine ⟨?_, fun j hj => ?_⟩
    · have : ps[k] = l := by rw [List.getElem?_eq_getElem hk] at hx; exact Option.some.inj hx
      rw [this]; exact hq
    · exact hA j hj _ (List.getElem?_eq_getElem (by omega))
  unfold ixI; rw [h1, if_pos hk]
theorem ix_no {q : List Int → Bool} {ps : List (List Int)} (hA : ∀ j, j < ps.length → ∀ l, ps[j]? = some l → q l = false) : ixI q ps = -1 ∧ ps.filter (fun l => !q l) = ps := by
  have h0 : ∀ x ∈ ps, q x = false := fun x hx => by
    obtain ⟨j, hj⟩ := List.getElem?_of_mem hx
    exact hA j (lt_of_at hj) x hj
  constructor
  · unfold ixI
    rw [List.findIdx_eq_length.2 h0, if_neg (Nat.lt_irrefl _)]
  · rw [List.filter_eq_self]; intro x hx; rw [h0 x hx]; rfl
theorem below_grown {w w' : World} (h : Below w.heap.size w w') (o : Option Nat) : w.grownBy w' o := ⟨h.os, h.tape, h.output, h.size, fun k hk _ => h.block k hk⟩
theorem grown_trans {a b c : World} {o : Option Nat} (h : a.grownBy b o) (k : b.grownBy c o) : a.grownBy c o :=
  ⟨k.os.trans h.os, k.tape.trans h.tape, k.output.trans h.output, Nat.le_trans h.size k.size, fun j hj hn => (k.block j (Nat.lt_of_lt_of_le hj h.size) hn).trans (h.block j hj hn)⟩
theorem take_set {α : Type} (cur : List α) (i : Nat) (l : α) (h : i < cur.length) : (cur.set i l).take (i + 1) = cur.take i ++ [l] := by
  rw [List.take_add_one, List.take_set_of_le (Nat.le_refl _), List.getElem?_set_self h]; rfl
theorem drop_set {α : Type} (cur : List α) (i j : Nat) (l : α) (h : i < j) : (cur.set i l).drop j = cur.drop j := List.drop_set_of_lt h
theorem drop_next {α : Type} {cur ps : List α} {j : Nat} (h : cur.drop j = ps.drop j) : cur.drop (j + 1) = ps.drop (j + 1) := by
  rw [← List.drop_drop, ← List.drop_drop, h]
theorem drop_at {α : Type} {cur ps : List α} {j : Nat} (h : cur.drop j = ps.drop j) : cur[j]? = ps[j]? := by
  have := congrArg (fun l => l[0]?) h
  simpa using this

set_option maxRecDepth 100000 in
set_option maxHeartbeats 2000000 in
theorem x_IndexAdd {ps : List (List Int)} {v : Value} {B : Nat} {w : World} (rec : Value) (q : List Int → Bool) (ho : OwnP w B v ps) (hl : ps.length ≤ 1048576)
    (hcl : ∀ l ∈ ps, ∀ w', w.grownBy w' v.ownBlock → Calls Try.prog 33 #[.agg #[.int .i64 (at5 l 0), .int .i64 (at5 l 1), .int .i64 (at5 l 2), .int .i64 (at5 l 3), .int .i64 (at5 l 4)], rec] w' (NewV w' (.bool (q l)))) :
    Calls Try.prog 60 #[v, .func (.func 33) #[] #[rec]] w (NewV w (.int .i64 (ixI q ps))) := by
  obtain ⟨a, c, rfl, hat⟩ := ho.at
  have HAT := Lib.hid hat
  have HCL := Lib.hid hcl
  obtain ⟨M, hM⟩ : ∃ M, ps.length = M := ⟨_, rfl⟩
  have HNN := Lib.hid hM
  have hMl : M ≤ 1048576 := by omega
  rw [hM]
  clear hat ho hM hl hcl
  go_enter Try.func60, Try.ntmps60
  go_wp2
  go_loopw [8] (fun i wr => ∃ k : Nat, k ≤ M ∧ i = .int .i64 k ∧ Below w.heap.size w wr ∧ Hid (∀ j, j < k → ∀ l, ps[j]? = some l → q l = false)) (fun i _ => M - (intOf i).toNat)
  case atStart => exact ⟨0, Nat.zero_le _, rfl, Below.refl _ _, fun j hj => by omega⟩
  case round =>
    obtain ⟨k, hk, rfl, hB3, hA⟩ := hrel
    have hz3 := hB3.size
    by_cases hlt : k < M
    · obtain ⟨l, hx⟩ := at_of_lt (show k < ps.length by have := HNN.out; omega)
      obtain ⟨g, hg1, hg2, hidx, hcs⟩ := HAT.out k l hx
      have HX := Lib.hid hx
      rw [HNN.out] at hidx
      have hc (j : Nat) (hj : j < 5) : wr.cell? ⟨g, k * 5 + j, none⟩ = some (.int .i64 (at5 l j)) := (hB3.cell (p := ⟨g, k * 5 + j, none⟩) hg2).trans (hcs j hj)
      have hc0 := hc 0 (by omega)
      have hc1 := hc 1 (by omega)
      have hc2 := hc 2 (by omega)
      have hc3' := hc 3 (by omega)
      have hc4 := hc 4 (by omega)
      simp only [Nat.add_zero] at hc0
      have hcall := Lib.hid (HCL.out l (List.mem_of_getElem? hx) wr (below_grown hB3 _))
      clear hc hcs hx
      cases hm : q l
      · have HM := Lib.hid hm; clear hm
        have HA : Hid (∀ j, j < k + 1 → ∀ l, ps[j]? = some l → q l = false) := fun j hj l' hl' => by
          by_cases e : j = k
          · subst e; have := HX.out.symm.trans hl'; cases this; exact HM.out
          · exact hA.out j (by omega) l' hl'
        go_wp2_with fail
        refine hcall.out.mono ?_
        rintro e w2 ⟨rfl, hb2⟩
        rw [HM.out]
        have hB5 : Below w.heap.size w w2 := hB3.trans (hb2.mono (by omega))
        clear hc0 hc1 hc2 hc3' hc4 hb2 hB3
        go_wp2
        go_roundw
        case rel => exact ⟨k + 1, by omega, by go_num, hB5, HA⟩
        case measure => simp [intOf]; omega
      · have HM := Lib.hid hm; clear hm
        have HI : Hid (ixI q ps = k) := ix_yes HX.out HM.out hA.out
        go_wp2_with fail
        refine hcall.out.mono ?_
        rintro e w2 ⟨rfl, hb2⟩
        rw [HM.out]
        have hB5 : Below w.heap.size w w2 := hB3.trans (hb2.mono (by omega))
        go_wp2
        go_ret
        exact ⟨by rw [HI.out]; rfl, hB5⟩
    · have HI := ix_no (q := q) (ps := ps) fun j hj => hA.out j (by have := HNN.out; omega)
      have HI := Lib.hid HI.1
      go_wp2
      go_ret
      exact ⟨by rw [HI.out]; rfl, hB3⟩

set_option maxRecDepth 100000 in
set_option maxHeartbeats 4000000 in
theorem x_DelAdd {ps : List (List Int)} {v : Value} {B : Nat} {w : World} (rec : Value) (q : List Int → Bool) (ho : OwnP w B v ps) (hl : ps.length ≤ 1048576)
    (hcl : ∀ l ∈ ps, ∀ w', w.grownBy w' v.ownBlock → Calls Try.prog 33 #[.agg #[.int .i64 (at5 l 0), .int .i64 (at5 l 1), .int .i64 (at5 l 2), .int .i64 (at5 l 3), .int .i64 (at5 l 4)], rec] w' (NewV w' (.bool (q l)))) :
    Calls Try.prog 31 #[v, .func (.func 33) #[] #[rec]] w (fun e w' => ∃ v', e = .returned v' ∧ OwnP w' B v' (ps.filter fun l => !q l) ∧ GrP w w' v v') := by
  by_cases hall : ∀ j, j < ps.length → ∀ l, ps[j]? = some l → q l = false
  · have HN := Lib.hid (ix_no hall)
    have hix := x_IndexAdd rec q ho hl hcl
    obtain ⟨a, c, rfl, _⟩ := ho.at
    have hlto := ho.lt
    have HIX := Lib.hid hix
    clear hix hcl hall
    go_enter Try.func31, Try.ntmps31
    go_wp2_with fail
    refine HIX.out.mono ?_
    rintro e w1 ⟨rfl, hb1⟩
    rw [HN.out.1]
    go_wp2
    go_ret
    refine ⟨_, rfl, ?_, below_grown hb1 _, .inl rfl⟩
    rw [HN.out.2]
    exact ho.kept fun k hk _ => hb1.block k hk
  have hall2 : ∃ (k : Nat) (l : List Int), ps[k]? = some l ∧ q l = true ∧ ∀ j, j < k → ∀ l, ps[j]? = some l → q l = false := by
    have hex : ∃ (k : Nat), ∃ (l : List Int), ps[k]? = some l ∧ q l = true := by
      refine Classical.byContradiction fun hn => hall fun j _ l hl => ?_
      cases h : q l
      · rfl
      · exact absurd ⟨j, l, hl, h⟩ hn
    obtain ⟨k, hk⟩ := hex
    obtain ⟨k0, ⟨l0, h1, h2⟩, h3⟩ := leastN (P := fun k => ∃ l, ps[k]? = some l ∧ q l = true) hk
    exact ⟨k0, l0, h1, h2, fun j hj l hl => by
      cases h : q l
      · rfl
      · exact absurd ⟨l, hl, h⟩ (h3 j hj)⟩
  obtain ⟨k0, l0, hx0, hq0, hA0⟩ := hall2
  have hne : ps ≠ [] := by intro e; rw [e] at hx0; simp at hx0
  have hix := x_IndexAdd rec q ho hl hcl
  rw [ix_yes hx0 hq0 hA0] at hix
  obtain ⟨g, cap, rfl, hBg, hrow⟩ := ho.row hne
  have hflt : (ps.take (k0 + 1)).filter (fun l => !q l) = ps.take k0 := by
    rw [take_snoc hx0, List.filter_append, List.filter_eq_self.2 (fun x hx => ?_)]
    · simp [hq0]
    · obtain ⟨j, hj⟩ := List.getElem?_of_mem hx
      have hj2 := lt_of_at hj
      simp at hj2
      rw [List.getElem?_take, if_pos (by omega)] at hj
      rw [hA0 j (by omega) x hj]; rfl
  have hk0 := lt_of_at hx0
  have HIX := Lib.hid hix
  have HFL := Lib.hid hflt
  have HCL := Lib.hid hcl
  have HX0 := Lib.hid hx0
  have hg0 := hrow.lt
  have hcap := hrow
  obtain ⟨_, _, hcap1, hcap2, _⟩ := hcap
  obtain ⟨M, hM⟩ : ∃ M, ps.length = M := ⟨_, rfl⟩
  have HNN := Lib.hid hM
  rw [hM] at hcap1
  have hmx : cap ≤ 9223372036854775807 := by unfold maxLen at hcap2; omega
  have hMl : M ≤ 1048576 := by omega
  rw [hM] at hk0 HIX ⊢
  clear hix hcl hflt hall hne ho hx0 hq0 hA0 hM hl
  go_enter Try.func31, Try.ntmps31
  go_wp2_with fail
  refine HIX.out.mono ?_
  rintro e w1 ⟨rfl, hb1⟩
  have hrow1 := hrow.same (hb1.block g hg0)
  have hgr1 := below_grown hb1 (some g)
  have hneg : ((k0 : Int) == -1) = false := by rw [beq_eq_false_iff_ne]; omega
  have hneg2 : decide ((k0 : Int) = -1) = false := decide_eq_false (by omega)
  clear hrow hb1
  go_wp2
  go_loopw [5, 6] (fun vi vj wr => ∃ (i j : Nat) (cur : List (List Int)), i < j ∧ j ≤ M ∧ vi = .int .i64 i ∧ vj = .int .i64 j ∧ RowP wr g cap cur ∧ cur.length = M ∧ w.grownBy wr (some g) ∧ Hid (cur.take i = (ps.take j).filter (fun l => !q l) ∧ cur.drop j = ps.drop j ∧ i < M)) (fun _ vj _ => M - (intOf vj).toNat)
  case atStart => exact ⟨k0, k0 + 1, ps, by omega, by omega, rfl, by go_num, hrow1, HNN.out, hgr1, HFL.out.symm, rfl, hk0⟩
  case round =>
    clear hrow1 hgr1
    obtain ⟨i, j, cur, hij, hj, rfl, rfl, hrow, hcl, hgr, hI⟩ := hrel
    have hzr := hgr.size
    have hiM := hI.out.2.2
    by_cases hlt : j < M
    · obtain ⟨l, hx⟩ := at_of_lt (show j < ps.length by have := HNN.out; omega)
      have hxc := (drop_at hI.out.2.1).trans hx
      have hidx := RowP.idx (g := g) (cap := cap) hlt
      have hidi := RowP.idx (g := g) (cap := cap) hiM
      have hc := hrow.cell hxc
      have hc0 := hc 0 (by omega)
      have hc1 := hc 1 (by omega)
      have hc2 := hc 2 (by omega)
      have hc3' := hc 3 (by omega)
      have hc4 := hc 4 (by omega)
      simp only [Nat.add_zero] at hc0
      have hbA := (Below.refl wr.heap.size wr).alloc (Nat.le_refl _) (.cells #[.int .i64 (at5 l 0), .int .i64 (at5 l 1), .int .i64 (at5 l 2), .int .i64 (at5 l 3), .int .i64 (at5 l 4)] 50)
      have hbox := heap_alloc_new wr (.cells #[.int .i64 (at5 l 0), .int .i64 (at5 l 1), .int .i64 (at5 l 2), .int .i64 (at5 l 3), .int .i64 (at5 l 4)] 50)
      obtain ⟨t0, t1, t2, t3, t4⟩ := cells5' hbox
      have hcall := Lib.hid (HCL.out l (List.mem_of_getElem? hx) (wr.alloc (.cells #[.int .i64 (at5 l 0), .int .i64 (at5 l 1), .int .i64 (at5 l 2), .int .i64 (at5 l 3), .int .i64 (at5 l 4)] 50)) (grown_trans hgr (below_grown hbA _)))
      have HX := Lib.hid hx
      have hcurl : cur.length = M := hcl
      clear hc hx hxc
      cases hm : q l
      · have HM := Lib.hid hm; clear hm
        go_wp2_with fail
        refine hcall.out.mono ?_
        rintro e w2 ⟨rfl, hb2⟩
        rw [HM.out]
        have hb02 := hbA.trans (hb2.mono (by simp))
        have hrow2 := hrow.same (hb02.block g hrow.lt)
        obtain ⟨e0, e1, e2, e3, e4⟩ := cells5' ((hb2.block wr.heap.size (by simp)).trans hbox)
        obtain ⟨cu, hcu⟩ := at_of_lt (show i < cur.length by omega)
        have hd := hrow2.cell hcu
        have d0 := hd 0 (by omega)
        have d1 := hd 1 (by omega)
        have d2 := hd 2 (by omega)
        have d3 := hd 3 (by omega)
        have d4 := hd 4 (by omega)
        simp only [Nat.add_zero] at d0
        have hfz := hrow2.frozen
        have f0 := hfz (i * 5)
        have f1 := hfz (i * 5 + 1)
        have f2 := hfz (i * 5 + 2)
        have f3 := hfz (i * 5 + 3)
        have f4 := hfz (i * 5 + 4)
        clear hc0 hc1 hc2 hc3' hc4 t0 t1 t2 t3 t4 hd hfz hcu
        go_wp2
        obtain ⟨W, hW, hrowW, hgW⟩ := hrow2.set (i := i) (by omega) l
        rw [← hW]
        have HN : Hid ((cur.set i l).take (i + 1) = (ps.take (j + 1)).filter (fun l => !q l) ∧ (cur.set i l).drop (j + 1) = ps.drop (j + 1)) := by
          constructor
          · rw [take_set _ _ _ (by omega), hI.out.1, take_snoc HX.out, List.filter_append]; simp [HM.out]
          · rw [drop_set _ _ _ _ (by omega)]; exact drop_next hI.out.2.1
        have hgW' := grown_trans hgr (grown_trans (below_grown hb02 _) hgW)
        clear hW
        go_roundw
        case rel => exact ⟨i + 1, j + 1, cur.set i l, by omega, by omega, by go_num, by go_num, hrowW, by rw [List.length_set]; exact hcurl, hgW', HN.out.1, HN.out.2, by omega⟩
        case measure => simp [intOf]; omega
      · have HM := Lib.hid hm; clear hm
        go_wp2_with fail
        refine hcall.out.mono ?_
        rintro e w2 ⟨rfl, hb2⟩
        rw [HM.out]
        have hb02 := hbA.trans (hb2.mono (by simp))
        have hrow2 := hrow.same (hb02.block g hrow.lt)
        have hgr2 := grown_trans hgr (below_grown hb02 _)
        have HN : Hid (cur.take i = (ps.take (j + 1)).filter (fun l => !q l) ∧ cur.drop (j + 1) = ps.drop (j + 1)) := by
          constructor
          · rw [hI.out.1, take_snoc HX.out, List.filter_append]; simp [HM.out]
          · exact drop_next hI.out.2.1
        clear hc0 hc1 hc2 hc3' hc4 t0 t1 t2 t3 t4 hbox hrow hgr
        go_wp2
        go_roundw
        case rel => exact ⟨i, j + 1, cur, by omega, by omega, rfl, by go_num, hrow2, hcurl, hgr2, HN.out.1, HN.out.2, by omega⟩
        case measure => simp [intOf]; omega
    · obtain rfl : j = M := by omega
      have hfin : Hid (cur.take i = ps.filter (fun l => !q l)) := by
        show _ = _; rw [hI.out.1, List.take_of_length_le (by have := HNN.out; omega)]
      obtain ⟨W, hclr, hrowW, hgW⟩ := run_clearP hrow (i := i) (n := j - i) (c := cap - i) (by omega) (by omega) 0
      go_wp2
      go_ret
      have hown := hrowW.own hBg
      have hli : (cur.take i).length = i := by rw [List.length_take]; omega
      rw [hli] at hown
      refine ⟨_, rfl, ?_, grown_trans hgr hgW, .inl rfl⟩
      rw [← hfin.out]; exact hown

end Go.Proofs.Yteoiclkipfdgpaa
