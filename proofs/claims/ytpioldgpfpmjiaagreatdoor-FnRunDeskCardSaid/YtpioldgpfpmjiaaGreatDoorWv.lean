/- Walks: patterns of the program as lists. -/
import Derived.Test.YtpioldgpfpmjiaaGreatDoorWu
import Derived.Test.YtpioldgpfpmjiaaGreatDoorWm
import Derived.Test.YtpioldgpfpmjiaaGreatDoorWi
namespace Go.Proofs.YtpioldgpfpmjiaaGreatDoor
open Go.RowKit

def NewP (w : World) (ps : List (List Int)) (e : Ending) (w' : World) : Prop := ∃ v, e = .returned v ∧ OwnP w' w.heap.size v ps ∧ Below w.heap.size w w'

set_option maxRecDepth 100000 in
set_option maxHeartbeats 1000000 in
theorem i_patternsOf {m : List Int} {a : Option Addr} {c lo hi : Nat} {w : World} {t : Int} (hok : okM m = true) (hm : RI w lo hi a m) (hB : hi ≤ w.heap.size) (ht0 : 0 ≤ t) (ht1 : t ≤ m.length) :
    Calls Tryz.prog 81 #[.slice a m.length c, .int .i64 t] w (NewP w (patS m [] t)) := by
  have HC : Hid (Calls Tryz.prog 97 #[.slice none 0 0, .slice a m.length c, .agg #[.int .i64 ((fun _ => 0) 0), .int .i64 ((fun _ => 0) 1), .int .i64 ((fun _ => 0) 2), .int .i64 ((fun _ => 0) 3), .int .i64 ((fun _ => 0) 4)], .int .i64 0, .int .i64 t] w (AddP w w.heap.size (.slice none 0 0) ([] ++ patS m [] t))) :=
    i_addPatterns hok m.length [] a c lo hi w.heap.size w 0 t (.slice none 0 0) [] rfl (by simp) hm hB (Nat.le_refl _) (OwnP.nil _ _) (by have := okM_len hok; simp; omega) ht0 ht1
  go_enter Tryz.func81, Tryz.ntmps81
  go_wp2_with fail
  refine HC.out.mono ?_
  rintro e w2 ⟨v2, rfl, ho2, hg2⟩
  have hb : Below w.heap.size w w2 := ⟨hg2.gr.os, hg2.gr.tape, hg2.gr.output, hg2.gr.size, fun k hk => hg2.gr.block k hk (by simp [Value.ownBlock])⟩
  rw [List.nil_append] at ho2
  go_wp2
  go_ret
  exact ⟨v2, rfl, ho2, hb⟩

/- Walks: listsOf. -/
open Go.RowKit

theorem sizePat (w : World) : (sizeOf 130).run Tryz.prog w = .ok 5 w := by kernel_rfl
theorem cs5_at {ps : List (List Int)} {k j : Nat} {l : List Int} (h : ps[k]? = some l) (hj : j < 5) : (ps.flatMap cs5)[k * 5 + j]? = some (.int .i64 (at5 l j)) := by
  induction ps generalizing k with
  | nil => simp at h
  | cons p ps ih =>
    rw [List.flatMap_cons]
    have hc : (cs5 p).length = 5 := rfl
    cases k with
    | zero =>
      simp at h; subst h
      rw [List.getElem?_append_left (by rw [hc]; omega)]
      obtain rfl | rfl | rfl | rfl | rfl : j = 0 ∨ j = 1 ∨ j = 2 ∨ j = 3 ∨ j = 4 := by omega
      all_goals rfl
    | succ k =>
      simp only [List.getElem?_cons_succ] at h
      rw [List.getElem?_append_right (by rw [hc]; omega), hc]
      have e : (k + 1) * 5 + j - 5 = k * 5 + j := by omega
      rw [e]; exact ih h
/-- where element k of such a slice lies, and what is there -/
theorem OwnP.at {w : World} {B : Nat} {v : Value} {ps : List (List Int)} (h : OwnP w B v ps) : ∃ a c, v = .slice a ps.length c ∧ ∀ (k : Nat) (l : List Int), ps[k]? = some l → ∃ g, B ≤ g ∧ g < w.heap.size ∧
    (∀ wx, (Instr.indexAt 117 (.slice a ps.length c) (.int .i64 (k : Int))).run Tryz.prog wx = .ok (.pointer (some ⟨g, k * 5, none⟩)) wx) ∧ ∀ (j : Nat), j < 5 → w.cell? ⟨g, k * 5 + j, none⟩ = some (.int .i64 (at5 l j)) := by
  have hlt := h.lt
  rcases h.2 with ⟨rfl, h0⟩ | ⟨g, cap, cur, rfl, hb, hg, hn, hm, hs, ht⟩
  · have e : ps = [] := List.eq_nil_of_length_eq_zero h0
    subst e
    exact ⟨none, 0, rfl, by simp⟩
  · refine ⟨_, _, rfl, fun k l e => ⟨g, hb, (hlt g rfl).2, fun wx => ?_, fun j hj => ?_⟩⟩
    · have hk := lt_of_at e
      have h1 := sizePat wx
      simp [Instr.indexAt, run_underlying undPs, asIntOf, hk, Addr.add]
      try omega
    · rw [cell_of_row w g _ cur _ (0, 0) hg]
      have e2 := cs5_at e hj
      rw [← ht, List.getElem?_take] at e2
      split at e2
      · simpa using e2
      · cases e2

theorem x_CloneN {l : List Int} {n : Nat} {a : Option Addr} {c lo hi : Nat} {w : World} (hn : l.length = n) (hm : RI w lo hi a l) (hB : hi ≤ w.heap.size) (h0 : l ≠ []) (hl : n ≤ 1048576) :
    Calls Tryz.prog 102 #[.slice a n c] w (fun e w' => ∃ a' c', e = .returned (.slice a' n c') ∧ OIc w' w.heap.size w'.heap.size a' c' l ∧ Below w.heap.size w w') := by
  subst hn
  exact x_CloneI hm hB h0 hl
theorem ri_box {w : World} {b t : Nat} {l : List Int} (h : w.heap[b]? = some (.cells #[.int .i64 (at5 l 0), .int .i64 (at5 l 1), .int .i64 (at5 l 2), .int .i64 (at5 l 3), .int .i64 (at5 l 4)] t (0, 0))) (hl : l.length ≤ 5) : RI w b (b + 1) (some ⟨b, 0, none⟩) l := by
  intro k hk
  obtain ⟨x, hx⟩ := at_of_lt hk
  refine ⟨b, 0, rfl, Nat.le_refl _, Nat.lt_succ_self _, x, hx, ?_⟩
  rw [Nat.zero_add, cell5 h (by omega), at5_of hx]

theorem slice5 (b n : Nat) (hn : n ≤ 5) (wx : World) : (Instr.sliceAt 130 (.pointer (some ⟨b, 0, none⟩)) none (some (.int .i64 (n : Int))) none).run Tryz.prog wx = .ok (.slice (some ⟨b, 0, none⟩) n 5) wx := by
  obtain rfl | rfl | rfl | rfl | rfl | rfl : n = 0 ∨ n = 1 ∨ n = 2 ∨ n = 3 ∨ n = 4 ∨ n = 5 := by omega
  all_goals kernel_rfl

theorem OII.oneN {w : World} {lo hi t c n : Nat} {a : Option Addr} {r : List Int} (hn : r.length = n) (h : OIc w lo hi a c r) (hl : lo ≤ w.heap.size) (hh : hi ≤ w.heap.size) :
    OII (w.alloc (.cells #[.slice a n c] t)) lo (w.alloc (.cells #[.slice a n c] t)).heap.size (some ⟨w.heap.size, 0, none⟩) [r] := by
  subst hn
  have h1 := OII.one (t := t) (c := c) h hl hh
  simpa using h1

end Go.Proofs.YtpioldgpfpmjiaaGreatDoor
