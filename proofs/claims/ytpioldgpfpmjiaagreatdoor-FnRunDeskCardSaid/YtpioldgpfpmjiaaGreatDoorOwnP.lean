/- Slices of patterns as arrays that a call appends to. -/
import Derived.Test.YtpioldgpfpmjiaaGreatDoorWf
import Derived.Test.YtpioldgpfpmjiaaGreatDoorOwnL
namespace Go.Proofs.YtpioldgpfpmjiaaGreatDoor
open Go.RowKit

def cs5 (l : List Int) : List Value := [.int .i64 (at5 l 0), .int .i64 (at5 l 1), .int .i64 (at5 l 2), .int .i64 (at5 l 3), .int .i64 (at5 l 4)]
theorem undPs : Tryz.prog.underlying 117 = some (.slice 130) := by kernel_rfl
theorem infoPat : (Tryz.prog.info? 130).map (fun i => (i.zero, i.size, i.bytes)) = some (some (.agg #[.int .i64 ((fun _ => 0) 0), .int .i64 ((fun _ => 0) 1), .int .i64 ((fun _ => 0) 2), .int .i64 ((fun _ => 0) 3), .int .i64 ((fun _ => 0) 4)]), 5, 40) := by kernel_rfl
/-- v owns, from block B on, the patterns ps as arrays -/
def OwnP (w : World) (B : Nat) (v : Value) (ps : List (List Int)) : Prop := w.ownsRow B 130 5 v ps.length (ps.flatMap cs5)
theorem OwnP.lt {w : World} {B : Nat} {v : Value} {ps : List (List Int)} (h : OwnP w B v ps) : ∀ g, v.ownBlock = some g → B ≤ g ∧ g < w.heap.size := World.ownsRow.lt h
theorem OwnP.nil (w : World) (B : Nat) : OwnP w B (.slice none 0 0) [] := World.ownsRow_nil _ _ _ _
/-- from w to w' only v's own block has turned, and v' lies there or in new memory -/
structure GrP (w w' : World) (v v' : Value) : Prop where
  gr : w.grownBy w' v.ownBlock
  at_ : v'.ownBlock = v.ownBlock ∨ ∃ g, v'.ownBlock = some g ∧ w.heap.size ≤ g ∧ g < w'.heap.size
theorem GrP.refl (w : World) (v : Value) : GrP w w v v := ⟨⟨rfl, rfl, rfl, Nat.le_refl _, fun _ _ _ => rfl⟩, .inl rfl⟩
theorem GrP.trans {w w1 w2 : World} {v v1 v2 : Value} (h : GrP w w1 v v1) (k : GrP w1 w2 v1 v2) : GrP w w2 v v2 := by
  refine ⟨⟨k.gr.os.trans h.gr.os, k.gr.tape.trans h.gr.tape, k.gr.output.trans h.gr.output, Nat.le_trans h.gr.size k.gr.size, fun j hj hn => ?_⟩, ?_⟩
  · rw [k.gr.block j (Nat.lt_of_lt_of_le hj h.gr.size) ?_, h.gr.block j hj hn]
    intro e
    rcases h.at_ with h1 | ⟨g, h1, h2, _⟩
    · exact hn (e.trans h1)
    · rw [h1] at e; cases e; omega
  · have s1 := h.gr.size
    have s2 := k.gr.size
    rcases k.at_ with k1 | ⟨g, k1, k2, k3⟩
    · rcases h.at_ with h1 | ⟨g, h1, h2, h3⟩
      · exact .inl (k1.trans h1)
      · exact .inr ⟨g, k1.trans h1, h2, by omega⟩
    · exact .inr ⟨g, k1, by omega, k3⟩
theorem GrP.alloc {w w1 : World} {v v1 : Value} (h : GrP w w1 v v1) (o : Obj) : GrP w (w1.alloc o) v v1 :=
  h.trans ⟨World.grownBy_alloc _ _ _, .inl rfl⟩
theorem GrP.set {w w1 : World} {v v1 : Value} (h : GrP w w1 v v1) {p : Addr} (hp : w.heap.size ≤ p.block) (u : Value) : GrP w (w1.setCell p u) v v1 := by
  refine ⟨⟨h.gr.os, h.gr.tape, h.gr.output, by have := h.gr.size; simp [World.setCell]; omega, fun k hk hn => ?_⟩, ?_⟩
  · rw [Below.heap_setCell _ _ _ _ (by omega)]; exact h.gr.block k hk hn
  · rcases h.at_ with h1 | ⟨g, h1, h2, h3⟩
    · exact .inl h1
    · exact .inr ⟨g, h1, h2, by simp [World.setCell]; exact h3⟩
theorem OwnP.kept {w w' : World} {B : Nat} {v : Value} {ps : List (List Int)} (h : OwnP w B v ps) (hb : ∀ k, k < w.heap.size → v.ownBlock = some k → w'.heap[k]? = w.heap[k]?) : OwnP w' B v ps := by
  have hlt := h.lt
  obtain ⟨h1, h2⟩ := h
  refine ⟨h1, ?_⟩
  rcases h2 with h2 | ⟨g, cap, cur, rfl, hB, hg, rest⟩
  · exact .inl h2
  · exact .inr ⟨g, cap, cur, rfl, hB, by rw [hb g (hlt g rfl).2 rfl]; exact hg, rest⟩

/-- append of one pattern -/
theorem wpList_appP {wr : World} {ops : Array Oper} {rest : List Oper} {o : Oper} {a : Act} {Q : Exit → Act → World → Prop} (hgd : o.guard = none) (s t : Operand)
    (ho : o.op = .call { callee := .builtin .append, args := #[s, t], argTypes := #[117, 117] }) (B : Nat) (v : Value) (ps : List (List Int)) (hs : a.eval s = v) (hown : OwnP wr B v ps) (l : List Int)
    (nw : Nat) (hx : a.eval t = .slice (some ⟨nw, 0, none⟩) 1 1) (hnw : nw = wr.heap.size) (hl : ps.length ≤ 1099511627776) (hB : B ≤ wr.heap.size)
    (h : ∀ v' w', OwnP w' B v' (ps ++ [l]) → GrP wr w' v v' → wpList Tryz.prog ops Q rest (a.put o.dst v') w') : wpList Tryz.prog ops Q (o :: rest) a (wr.alloc (.cells #[.int .i64 (at5 l 0), .int .i64 (at5 l 1), .int .i64 (at5 l 2), .int .i64 (at5 l 3), .int .i64 (at5 l 4)] 130)) := by
  subst hnw
  obtain ⟨i0, hi, hz0, hz1, hz2⟩ := info_parts infoPat
  have hlt := World.ownsRow.lt hown
  refine wpList_append_own_at _ hgd s t 117 ho B 130 i0 _ 5 40 undPs hi hz0 hz1 hz2 rfl (by decide) v ps.length (ps.flatMap cs5) hs (World.ownsRow.alloc hown _) ⟨wr.heap.size, 0, none⟩ 1 1 (cs5 l) hx rfl ?_ ?_ ?_ ?_ ?_ ?_
  · exact World.news_of_block (cs := #[.int .i64 (at5 l 0), .int .i64 (at5 l 1), .int .i64 (at5 l 2), .int .i64 (at5 l 3), .int .i64 (at5 l 4)]) (t := 130) (fr := (0, 0)) (heap_alloc_new wr _)
  · intro u hu; simp [cs5] at hu; rcases hu with rfl | rfl | rfl | rfl | rfl <;> rfl
  · unfold maxLen; omega
  · omega
  · simp; omega
  · intro v' w' h1 h2 h3 h4
    refine h v' w' ?_ ⟨(World.grownBy_alloc wr _ _).trans h2, ?_⟩
    · unfold OwnP; rw [List.flatMap_append, List.length_append]; simpa using h1
    · rcases h4 with h4 | h4
      · exact .inl h4
      · refine .inr ⟨_, h4, by simp, ?_⟩
        exact ((World.ownsRow.lt h1) _ h4).2

/-- an array in a box, one place of it written -/
theorem box_set {w : World} {b t f : Nat} {Q : Nat → Int} {head : List Int} {x : Int} (h : w.heap[b]? = some (.cells #[.int .i64 (Q 0), .int .i64 (Q 1), .int .i64 (Q 2), .int .i64 (Q 3), .int .i64 (Q 4)] t (0, 0))) (hf : head.length = f) (hf5 : f < 5) (hQ : ∀ i, i ≠ f → Q i = at5 head i) :
    (w.setCell ⟨b, f, none⟩ (.int .i64 x)).heap[b]? = some (.cells #[.int .i64 (at5 (head ++ [x]) 0), .int .i64 (at5 (head ++ [x]) 1), .int .i64 (at5 (head ++ [x]) 2), .int .i64 (at5 (head ++ [x]) 3), .int .i64 (at5 (head ++ [x]) 4)] t (0, 0)) := by
  have e : ∀ i, at5 (head ++ [x]) i = if i = f then x else Q i := by
    intro i
    by_cases hi : i = f
    · subst hi; simp [at5, List.getD, hf]
    · rw [if_neg hi, hQ i hi]
      unfold at5 List.getD
      rw [List.getElem?_append]
      split
      · rfl
      · rw [List.getElem?_eq_none (by simp; omega), List.getElem?_eq_none (by omega)]
  have hs : (w.setCell ⟨b, f, none⟩ (.int .i64 x)).heap[b]? = some (.cells ((#[.int .i64 (Q 0), .int .i64 (Q 1), .int .i64 (Q 2), .int .i64 (Q 3), .int .i64 (Q 4)] : Array Value).setIfInBounds f (.int .i64 x)) t (0, 0)) := by
    simp only [World.setCell, Array.getElem?_modify, if_true]
    rw [h]; rfl
  rw [hs]
  simp only [e]
  obtain rfl | rfl | rfl | rfl | rfl : f = 0 ∨ f = 1 ∨ f = 2 ∨ f = 3 ∨ f = 4 := by omega
  all_goals rfl

end Go.Proofs.YtpioldgpfpmjiaaGreatDoor
