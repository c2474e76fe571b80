/- Slices of patterns as arrays that a call appends to. -/
import Derived.Test.YtpioldgpfpmjiaaDoorWf
import Derived.Test.YtpioldgpfpmjiaaDoorOwnL
namespace Go.Proofs.YtpioldgpfpmjiaaDoor
open Go.RowKit

/-- an array in a box, one place of it written -/
theorem box_set {w : World} {b t f : Nat} {Q : Nat → Int} {head : List Int} {x : Int} (h : w.heap[b]? = some (.cells #[.int .i64 (Q 0), .int .i64 (Q 1), .int .i64 (Q 2), .int .i64 (Q 3), .int .i64 (Q 4)] t (0, 0))) (hf : head.length = f) (hf5 : f < 5) (hQ : ∀ i, i ≠ f → Q i = at5 head i) :
    (w.setCell ⟨b, f, none⟩ (.int .i64 x)).heap[b]? = some (.cells #[.int .i64 (at5 (head ++ [x]) 0), .int .i64 (at5 (head ++ [x]) 1), .int .i64 (at5 (head ++ [x]) 2), .int .i64 (at5 (head ++ [x]) 3), .int .i64 (at5 (head ++ [x]) 4)] t (0, 0)) := by
  have e : ∀ i, at5 (head ++ [x]) i = if i = f then x else Q i := by
    intro i
    by_cases hi : i = f
    · subst hi; simp [at5, List.getD, hf]
    · rw [if_neg hi, hQ i hi]
      unfold at5 List.getD
      rw [List.getElem?_append]
      split
      · rfl
      · rw [List.getElem?_eq_none (by simp; omega), List.getElem?_eq_none (by omega)]
  have hs : (w.setCell ⟨b, f, none⟩ (.int .i64 x)).heap[b]? = some (.cells ((#[.int .i64 (Q 0), .int .i64 (Q 1), .int .i64 (Q 2), .int .i64 (Q 3), .int .i64 (Q 4)] : Array Value).setIfInBounds f (.int .i64 x)) t (0, 0)) := by
    simp only [World.setCell, Array.getElem?_modify, if_true]
    rw [h]; rfl
  rw [hs]
  simp only [e]
  obtain rfl | rfl | rfl | rfl | rfl : f = 0 ∨ f = 1 ∨ f = 2 ∨ f = 3 ∨ f = 4 := by omega
  all_goals rfl

end Go.Proofs.YtpioldgpfpmjiaaDoor
