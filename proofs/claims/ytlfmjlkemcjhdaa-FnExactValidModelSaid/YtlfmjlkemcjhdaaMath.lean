/- Plain facts on lists of numbers: what the program's functions compute, said of lists. No memory, no program. -/
import Derived.Below
namespace Go.Proofs.Ytlfmjlkemcjhdaa
open Go.RowKit

/-- two numbers and a bound -/
def inR (n lo hi : Int) : Bool := decide (lo ≤ n) && decide (n ≤ hi)
theorem inR_true {n lo hi : Int} : inR n lo hi = true ↔ lo ≤ n ∧ n ≤ hi := by simp [inR]
theorem inR_false {n lo hi : Int} : inR n lo hi = false ↔ n < lo ∨ hi < n := by
  have h := @inR_true n lo hi
  cases hb : inR n lo hi
  · simp [hb] at h; simp; omega
  · simp [hb] at h; simp; omega

theorem take_snoc {α : Type} {m : List α} {k : Nat} {x : α} (h : m[k]? = some x) : m.take (k + 1) = m.take k ++ [x] := by
  rw [List.take_add_one, h]; rfl
theorem all_snoc {α : Type} {p : α → Bool} {m : List α} {k : Nat} {x : α} (h : m[k]? = some x) (ha : (m.take k).all p = true) (hx : p x = true) : (m.take (k + 1)).all p = true := by
  rw [take_snoc h, List.all_append, ha]; simp [hx]
theorem all_whole {α : Type} {p : α → Bool} {m : List α} {k : Nat} (ha : (m.take k).all p = true) (hk : m.length ≤ k) : m.all p = true := by
  rwa [List.take_of_length_le hk] at ha
theorem all_fails {α : Type} {p : α → Bool} {m : List α} {k : Nat} {x : α} (h : m[k]? = some x) (hx : p x = false) : m.all p = false := by
  rw [List.all_eq_false]
  exact ⟨x, List.mem_of_getElem? h, by simp [hx]⟩
theorem zip_at {α β : Type} {a : List α} {b : List β} {k : Nat} {x : α} {y : β} (h : a[k]? = some x) (h' : b[k]? = some y) : (a.zip b)[k]? = some (x, y) := by
  rw [List.getElem?_zip_eq_some]; exact ⟨h, h'⟩
theorem at_of_lt {α : Type} {m : List α} {k : Nat} (h : k < m.length) : ∃ x, m[k]? = some x := ⟨m[k], by simp [h]⟩
theorem lt_of_at {α : Type} {m : List α} {k : Nat} {x : α} (h : m[k]? = some x) : k < m.length := by
  rcases List.getElem?_eq_some_iff.1 h with ⟨h, _⟩; exact h

def lvl (x : Int) : Bool := inR x 1 3
/-- a model -/
def okM (m : List Int) : Bool := decide (1 ≤ m.length) && decide (m.length ≤ 5) && m.all lvl
theorem okM_len {m : List Int} (h : okM m = true) : 1 ≤ m.length ∧ m.length ≤ 5 := by simp [okM] at h; omega
theorem okM_all {m : List Int} (h : okM m = true) : m.all lvl = true := by
  unfold okM at h; simp only [Bool.and_eq_true] at h; exact h.2
theorem okM_at {m : List Int} (h : okM m = true) {k : Nat} {x : Int} (hx : m[k]? = some x) : 1 ≤ x ∧ x ≤ 3 := by
  have h2 := okM_all h
  rw [List.all_eq_true] at h2
  exact inR_true.1 (h2 x (List.mem_of_getElem? hx))
theorem okM_mk {m : List Int} (h1 : 1 ≤ m.length) (h2 : m.length ≤ 5) (h3 : m.all lvl = true) : okM m = true := by simp [okM, h1, h2, h3]
theorem okM_no {m : List Int} (h : m.length < 1 ∨ 5 < m.length) : okM m = false := by
  cases hb : okM m
  · rfl
  · have := okM_len hb; omega
theorem okM_no_all {m : List Int} (h : m.all lvl = false) : okM m = false := by
  cases hb : okM m
  · rfl
  · rw [okM_all hb] at h; cases h

theorem okM_end {m : List Int} (h : m.all lvl = true) : inR (m.length : Int) 1 5 = okM m := by
  rw [Bool.eq_iff_iff, inR_true]
  simp [okM, h]
  omega

end Go.Proofs.Ytlfmjlkemcjhdaa
