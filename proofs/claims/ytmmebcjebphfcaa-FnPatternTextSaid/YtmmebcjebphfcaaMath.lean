/- Plain facts on lists of numbers: what the program's functions compute, said of lists. No memory, no program. -/
import Derived.Below
namespace Go.Proofs.Ytmmebcjebphfcaa
open Go.RowKit

/-- two numbers and a bound -/
def inR (n lo hi : Int) : Bool := decide (lo ≤ n) && decide (n ≤ hi)
theorem inR_true {n lo hi : Int} : inR n lo hi = true ↔ lo ≤ n ∧ n ≤ hi := by simp [inR]
theorem inR_false {n lo hi : Int} : inR n lo hi = false ↔ n < lo ∨ hi < n := by
  have h := @inR_true n lo hi
  cases hb : inR n lo hi
  · simp [hb] at h; simp; omega
  · simp [hb] at h; simp; omega

theorem take_snoc {α : Type} {m : List α} {k : Nat} {x : α} (h : m[k]? = some x) : m.take (k + 1) = m.take k ++ [x] := by
  rw [List.take_add_one, h]; rfl
theorem all_snoc {α : Type} {p : α → Bool} {m : List α} {k : Nat} {x : α} (h : m[k]? = some x) (ha : (m.take k).all p = true) (hx : p x = true) : (m.take (k + 1)).all p = true := by
  rw [take_snoc h, List.all_append, ha]; simp [hx]
theorem all_whole {α : Type} {p : α → Bool} {m : List α} {k : Nat} (ha : (m.take k).all p = true) (hk : m.length ≤ k) : m.all p = true := by
  rwa [List.take_of_length_le hk] at ha
theorem all_fails {α : Type} {p : α → Bool} {m : List α} {k : Nat} {x : α} (h : m[k]? = some x) (hx : p x = false) : m.all p = false := by
  rw [List.all_eq_false]
  exact ⟨x, List.mem_of_getElem? h, by simp [hx]⟩
theorem zip_at {α β : Type} {a : List α} {b : List β} {k : Nat} {x : α} {y : β} (h : a[k]? = some x) (h' : b[k]? = some y) : (a.zip b)[k]? = some (x, y) := by
  rw [List.getElem?_zip_eq_some]; exact ⟨h, h'⟩
theorem at_of_lt {α : Type} {m : List α} {k : Nat} (h : k < m.length) : ∃ x, m[k]? = some x := ⟨m[k], by simp [h]⟩
theorem lt_of_at {α : Type} {m : List α} {k : Nat} {x : α} (h : m[k]? = some x) : k < m.length := by
  rcases List.getElem?_eq_some_iff.1 h with ⟨h, _⟩; exact h

def lvl (x : Int) : Bool := inR x 1 3
/-- a model -/
def okM (m : List Int) : Bool := decide (1 ≤ m.length) && decide (m.length ≤ 5) && m.all lvl
theorem okM_len {m : List Int} (h : okM m = true) : 1 ≤ m.length ∧ m.length ≤ 5 := by simp [okM] at h; omega
theorem okM_all {m : List Int} (h : okM m = true) : m.all lvl = true := by
  unfold okM at h; simp only [Bool.and_eq_true] at h; exact h.2
theorem okM_at {m : List Int} (h : okM m = true) {k : Nat} {x : Int} (hx : m[k]? = some x) : 1 ≤ x ∧ x ≤ 3 := by
  have h2 := okM_all h
  rw [List.all_eq_true] at h2
  exact inR_true.1 (h2 x (List.mem_of_getElem? hx))
theorem okM_mk {m : List Int} (h1 : 1 ≤ m.length) (h2 : m.length ≤ 5) (h3 : m.all lvl = true) : okM m = true := by simp [okM, h1, h2, h3]
theorem okM_no {m : List Int} (h : m.length < 1 ∨ 5 < m.length) : okM m = false := by
  cases hb : okM m
  · rfl
  · have := okM_len hb; omega
theorem okM_no_all {m : List Int} (h : m.all lvl = false) : okM m = false := by
  cases hb : okM m
  · rfl
  · rw [okM_all hb] at h; cases h

theorem okM_end {m : List Int} (h : m.all lvl = true) : inR (m.length : Int) 1 5 = okM m := by
  rw [Bool.eq_iff_iff, inR_true]
  simp [okM, h]
  omega

/-- numbers within the levels of a model, from lo up -/
def okW (lo : Int) (m t : List Int) : Bool := decide (t.length = m.length) && (t.zip m).all fun p => inR p.1 lo (p.2 - 1)
theorem okW_len {lo : Int} {m t : List Int} (h : okW lo m t = true) : t.length = m.length := by
  unfold okW at h; simp only [Bool.and_eq_true, decide_eq_true_eq] at h; exact h.1
theorem okW_no_len {lo : Int} {m t : List Int} (h : t.length ≠ m.length) : okW lo m t = false := by simp [okW, h]
theorem okW_fails {lo : Int} {m t : List Int} {k : Nat} {x y : Int} (hx : t[k]? = some x) (hy : m[k]? = some y) (h : inR x lo (y - 1) = false) : okW lo m t = false := by
  unfold okW
  rw [all_fails (zip_at hx hy) h, Bool.and_false]
theorem okW_step {lo : Int} {m t : List Int} {k : Nat} {x y : Int} (hx : t[k]? = some x) (hy : m[k]? = some y) (ha : ((t.zip m).take k).all (fun p => inR p.1 lo (p.2 - 1)) = true) (h : inR x lo (y - 1) = true) :
    ((t.zip m).take (k + 1)).all (fun p => inR p.1 lo (p.2 - 1)) = true := all_snoc (zip_at hx hy) ha h
theorem okW_end {lo : Int} {m t : List Int} {k : Nat} (hk : t.length ≤ k ∨ m.length ≤ k) (ha : ((t.zip m).take k).all (fun p => inR p.1 lo (p.2 - 1)) = true) :
    ((t.length : Int) == (m.length : Int)) = okW lo m t := by
  have h := all_whole ha (by rw [List.length_zip]; omega)
  unfold okW
  rw [h, Bool.and_true, Bool.eq_iff_iff]
  simp
  omega
theorem okW_at {lo : Int} {m t : List Int} (h : okW lo m t = true) {k : Nat} {x y : Int} (hx : t[k]? = some x) (hy : m[k]? = some y) : lo ≤ x ∧ x < y := by
  unfold okW at h
  simp only [Bool.and_eq_true, List.all_eq_true] at h
  have h1 := inR_true.1 (h.2 (x, y) (List.mem_of_getElem? (zip_at hx hy)))
  simp only at h1
  omega
def okT (m t : List Int) : Bool := okW 0 m t
def okP (m t : List Int) : Bool := okW (-1) m t

/-- what is left of a number when a list's length is taken off it; -1 where it does not reach -/
def szI (m : List Int) (left : Int) : Int := if left - m.length < 0 then -1 else left - m.length
def sumL (mm : List (List Int)) : Nat := (mm.map List.length).sum
def szII (mm : List (List Int)) (left : Int) : Int := if (mm.length : Int) + sumL mm ≤ left then left - mm.length - sumL mm else -1
theorem sumL_snoc {mm : List (List Int)} {k : Nat} {r : List Int} (h : mm[k]? = some r) : sumL (mm.take (k + 1)) = sumL (mm.take k) + r.length := by
  unfold sumL; rw [take_snoc h]; simp
theorem sumL_take_le (mm : List (List Int)) (k : Nat) : sumL (mm.take k) ≤ sumL mm := by
  have h : sumL mm = sumL (mm.take k) + sumL (mm.drop k) := by
    unfold sumL; rw [← List.sum_append, ← List.map_append, List.take_append_drop]
  omega
theorem szII_start {mm : List (List Int)} {left : Int} (h : left - mm.length < 0) : szII mm left = -1 := by unfold szII; rw [if_neg (by omega)]
theorem szII_fails {mm : List (List Int)} {left : Int} {k : Nat} {r : List Int} (hr : mm[k]? = some r) (h : left - mm.length - sumL (mm.take k) - r.length < 0) : szII mm left = -1 := by
  have h1 := sumL_snoc hr
  have h2 := sumL_take_le mm (k + 1)
  unfold szII; rw [if_neg (by omega)]
theorem szII_end {mm : List (List Int)} {left : Int} {k : Nat} (hk : mm.length ≤ k) (h : 0 ≤ left - mm.length - sumL (mm.take k)) : szII mm left = left - mm.length - sumL (mm.take k) := by
  rw [List.take_of_length_le hk] at *
  unfold szII; rw [if_pos (by omega)]
theorem szII_le {mm : List (List Int)} {left : Int} (h : 0 ≤ szII mm left) : (mm.length : Int) + sumL mm ≤ left ∧ szII mm left ≤ left := by
  unfold szII at *
  split at h
  · rename_i h1; rw [if_pos h1]; omega
  · omega
theorem sumL_row {mm : List (List Int)} {r : List Int} (h : r ∈ mm) : r.length ≤ sumL mm := by
  induction mm with
  | nil => cases h
  | cons x mm ih =>
    have e : sumL (x :: mm) = x.length + sumL mm := by simp [sumL]
    rcases List.mem_cons.1 h with rfl | h
    · omega
    · have := ih h; omega

theorem szII_rows {mm : List (List Int)} {left : Int} (h : 0 ≤ szII mm left) (hl : left ≤ 1048576) : mm.length ≤ 1048576 ∧ (∀ r ∈ mm, r.length ≤ 1048576) ∧ sumL mm ≤ 1048576 := by
  have h1 := szII_le h
  refine ⟨by omega, fun r hr => ?_, by omega⟩
  have := sumL_row hr
  omega

def eqII (x y : List (List Int)) : Bool := x == y
theorem eqII_true {x y : List (List Int)} : eqII x y = true ↔ x = y := by simp [eqII]
theorem eqII_no {x y : List (List Int)} (h : x ≠ y) : eqII x y = false := by simp [eqII, h]

/-- a suite -/
def okS (m : List Int) (mm : List (List Int)) : Bool := mm.all (okT m) && decide (mm.length ≤ 20)
theorem okS_len {m : List Int} {mm : List (List Int)} (h : okS m mm = true) : mm.length ≤ 20 := by simp [okS] at h; exact h.2
theorem okS_all {m : List Int} {mm : List (List Int)} (h : okS m mm = true) {r : List Int} (hr : r ∈ mm) : okT m r = true := by
  unfold okS at h; simp only [Bool.and_eq_true, List.all_eq_true] at h; exact h.1 r hr
theorem okS_fails {m : List Int} {mm : List (List Int)} {k : Nat} {r : List Int} (hr : mm[k]? = some r) (h : okT m r = false) : okS m mm = false := by
  unfold okS; rw [all_fails hr h, Bool.false_and]
theorem okS_no {m : List Int} {mm : List (List Int)} (h : 20 < mm.length) : okS m mm = false := by
  cases hb : okS m mm
  · rfl
  · have := okS_len hb; omega
theorem okS_end {m : List Int} {mm : List (List Int)} {k : Nat} (hk : mm.length ≤ k) (ha : (mm.take k).all (okT m) = true) : decide ((mm.length : Int) ≤ 20) = okS m mm := by
  unfold okS; rw [all_whole ha hk, Bool.true_and, Bool.eq_iff_iff]; simp; omega

/-- for how many factors a pattern has a level -/
def strN (p : List Int) : Nat := p.countP (fun x => x != -1)
theorem strN_snoc {p : List Int} {k : Nat} {x : Int} (h : p[k]? = some x) : strN (p.take (k + 1)) = strN (p.take k) + if x != -1 then 1 else 0 := by
  unfold strN; rw [take_snoc h, List.countP_append]; simp
theorem strN_le (p : List Int) : strN p ≤ p.length := List.countP_le_length
theorem strN_take_le (p : List Int) (k : Nat) : strN (p.take k) ≤ k := Nat.le_trans (strN_le _) (List.length_take_le _ _)

/-- the strength of a pattern of a model -/
def strV (m p : List Int) : Int := if okM m && okP m p then strN p else -1
theorem strV_yes {m p : List Int} (h : okM m = true) (h' : okP m p = true) : strV m p = strN p := by unfold strV; rw [h, h']; rfl
theorem strV_no {m p : List Int} (h : okM m = false ∨ okP m p = false) : strV m p = -1 := by
  unfold strV
  rcases h with h | h <;> rw [h] <;> simp

theorem strV_no' {m p : List Int} (h : (okM m && okP m p) = false) : strV m p = -1 := by unfold strV; rw [h]; rfl

/-- a test has all levels of a pattern -/
def mB (p t : List Int) : Bool := (p.zip t).all fun q => q.1 == -1 || q.1 == q.2
theorem mB_fails {p t : List Int} {k : Nat} {x y : Int} (hx : p[k]? = some x) (hy : t[k]? = some y) (h1 : x ≠ -1) (h2 : x ≠ y) : mB p t = false :=
  all_fails (zip_at hx hy) (by simp [h1, h2])
theorem mB_step {p t : List Int} {k : Nat} {x y : Int} (hx : p[k]? = some x) (hy : t[k]? = some y) (ha : ((p.zip t).take k).all (fun q => q.1 == -1 || q.1 == q.2) = true) (h : x = -1 ∨ x = y) :
    ((p.zip t).take (k + 1)).all (fun q => q.1 == -1 || q.1 == q.2) = true := all_snoc (zip_at hx hy) ha (by simpa using h)
theorem mB_end {p t : List Int} {k : Nat} (hk : p.length ≤ k) (ha : ((p.zip t).take k).all (fun q => q.1 == -1 || q.1 == q.2) = true) : mB p t = true :=
  all_whole ha (by rw [List.length_zip]; omega)

/-- place i of a list of at most five numbers, as the program's arrays have it -/
def at5 (l : List Int) (i : Nat) : Int := l.getD i 0
theorem at5_of {l : List Int} {i : Nat} {x : Int} (h : l[i]? = some x) : at5 l i = x := by simp [at5, List.getD, h]
theorem at5_out {l : List Int} {i : Nat} (h : l.length ≤ i) : at5 l i = 0 := by simp [at5, List.getD, h]
/-- a pattern of an array meets a test of an array -/
def meet5 (P Q : Nat → Int) : Bool := (List.range 5).all fun i => P i == -1 || P i == Q i
theorem meet5_mB {p t : List Int} (h : p.length = t.length) (h5 : p.length ≤ 5) : meet5 (at5 p) (at5 t) = mB p t := by
  unfold meet5 mB
  rw [Bool.eq_iff_iff, List.all_eq_true, List.all_eq_true]
  constructor
  · intro ha q hq
    obtain ⟨k, hk⟩ := List.getElem?_of_mem hq
    obtain ⟨h1, h2⟩ := List.getElem?_zip_eq_some.1 hk
    have hlt := lt_of_at h1
    have := ha k (List.mem_range.2 (by omega))
    rwa [at5_of h1, at5_of h2] at this
  · intro ha i hi
    by_cases hlt : i < p.length
    · obtain ⟨x, hx⟩ := at_of_lt hlt
      obtain ⟨y, hy⟩ := at_of_lt (show i < t.length by omega)
      have := ha (x, y) (List.mem_of_getElem? (zip_at hx hy))
      rw [at5_of hx, at5_of hy]; exact this
    · rw [at5_out (by omega), at5_out (by omega)]; simp

/-- what the laws write into a slice, and into a slice of slices, to see that it is nobody else's -/
def markL (k : Int) (n : Nat) : List Int := (List.range n).map fun (i : Nat) => k + (i : Int)
def markLL : Int → List (List Int) → List (List Int)
  | _, [] => []
  | k, r :: rs => markL k r.length :: markLL (k + r.length) rs
theorem markL_len (k : Int) (n : Nat) : (markL k n).length = n := by simp [markL]
theorem markL_at {k : Int} {n i : Nat} (h : i < n) : (markL k n)[i]? = some (k + (i : Int)) := by simp [markL, h]
theorem markL_of {k : Int} {n : Nat} {l : List Int} (h1 : l.length = n) (h2 : ∀ i : Nat, i < n → l[i]? = some (k + (i : Int))) : l = markL k n := by
  apply List.ext_getElem? 
  intro i
  by_cases h : i < n
  · rw [h2 i h, markL_at h]
  · rw [List.getElem?_eq_none (by omega), List.getElem?_eq_none (by rw [markL_len]; omega)]
theorem sumL_cons (r : List Int) (rs : List (List Int)) : sumL (r :: rs) = r.length + sumL rs := by simp [sumL]
theorem markLL_len (k : Int) (mm : List (List Int)) : (markLL k mm).length = mm.length := by
  induction mm generalizing k with
  | nil => rfl
  | cons r rs ih => simp [markLL, ih]
theorem markLL_snoc (k : Int) (mm : List (List Int)) (r : List Int) : markLL k (mm ++ [r]) = markLL k mm ++ [markL (k + sumL mm) r.length] := by
  induction mm generalizing k with
  | nil => simp [markLL, sumL]
  | cons x xs ih =>
    rw [List.cons_append, markLL, ih, markLL, sumL_cons, List.cons_append]
    simp only [Int.natCast_add]
    rw [show k + (x.length : Int) + (sumL xs : Int) = k + ((x.length : Int) + (sumL xs : Int)) from by omega]
theorem markLL_step {k : Int} {mm : List (List Int)} {j : Nat} {r : List Int} (h : mm[j]? = some r) :
    (markLL k (mm.take j) ++ mm.drop j).set j (markL (k + sumL (mm.take j)) r.length) = markLL k (mm.take (j + 1)) ++ mm.drop (j + 1) := by
  have hj := lt_of_at h
  have hl : (markLL k (mm.take j)).length = j := by rw [markLL_len]; simp; omega
  rw [take_snoc h, markLL_snoc, List.set_append_right _ _ (by omega), hl, Nat.sub_self]
  rw [List.drop_eq_getElem_cons hj, List.set_cons_zero, List.append_assoc]
  rfl
theorem markLL_mid {k : Int} {mm : List (List Int)} {j : Nat} {r : List Int} (h : mm[j]? = some r) : (markLL k (mm.take j) ++ mm.drop j)[j]? = some r := by
  have hj := lt_of_at h
  have hl : (markLL k (mm.take j)).length = j := by rw [markLL_len]; simp; omega
  rw [List.getElem?_append_right (by omega), hl, Nat.sub_self, List.getElem?_drop]
  simpa using h
theorem markLL_at {k : Int} {mm : List (List Int)} {j : Nat} {r : List Int} (h : mm[j]? = some r) : (markLL k mm)[j]? = some (markL (k + sumL (mm.take j)) r.length) := by
  induction mm generalizing k j with
  | nil => simp at h
  | cons x xs ih =>
    cases j with
    | zero => simp at h; subst h; simp [markLL, sumL]
    | succ j =>
      simp only [List.getElem?_cons_succ] at h
      simp only [markLL, List.getElem?_cons_succ, List.take_succ_cons, sumL_cons]
      rw [ih h]
      simp only [Int.natCast_add]
      rw [show k + (x.length : Int) + (sumL (List.take j xs) : Int) = k + ((x.length : Int) + (sumL (List.take j xs) : Int)) from by omega]

end Go.Proofs.Ytmmebcjebphfcaa
