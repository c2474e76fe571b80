/- Plain facts on lists of numbers: what the program's functions compute, said of lists. No memory, no program. -/
import Derived.Below
namespace Go.Proofs.YtpioldgpfpmjiaaGreatDoor
open Go.RowKit

/-- two numbers and a bound -/
def inR (n lo hi : Int) : Bool := decide (lo ≤ n) && decide (n ≤ hi)
theorem inR_true {n lo hi : Int} : inR n lo hi = true ↔ lo ≤ n ∧ n ≤ hi := by simp [inR]
theorem inR_false {n lo hi : Int} : inR n lo hi = false ↔ n < lo ∨ hi < n := by
  have h := @inR_true n lo hi
  cases hb : inR n lo hi
  · simp [hb] at h; simp; omega
  · simp [hb] at h; simp; omega

theorem take_snoc {α : Type} {m : List α} {k : Nat} {x : α} (h : m[k]? = some x) : m.take (k + 1) = m.take k ++ [x] := by
  rw [List.take_add_one, h]; rfl
theorem all_snoc {α : Type} {p : α → Bool} {m : List α} {k : Nat} {x : α} (h : m[k]? = some x) (ha : (m.take k).all p = true) (hx : p x = true) : (m.take (k + 1)).all p = true := by
  rw [take_snoc h, List.all_append, ha]; simp [hx]
theorem all_whole {α : Type} {p : α → Bool} {m : List α} {k : Nat} (ha : (m.take k).all p = true) (hk : m.length ≤ k) : m.all p = true := by
  rwa [List.take_of_length_le hk] at ha
theorem all_fails {α : Type} {p : α → Bool} {m : List α} {k : Nat} {x : α} (h : m[k]? = some x) (hx : p x = false) : m.all p = false := by
  rw [List.all_eq_false]
  exact ⟨x, List.mem_of_getElem? h, by simp [hx]⟩
theorem zip_at {α β : Type} {a : List α} {b : List β} {k : Nat} {x : α} {y : β} (h : a[k]? = some x) (h' : b[k]? = some y) : (a.zip b)[k]? = some (x, y) := by
  rw [List.getElem?_zip_eq_some]; exact ⟨h, h'⟩
theorem at_of_lt {α : Type} {m : List α} {k : Nat} (h : k < m.length) : ∃ x, m[k]? = some x := ⟨m[k], by simp [h]⟩
theorem lt_of_at {α : Type} {m : List α} {k : Nat} {x : α} (h : m[k]? = some x) : k < m.length := by
  rcases List.getElem?_eq_some_iff.1 h with ⟨h, _⟩; exact h

def lvl (x : Int) : Bool := inR x 1 3
/-- a model -/
def okM (m : List Int) : Bool := decide (1 ≤ m.length) && decide (m.length ≤ 5) && m.all lvl
theorem okM_len {m : List Int} (h : okM m = true) : 1 ≤ m.length ∧ m.length ≤ 5 := by simp [okM] at h; omega
theorem okM_all {m : List Int} (h : okM m = true) : m.all lvl = true := by
  unfold okM at h; simp only [Bool.and_eq_true] at h; exact h.2
theorem okM_at {m : List Int} (h : okM m = true) {k : Nat} {x : Int} (hx : m[k]? = some x) : 1 ≤ x ∧ x ≤ 3 := by
  have h2 := okM_all h
  rw [List.all_eq_true] at h2
  exact inR_true.1 (h2 x (List.mem_of_getElem? hx))
theorem okM_mk {m : List Int} (h1 : 1 ≤ m.length) (h2 : m.length ≤ 5) (h3 : m.all lvl = true) : okM m = true := by simp [okM, h1, h2, h3]
theorem okM_no {m : List Int} (h : m.length < 1 ∨ 5 < m.length) : okM m = false := by
  cases hb : okM m
  · rfl
  · have := okM_len hb; omega
theorem okM_no_all {m : List Int} (h : m.all lvl = false) : okM m = false := by
  cases hb : okM m
  · rfl
  · rw [okM_all hb] at h; cases h

theorem okM_end {m : List Int} (h : m.all lvl = true) : inR (m.length : Int) 1 5 = okM m := by
  rw [Bool.eq_iff_iff, inR_true]
  simp [okM, h]
  omega

/-- numbers within the levels of a model, from lo up -/
def okW (lo : Int) (m t : List Int) : Bool := decide (t.length = m.length) && (t.zip m).all fun p => inR p.1 lo (p.2 - 1)
theorem okW_len {lo : Int} {m t : List Int} (h : okW lo m t = true) : t.length = m.length := by
  unfold okW at h; simp only [Bool.and_eq_true, decide_eq_true_eq] at h; exact h.1
theorem okW_no_len {lo : Int} {m t : List Int} (h : t.length ≠ m.length) : okW lo m t = false := by simp [okW, h]
theorem okW_fails {lo : Int} {m t : List Int} {k : Nat} {x y : Int} (hx : t[k]? = some x) (hy : m[k]? = some y) (h : inR x lo (y - 1) = false) : okW lo m t = false := by
  unfold okW
  rw [all_fails (zip_at hx hy) h, Bool.and_false]
theorem okW_step {lo : Int} {m t : List Int} {k : Nat} {x y : Int} (hx : t[k]? = some x) (hy : m[k]? = some y) (ha : ((t.zip m).take k).all (fun p => inR p.1 lo (p.2 - 1)) = true) (h : inR x lo (y - 1) = true) :
    ((t.zip m).take (k + 1)).all (fun p => inR p.1 lo (p.2 - 1)) = true := all_snoc (zip_at hx hy) ha h
theorem okW_end {lo : Int} {m t : List Int} {k : Nat} (hk : t.length ≤ k ∨ m.length ≤ k) (ha : ((t.zip m).take k).all (fun p => inR p.1 lo (p.2 - 1)) = true) :
    ((t.length : Int) == (m.length : Int)) = okW lo m t := by
  have h := all_whole ha (by rw [List.length_zip]; omega)
  unfold okW
  rw [h, Bool.and_true, Bool.eq_iff_iff]
  simp
  omega
theorem okW_at {lo : Int} {m t : List Int} (h : okW lo m t = true) {k : Nat} {x y : Int} (hx : t[k]? = some x) (hy : m[k]? = some y) : lo ≤ x ∧ x < y := by
  unfold okW at h
  simp only [Bool.and_eq_true, List.all_eq_true] at h
  have h1 := inR_true.1 (h.2 (x, y) (List.mem_of_getElem? (zip_at hx hy)))
  simp only at h1
  omega
def okT (m t : List Int) : Bool := okW 0 m t
def okP (m t : List Int) : Bool := okW (-1) m t

/-- what is left of a number when a list's length is taken off it; -1 where it does not reach -/
def szI (m : List Int) (left : Int) : Int := if left - m.length < 0 then -1 else left - m.length
def sumL (mm : List (List Int)) : Nat := (mm.map List.length).sum
def szII (mm : List (List Int)) (left : Int) : Int := if (mm.length : Int) + sumL mm ≤ left then left - mm.length - sumL mm else -1
theorem sumL_snoc {mm : List (List Int)} {k : Nat} {r : List Int} (h : mm[k]? = some r) : sumL (mm.take (k + 1)) = sumL (mm.take k) + r.length := by
  unfold sumL; rw [take_snoc h]; simp
theorem sumL_take_le (mm : List (List Int)) (k : Nat) : sumL (mm.take k) ≤ sumL mm := by
  have h : sumL mm = sumL (mm.take k) + sumL (mm.drop k) := by
    unfold sumL; rw [← List.sum_append, ← List.map_append, List.take_append_drop]
  omega
theorem szII_start {mm : List (List Int)} {left : Int} (h : left - mm.length < 0) : szII mm left = -1 := by unfold szII; rw [if_neg (by omega)]
theorem szII_fails {mm : List (List Int)} {left : Int} {k : Nat} {r : List Int} (hr : mm[k]? = some r) (h : left - mm.length - sumL (mm.take k) - r.length < 0) : szII mm left = -1 := by
  have h1 := sumL_snoc hr
  have h2 := sumL_take_le mm (k + 1)
  unfold szII; rw [if_neg (by omega)]
theorem szII_end {mm : List (List Int)} {left : Int} {k : Nat} (hk : mm.length ≤ k) (h : 0 ≤ left - mm.length - sumL (mm.take k)) : szII mm left = left - mm.length - sumL (mm.take k) := by
  rw [List.take_of_length_le hk] at *
  unfold szII; rw [if_pos (by omega)]
theorem szII_le {mm : List (List Int)} {left : Int} (h : 0 ≤ szII mm left) : (mm.length : Int) + sumL mm ≤ left ∧ szII mm left ≤ left := by
  unfold szII at *
  split at h
  · rename_i h1; rw [if_pos h1]; omega
  · omega
theorem sumL_row {mm : List (List Int)} {r : List Int} (h : r ∈ mm) : r.length ≤ sumL mm := by
  induction mm with
  | nil => cases h
  | cons x mm ih =>
    have e : sumL (x :: mm) = x.length + sumL mm := by simp [sumL]
    rcases List.mem_cons.1 h with rfl | h
    · omega
    · have := ih h; omega

theorem szII_rows {mm : List (List Int)} {left : Int} (h : 0 ≤ szII mm left) (hl : left ≤ 1048576) : mm.length ≤ 1048576 ∧ (∀ r ∈ mm, r.length ≤ 1048576) ∧ sumL mm ≤ 1048576 := by
  have h1 := szII_le h
  refine ⟨by omega, fun r hr => ?_, by omega⟩
  have := sumL_row hr
  omega

def eqII (x y : List (List Int)) : Bool := x == y
theorem eqII_true {x y : List (List Int)} : eqII x y = true ↔ x = y := by simp [eqII]
theorem eqII_no {x y : List (List Int)} (h : x ≠ y) : eqII x y = false := by simp [eqII, h]

/-- a suite -/
def okS (m : List Int) (mm : List (List Int)) : Bool := mm.all (okT m) && decide (mm.length ≤ 20)
theorem okS_len {m : List Int} {mm : List (List Int)} (h : okS m mm = true) : mm.length ≤ 20 := by simp [okS] at h; exact h.2
theorem okS_all {m : List Int} {mm : List (List Int)} (h : okS m mm = true) {r : List Int} (hr : r ∈ mm) : okT m r = true := by
  unfold okS at h; simp only [Bool.and_eq_true, List.all_eq_true] at h; exact h.1 r hr
theorem okS_fails {m : List Int} {mm : List (List Int)} {k : Nat} {r : List Int} (hr : mm[k]? = some r) (h : okT m r = false) : okS m mm = false := by
  unfold okS; rw [all_fails hr h, Bool.false_and]
theorem okS_no {m : List Int} {mm : List (List Int)} (h : 20 < mm.length) : okS m mm = false := by
  cases hb : okS m mm
  · rfl
  · have := okS_len hb; omega
theorem okS_end {m : List Int} {mm : List (List Int)} {k : Nat} (hk : mm.length ≤ k) (ha : (mm.take k).all (okT m) = true) : decide ((mm.length : Int) ≤ 20) = okS m mm := by
  unfold okS; rw [all_whole ha hk, Bool.true_and, Bool.eq_iff_iff]; simp; omega

/-- for how many factors a pattern has a level -/
def strN (p : List Int) : Nat := p.countP (fun x => x != -1)
theorem strN_snoc {p : List Int} {k : Nat} {x : Int} (h : p[k]? = some x) : strN (p.take (k + 1)) = strN (p.take k) + if x != -1 then 1 else 0 := by
  unfold strN; rw [take_snoc h, List.countP_append]; simp
theorem strN_le (p : List Int) : strN p ≤ p.length := List.countP_le_length
theorem strN_take_le (p : List Int) (k : Nat) : strN (p.take k) ≤ k := Nat.le_trans (strN_le _) (List.length_take_le _ _)

/-- the strength of a pattern of a model -/
def strV (m p : List Int) : Int := if okM m && okP m p then strN p else -1
theorem strV_yes {m p : List Int} (h : okM m = true) (h' : okP m p = true) : strV m p = strN p := by unfold strV; rw [h, h']; rfl
theorem strV_no {m p : List Int} (h : okM m = false ∨ okP m p = false) : strV m p = -1 := by
  unfold strV
  rcases h with h | h <;> rw [h] <;> simp

theorem strV_no' {m p : List Int} (h : (okM m && okP m p) = false) : strV m p = -1 := by unfold strV; rw [h]; rfl

/-- a test has all levels of a pattern -/
def mB (p t : List Int) : Bool := (p.zip t).all fun q => q.1 == -1 || q.1 == q.2
theorem mB_fails {p t : List Int} {k : Nat} {x y : Int} (hx : p[k]? = some x) (hy : t[k]? = some y) (h1 : x ≠ -1) (h2 : x ≠ y) : mB p t = false :=
  all_fails (zip_at hx hy) (by simp [h1, h2])
theorem mB_step {p t : List Int} {k : Nat} {x y : Int} (hx : p[k]? = some x) (hy : t[k]? = some y) (ha : ((p.zip t).take k).all (fun q => q.1 == -1 || q.1 == q.2) = true) (h : x = -1 ∨ x = y) :
    ((p.zip t).take (k + 1)).all (fun q => q.1 == -1 || q.1 == q.2) = true := all_snoc (zip_at hx hy) ha (by simpa using h)
theorem mB_end {p t : List Int} {k : Nat} (hk : p.length ≤ k) (ha : ((p.zip t).take k).all (fun q => q.1 == -1 || q.1 == q.2) = true) : mB p t = true :=
  all_whole ha (by rw [List.length_zip]; omega)

/-- place i of a list of at most five numbers, as the program's arrays have it -/
def at5 (l : List Int) (i : Nat) : Int := l.getD i 0
theorem at5_of {l : List Int} {i : Nat} {x : Int} (h : l[i]? = some x) : at5 l i = x := by simp [at5, List.getD, h]
theorem at5_out {l : List Int} {i : Nat} (h : l.length ≤ i) : at5 l i = 0 := by simp [at5, List.getD, h]
/-- a pattern of an array meets a test of an array -/
def meet5 (P Q : Nat → Int) : Bool := (List.range 5).all fun i => P i == -1 || P i == Q i
theorem meet5_mB {p t : List Int} (h : p.length = t.length) (h5 : p.length ≤ 5) : meet5 (at5 p) (at5 t) = mB p t := by
  unfold meet5 mB
  rw [Bool.eq_iff_iff, List.all_eq_true, List.all_eq_true]
  constructor
  · intro ha q hq
    obtain ⟨k, hk⟩ := List.getElem?_of_mem hq
    obtain ⟨h1, h2⟩ := List.getElem?_zip_eq_some.1 hk
    have hlt := lt_of_at h1
    have := ha k (List.mem_range.2 (by omega))
    rwa [at5_of h1, at5_of h2] at this
  · intro ha i hi
    by_cases hlt : i < p.length
    · obtain ⟨x, hx⟩ := at_of_lt hlt
      obtain ⟨y, hy⟩ := at_of_lt (show i < t.length by omega)
      have := ha (x, y) (List.mem_of_getElem? (zip_at hx hy))
      rw [at5_of hx, at5_of hy]; exact this
    · rw [at5_out (by omega), at5_out (by omega)]; simp

/-- what the laws write into a slice, and into a slice of slices, to see that it is nobody else's -/
def markL (k : Int) (n : Nat) : List Int := (List.range n).map fun (i : Nat) => k + (i : Int)
def markLL : Int → List (List Int) → List (List Int)
  | _, [] => []
  | k, r :: rs => markL k r.length :: markLL (k + r.length) rs
theorem markL_len (k : Int) (n : Nat) : (markL k n).length = n := by simp [markL]
theorem markL_at {k : Int} {n i : Nat} (h : i < n) : (markL k n)[i]? = some (k + (i : Int)) := by simp [markL, h]
theorem markL_of {k : Int} {n : Nat} {l : List Int} (h1 : l.length = n) (h2 : ∀ i : Nat, i < n → l[i]? = some (k + (i : Int))) : l = markL k n := by
  apply List.ext_getElem? 
  intro i
  by_cases h : i < n
  · rw [h2 i h, markL_at h]
  · rw [List.getElem?_eq_none (by omega), List.getElem?_eq_none (by rw [markL_len]; omega)]
theorem sumL_cons (r : List Int) (rs : List (List Int)) : sumL (r :: rs) = r.length + sumL rs := by simp [sumL]
theorem markLL_len (k : Int) (mm : List (List Int)) : (markLL k mm).length = mm.length := by
  induction mm generalizing k with
  | nil => rfl
  | cons r rs ih => simp [markLL, ih]
theorem markLL_snoc (k : Int) (mm : List (List Int)) (r : List Int) : markLL k (mm ++ [r]) = markLL k mm ++ [markL (k + sumL mm) r.length] := by
  induction mm generalizing k with
  | nil => simp [markLL, sumL]
  | cons x xs ih =>
    rw [List.cons_append, markLL, ih, markLL, sumL_cons, List.cons_append]
    simp only [Int.natCast_add]
    rw [show k + (x.length : Int) + (sumL xs : Int) = k + ((x.length : Int) + (sumL xs : Int)) from by omega]
theorem markLL_step {k : Int} {mm : List (List Int)} {j : Nat} {r : List Int} (h : mm[j]? = some r) :
    (markLL k (mm.take j) ++ mm.drop j).set j (markL (k + sumL (mm.take j)) r.length) = markLL k (mm.take (j + 1)) ++ mm.drop (j + 1) := by
  have hj := lt_of_at h
  have hl : (markLL k (mm.take j)).length = j := by rw [markLL_len]; simp; omega
  rw [take_snoc h, markLL_snoc, List.set_append_right _ _ (by omega), hl, Nat.sub_self]
  rw [List.drop_eq_getElem_cons hj, List.set_cons_zero, List.append_assoc]
  rfl
theorem markLL_mid {k : Int} {mm : List (List Int)} {j : Nat} {r : List Int} (h : mm[j]? = some r) : (markLL k (mm.take j) ++ mm.drop j)[j]? = some r := by
  have hj := lt_of_at h
  have hl : (markLL k (mm.take j)).length = j := by rw [markLL_len]; simp; omega
  rw [List.getElem?_append_right (by omega), hl, Nat.sub_self, List.getElem?_drop]
  simpa using h
theorem markLL_at {k : Int} {mm : List (List Int)} {j : Nat} {r : List Int} (h : mm[j]? = some r) : (markLL k mm)[j]? = some (markL (k + sumL (mm.take j)) r.length) := by
  induction mm generalizing k j with
  | nil => simp at h
  | cons x xs ih =>
    cases j with
    | zero => simp at h; subst h; simp [markLL, sumL]
    | succ j =>
      simp only [List.getElem?_cons_succ] at h
      simp only [markLL, List.getElem?_cons_succ, List.take_succ_cons, sumL_cons]
      rw [ih h]
      simp only [Int.natCast_add]
      rw [show k + (x.length : Int) + (sumL (List.take j xs) : Int) = k + ((x.length : Int) + (sumL (List.take j xs) : Int)) from by omega]

/- Plain facts on lists of patterns. -/
open Go.RowKit

/-- the patterns of t levels over the levels ms -/
def patsR : List Int → Int → List (List Int)
  | [], t => if t = 0 then [[]] else []
  | l :: ms, t => if t < 0 ∨ (ms.length : Int) + 1 < t then [] else ((List.range l.toNat).flatMap fun (x : Nat) => (patsR ms (t - 1)).map ((x : Int) :: ·)) ++ (patsR ms t).map (-1 :: ·)
theorem patsR_out {ms : List Int} {t : Int} (h : t < 0 ∨ (ms.length : Int) < t) : patsR ms t = [] := by
  cases ms with
  | nil => simp only [patsR]; rw [if_neg (by simp at h; omega)]
  | cons l ms => simp only [patsR]; rw [if_pos (by simp at h; omega)]
theorem patsR_cons {l : Int} {ms : List Int} {t : Int} (h0 : 0 ≤ t) (h1 : t ≤ (ms.length : Int) + 1) :
    patsR (l :: ms) t = ((List.range l.toNat).flatMap fun (x : Nat) => (patsR ms (t - 1)).map ((x : Int) :: ·)) ++ (patsR ms t).map (-1 :: ·) := by
  simp only [patsR]; rw [if_neg (by omega)]
/-- those that begin with head -/
def patS (m head : List Int) (t : Int) : List (List Int) := (patsR (m.drop head.length) t).map (head ++ ·)
theorem patS_out {m head : List Int} {t : Int} (hh : head.length ≤ m.length) (h : t < 0 ∨ (m.length : Int) - head.length < t) : patS m head t = [] := by
  unfold patS
  rw [patsR_out (by simp; omega)]; rfl
theorem patS_end {m head : List Int} {t : Int} (hh : head.length = m.length) (h0 : t = 0) : patS m head t = [head] := by
  unfold patS
  rw [List.drop_of_length_le (by omega), h0]
  simp [patsR]
/-- the patterns with the levels below k -/
def patK (m head : List Int) (t : Int) (k : Nat) : List (List Int) := (List.range k).flatMap fun (x : Nat) => patS m (head ++ [(x : Int)]) (t - 1)
theorem patK_succ (m head : List Int) (t : Int) (k : Nat) : patK m head t (k + 1) = patK m head t k ++ patS m (head ++ [(k : Int)]) (t - 1) := by
  unfold patK; rw [List.range_succ, List.flatMap_append]; simp
theorem patS_step {m head : List Int} {t : Int} {y : Int} (hy : m[head.length]? = some y) (h0 : 0 ≤ t) (h1 : t ≤ (m.length : Int) - head.length) :
    patS m head t = patK m head t y.toNat ++ patS m (head ++ [-1]) t := by
  have hlt := lt_of_at hy
  have hd : m.drop head.length = y :: m.drop (head.length + 1) := by
    rw [List.drop_eq_getElem_cons hlt]
    rw [(List.getElem?_eq_some_iff.1 hy).2]
  unfold patS patK
  rw [hd, patsR_cons h0 (by simp; omega), List.map_append, List.map_flatMap, List.map_map]
  congr 1
  · congr 1
    funext x
    simp [patS]
  · simp
/-- how many there are at most -/
theorem patsR_len {ms : List Int} (h : ∀ y ∈ ms, y ≤ 3) (t : Int) : (patsR ms t).length ≤ 4 ^ ms.length := by
  induction ms generalizing t with
  | nil => simp only [patsR]; split <;> simp
  | cons l ms ih =>
    simp only [patsR]
    split
    · simp
    · have h1 := ih (fun y hy => h y (List.mem_cons_of_mem _ hy)) (t - 1)
      have h2 := ih (fun y hy => h y (List.mem_cons_of_mem _ hy)) t
      have h3 : l ≤ 3 := h l (List.mem_cons_self ..)
      have h4 : ((List.range l.toNat).flatMap fun (x : Nat) => (patsR ms (t - 1)).map ((x : Int) :: ·)).length = l.toNat * (patsR ms (t - 1)).length := by
        induction l.toNat with
        | zero => simp
        | succ n ihn => rw [List.range_succ, List.flatMap_append, List.length_append, ihn]; simp [Nat.succ_mul]
      rw [List.length_append, h4, List.length_map, List.length_cons, Nat.pow_succ]
      have h5 : l.toNat * (patsR ms (t - 1)).length ≤ 3 * 4 ^ ms.length := Nat.mul_le_mul (by omega) h1
      omega
theorem okM_le3 {m : List Int} (h : okM m = true) : ∀ y ∈ m, y ≤ 3 := by
  intro y hy
  obtain ⟨k, hk⟩ := List.getElem?_of_mem hy
  exact (okM_at h hk).2
theorem patS_len {m head : List Int} (h : okM m = true) (t : Int) : (patS m head t).length ≤ 1024 := by
  unfold patS
  rw [List.length_map]
  have h1 := patsR_len (ms := m.drop head.length) (fun y hy => okM_le3 h y (List.mem_of_mem_drop hy)) t
  have h2 : 4 ^ (m.drop head.length).length ≤ 4 ^ 5 := Nat.pow_le_pow_right (by omega) (by have := okM_len h; simp; omega)
  omega
theorem patK_len {m head : List Int} (h : okM m = true) (t : Int) (k : Nat) : (patK m head t k).length ≤ k * 1024 := by
  induction k with
  | zero => simp [patK]
  | succ k ih => rw [patK_succ, List.length_append, Nat.succ_mul]; have := patS_len h (head := head ++ [(k : Int)]) (t - 1); omega

/- Plain facts on patterns and tests that the promises speak of. -/
open Go.RowKit

theorem strN_cons (x : Int) (p : List Int) : strN (x :: p) = strN p + if x != -1 then 1 else 0 := by
  unfold strN; rw [List.countP_cons]
theorem okW_cons {lo x y : Int} {m t : List Int} : okW lo (y :: m) (x :: t) = (okW lo m t && inR x lo (y - 1)) := by
  unfold okW
  rw [Bool.eq_iff_iff]
  simp [and_comm, and_left_comm]
theorem mem_patsR : ∀ {ms : List Int} {t : Int} {p : List Int} (_ : ∀ y ∈ ms, 0 ≤ y), p ∈ patsR ms t ↔ okW (-1) ms p = true ∧ (strN p : Int) = t
  | [], t, p, _ => by
    simp only [patsR]
    cases p with
    | nil => split <;> simp_all [okW, strN] <;> omega
    | cons x p => split <;> simp [okW]
  | l :: ms, t, p, h0 => by
    have hms : ∀ y ∈ ms, 0 ≤ y := fun y hy => h0 y (List.mem_cons_of_mem _ hy)
    have hl0 : 0 ≤ l := h0 l (List.mem_cons_self ..)
    simp only [patsR]
    split
    · rename_i hc
      constructor
      · intro h; simp at h
      · rintro ⟨h1, h2⟩
        exfalso
        have h3 := okW_len h1
        have h4 := strN_le p
        rw [List.length_cons] at h3
        omega
    · rename_i hc
      rw [List.mem_append, List.mem_flatMap]
      cases p with
      | nil => simp [okW]
      | cons x p =>
        rw [okW_cons, strN_cons, Bool.and_eq_true]
        constructor
        · rintro (⟨k, hk, h⟩ | h)
          · obtain ⟨r, hr, he⟩ := List.mem_map.1 h
            obtain ⟨rfl, rfl⟩ := List.cons.inj he
            have h1 := (mem_patsR hms).1 hr
            have h2 := List.mem_range.1 hk
            refine ⟨⟨h1.1, inR_true.2 (by omega)⟩, ?_⟩
            have h3 : ((k : Int) != -1) = true := by rw [bne_iff_ne]; omega
            rw [h3]; simp; omega
          · obtain ⟨r, hr, he⟩ := List.mem_map.1 h
            obtain ⟨rfl, rfl⟩ := List.cons.inj he
            have h1 := (mem_patsR hms).1 hr
            refine ⟨⟨h1.1, inR_true.2 (by omega)⟩, ?_⟩
            simp; exact h1.2
        · rintro ⟨⟨h1, h2⟩, h3⟩
          have h4 := inR_true.1 h2
          by_cases hx : x = -1
          · subst hx
            exact .inr (List.mem_map.2 ⟨p, (mem_patsR hms).2 ⟨h1, by simpa using h3⟩, rfl⟩)
          · have h5 : (x != -1) = true := by rw [bne_iff_ne]; exact hx
            rw [h5] at h3
            refine .inl ⟨x.toNat, List.mem_range.2 (by omega), List.mem_map.2 ⟨p, (mem_patsR hms).2 ⟨h1, by simp at h3; omega⟩, ?_⟩⟩
            rw [show ((x.toNat : Nat) : Int) = x by omega]
theorem okM_ge {m : List Int} (h : okM m = true) : ∀ y ∈ m, 0 ≤ y := by
  intro y hy
  obtain ⟨k, hk⟩ := List.getElem?_of_mem hy
  have := (okM_at h hk).1
  omega
theorem mem_patS {m p : List Int} {t : Int} (h : okM m = true) : p ∈ patS m [] t ↔ okP m p = true ∧ (strN p : Int) = t := by
  unfold patS okP
  rw [← mem_patsR (okM_ge h)]
  simp
theorem strN_full {p : List Int} : strN p = p.length ↔ ∀ x ∈ p, x ≠ -1 := by
  unfold strN
  rw [List.countP_eq_length]
  simp
theorem okT_iff {m p : List Int} : okT m p = true ↔ okP m p = true ∧ strN p = p.length := by
  rw [strN_full]
  unfold okT okP
  constructor
  · intro h
    have hl := okW_len h
    refine ⟨?_, fun x hx => ?_⟩
    · unfold okW at h ⊢
      rw [Bool.and_eq_true] at h ⊢
      refine ⟨h.1, ?_⟩
      rw [List.all_eq_true] at h ⊢
      intro q hq
      have := inR_true.1 (h.2 q hq)
      exact inR_true.2 (by omega)
    · obtain ⟨k, hk⟩ := List.getElem?_of_mem hx
      obtain ⟨y, hy⟩ := at_of_lt (show k < m.length by have := lt_of_at hk; omega)
      have := (okW_at h hk hy).1
      omega
  · rintro ⟨h, hn⟩
    have hl := okW_len h
    unfold okW at h ⊢
    rw [Bool.and_eq_true] at h ⊢
    refine ⟨h.1, ?_⟩
    rw [List.all_eq_true] at h ⊢
    intro q hq
    have h1 := inR_true.1 (h.2 q hq)
    have h2 := hn q.1 (List.of_mem_zip hq).1
    exact inR_true.2 (by omega)
/-- tests are patterns of all factors -/
theorem mem_full {m p : List Int} (h : okM m = true) : p ∈ patS m [] m.length ↔ okT m p = true := by
  rw [mem_patS h, okT_iff]
  constructor
  · rintro ⟨h1, h2⟩
    have := okW_len h1
    exact ⟨h1, by omega⟩
  · rintro ⟨h1, h2⟩
    have := okW_len h1
    exact ⟨h1, by omega⟩

/-- no pattern comes twice -/
theorem nodup_patsR : ∀ {ms : List Int} {t : Int}, (patsR ms t).Nodup
  | [], t => by simp only [patsR]; split <;> simp
  | l :: ms, t => by
    simp only [patsR]
    split
    · simp
    · have hc : ∀ (x : Int) (t : Int), ((patsR ms t).map (x :: ·)).Nodup := fun x t => by
        rw [List.Nodup, List.pairwise_map]
        exact (nodup_patsR (ms := ms) (t := t)).imp fun h e => h (List.cons.inj e).2
      rw [List.nodup_append]
      refine ⟨?_, hc _ _, ?_⟩
      · induction l.toNat with
        | zero => simp
        | succ n ih =>
          rw [List.range_succ, List.flatMap_append, List.nodup_append]
          refine ⟨ih, by simpa using hc n (t - 1), ?_⟩
          intro a ha b hb he
          subst he
          obtain ⟨k, hk, h1⟩ := List.mem_flatMap.1 ha
          have hk2 := List.mem_range.1 hk
          obtain ⟨r, _, e1⟩ := List.mem_map.1 h1
          simp at hb
          obtain ⟨r2, _, e2⟩ := hb
          rw [← e2] at e1
          have := (List.cons.inj e1).1
          omega
      · intro a ha b hb he
        subst he
        obtain ⟨k, hk, h1⟩ := List.mem_flatMap.1 ha
        obtain ⟨r, _, e1⟩ := List.mem_map.1 h1
        obtain ⟨r2, _, e2⟩ := List.mem_map.1 hb
        rw [← e2] at e1
        have := (List.cons.inj e1).1
        omega
theorem nodup_patS {m : List Int} {t : Int} : (patS m [] t).Nodup := by
  unfold patS
  simpa using nodup_patsR (ms := m) (t := t)
theorem nodup_at {α : Type} {l : List α} (h : l.Nodup) {j k : Nat} {x y : α} (hx : l[j]? = some x) (hy : l[k]? = some y) (hjk : j < k) : x ≠ y := by
  have h1 := List.pairwise_iff_getElem.1 h j k (lt_of_at hx) (lt_of_at hy) hjk
  obtain ⟨_, rfl⟩ := List.getElem?_eq_some_iff.1 hx
  obtain ⟨_, rfl⟩ := List.getElem?_eq_some_iff.1 hy
  exact h1

/-- the product of numbers, each greater by d -/
def prodL (d : Int) (l : List Int) : Int := l.foldl (fun a x => a * (x + d)) 1
theorem prodL_snoc (d : Int) (l : List Int) (x : Int) : prodL d (l ++ [x]) = prodL d l * (x + d) := by simp [prodL]
theorem foldl_mul (d : Int) (l : List Int) (a : Int) : l.foldl (fun a x => a * (x + d)) a = a * prodL d l := by
  unfold prodL
  induction l generalizing a with
  | nil => simp
  | cons x l ih => rw [List.foldl_cons, List.foldl_cons, ih, ih (1 * (x + d)), Int.one_mul, Int.mul_assoc]
theorem prodL_cons (d x : Int) (l : List Int) : prodL d (x :: l) = (x + d) * prodL d l := by
  have h := foldl_mul d l (1 * (x + d))
  rw [Int.one_mul] at h
  unfold prodL at h ⊢
  rw [List.foldl_cons, Int.one_mul]
  exact h
theorem flat_len {ms : List Int} {t : Int} (n : Nat) : ((List.range n).flatMap fun (x : Nat) => (patsR ms t).map ((x : Int) :: ·)).length = n * (patsR ms t).length := by
  induction n with
  | zero => simp
  | succ n ih => rw [List.range_succ, List.flatMap_append, List.length_append, ih]; simp [Nat.succ_mul]
theorem len_full : ∀ {ms : List Int} (_ : ∀ y ∈ ms, 0 ≤ y), ((patsR ms ms.length).length : Int) = prodL 0 ms
  | [], _ => by simp [patsR, prodL]
  | l :: ms, h => by
    have hms : ∀ y ∈ ms, 0 ≤ y := fun y hy => h y (List.mem_cons_of_mem _ hy)
    have hl0 : 0 ≤ l := h l (List.mem_cons_self ..)
    rw [patsR_cons (by simp; omega) (by simp), List.length_append, List.length_map, patsR_out (ms := ms) (t := ((l :: ms).length : Int)) (.inr (by simp; omega)), flat_len]
    have e : (((l :: ms).length : Nat) : Int) - 1 = ms.length := by simp
    rw [e, prodL_cons, ← len_full hms]
    simp only [List.length_nil, Nat.add_zero, Int.natCast_mul, Int.add_zero]
    rw [show ((l.toNat : Nat) : Int) = l by omega]
/-- how many there are of all strengths below n -/
def cntP (ms : List Int) (n : Nat) : Nat := ((List.range n).map fun (k : Nat) => (patsR ms k).length).sum
theorem cntP_succ (ms : List Int) (n : Nat) : cntP ms (n + 1) = cntP ms n + (patsR ms n).length := by
  unfold cntP; rw [List.range_succ]; simp
theorem cntP_cons {l : Int} {ms : List Int} : ∀ n : Nat, n ≤ ms.length + 2 → cntP (l :: ms) n = l.toNat * cntP ms (n - 1) + cntP ms n
  | 0, _ => by simp [cntP]
  | n + 1, hn => by
    rw [cntP_succ, cntP_cons n (by omega), cntP_succ, patsR_cons (by omega) (by omega), List.length_append, List.length_map, flat_len]
    cases n with
    | zero =>
      rw [patsR_out (ms := ms) (t := ((0 : Nat) : Int) - 1) (.inl (by omega))]
      simp [cntP]
    | succ k =>
      have e : ((k + 1 : Nat) : Int) - 1 = (k : Nat) := by omega
      rw [e]
      simp only [Nat.add_sub_cancel]
      rw [cntP_succ ms k, Nat.mul_add]
      omega
theorem cnt_all : ∀ {ms : List Int} (_ : ∀ y ∈ ms, 0 ≤ y), (cntP ms (ms.length + 1) : Int) = prodL 1 ms
  | [], _ => by simp [cntP, patsR, prodL]
  | l :: ms, h => by
    have hms : ∀ y ∈ ms, 0 ≤ y := fun y hy => h y (List.mem_cons_of_mem _ hy)
    have hl0 : 0 ≤ l := h l (List.mem_cons_self ..)
    rw [cntP_cons _ (by simp), List.length_cons, Nat.add_sub_cancel, cntP_succ ms (ms.length + 1), patsR_out (ms := ms) (t := ((ms.length + 1 : Nat) : Int)) (.inr (by omega)), prodL_cons, ← cnt_all hms]
    simp only [List.length_nil, Nat.add_zero, Int.natCast_add, Int.natCast_mul]
    rw [show ((l.toNat : Nat) : Int) = l by omega, Int.add_mul, Int.one_mul]

/- Plain facts: what is missing, what a test matches. -/
open Go.RowKit

/-- the arguments of IsCovering -/
def okC (m : List Int) (s : List (List Int)) (t : Int) : Bool := okM m && okS m s && inR t 0 m.length
def hasP (s : List (List Int)) (p : List Int) : Bool := s.any (mB p)
theorem hasP_yes {s : List (List Int)} {p r : List Int} {k : Nat} (h : s[k]? = some r) (hm : mB p r = true) : hasP s p = true := by
  unfold hasP; rw [List.any_eq_true]; exact ⟨r, List.mem_of_getElem? h, hm⟩
theorem hasP_no {s : List (List Int)} {p : List Int} {k : Nat} (hk : s.length ≤ k) (h : (s.take k).all (fun r => !mB p r) = true) : hasP s p = false := by
  have h1 := all_whole h hk
  unfold hasP
  rw [List.any_eq_false]
  intro r hr
  have := (List.all_eq_true.1 h1) r hr
  simpa using this
theorem patsR_row : ∀ {ms : List Int} {t : Int} {l : List Int}, l ∈ patsR ms t → l.length = ms.length
  | [], t, l, h => by
    simp only [patsR] at h
    split at h
    · simp at h; subst h; rfl
    · simp at h
  | y :: ms, t, l, h => by
    simp only [patsR] at h
    split at h
    · simp at h
    · rcases List.mem_append.1 h with h | h
      · obtain ⟨x, _, h⟩ := List.mem_flatMap.1 h
        obtain ⟨r, hr, rfl⟩ := List.mem_map.1 h
        simp [patsR_row hr]
      · obtain ⟨r, hr, rfl⟩ := List.mem_map.1 h
        simp [patsR_row hr]
theorem patS_row {m : List Int} {t : Int} : ∀ l ∈ patS m [] t, l.length = m.length := by
  intro l h
  obtain ⟨r, hr, rfl⟩ := List.mem_map.1 h
  have := patsR_row hr
  simpa using this
def misP (s ps : List (List Int)) : List (List Int) := ps.filter fun p => !hasP s p
def misL (m : List Int) (s : List (List Int)) (t : Int) : List (List Int) := misP s (patS m [] t)
theorem misP_step {s ps : List (List Int)} {k : Nat} {r : List Int} (hx : ps[k]? = some r) (h : hasP s r = false) : misP s (ps.take (k + 1)) = misP s (ps.take k) ++ [r] := by
  unfold misP; rw [take_snoc hx, List.filter_append]; simp [h]
theorem misP_skip {s ps : List (List Int)} {k : Nat} {r : List Int} (hx : ps[k]? = some r) (h : hasP s r = true) : misP s (ps.take (k + 1)) = misP s (ps.take k) := by
  unfold misP; rw [take_snoc hx, List.filter_append]; simp [h]
theorem misP_len (s ps : List (List Int)) (k : Nat) : (misP s (ps.take k)).length ≤ ps.length := by
  unfold misP
  exact Nat.le_trans (List.length_filter_le _ _) (by simp; omega)
theorem misL_len {m : List Int} {s : List (List Int)} {t : Int} (h : okM m = true) : (misL m s t).length ≤ 1024 := by
  unfold misL misP
  exact Nat.le_trans (List.length_filter_le _ _) (patS_len h t)
theorem misL_row {m : List Int} {s : List (List Int)} {t : Int} : ∀ l ∈ misL m s t, l.length = m.length := fun l h => patS_row l (List.mem_filter.1 h).1
def unP (ps : List (List Int)) (T : Nat → Int) : List (List Int) := ps.filter fun p => !meet5 (at5 p) T
theorem unP_step {ps : List (List Int)} {T : Nat → Int} {k : Nat} {r : List Int} (hx : ps[k]? = some r) (h : meet5 (at5 r) T = false) : unP (ps.take (k + 1)) T = unP (ps.take k) T ++ [r] := by
  unfold unP; rw [take_snoc hx, List.filter_append]; simp [h]
theorem unP_skip {ps : List (List Int)} {T : Nat → Int} {k : Nat} {r : List Int} (hx : ps[k]? = some r) (h : meet5 (at5 r) T = true) : unP (ps.take (k + 1)) T = unP (ps.take k) T := by
  unfold unP; rw [take_snoc hx, List.filter_append]; simp [h]
theorem unP_len (ps : List (List Int)) (T : Nat → Int) (k : Nat) : (unP (ps.take k) T).length ≤ ps.length := by
  unfold unP
  exact Nat.le_trans (List.length_filter_le _ _) (by simp; omega)
theorem filt_len {α : Type} (l : List α) (f : α → Bool) : (l.filter fun x => !f x).length + l.countP f = l.length := by
  induction l with
  | nil => rfl
  | cons x l ih => cases h : f x <;> simp [h] <;> omega
def frP (ps : List (List Int)) (x : List Int) : Nat := ps.countP fun p => mB p x
theorem frP_step {ps : List (List Int)} {x : List Int} {k : Nat} {r : List Int} (hx : ps[k]? = some r) : frP (ps.take (k + 1)) x = frP (ps.take k) x + if mB r x then 1 else 0 := by
  unfold frP; rw [take_snoc hx, List.countP_append]; simp [List.countP_cons]
theorem frP_le (ps : List (List Int)) (x : List Int) (k : Nat) : frP (ps.take k) x ≤ k := Nat.le_trans List.countP_le_length (by simp; omega)
theorem okC_parts {m : List Int} {s : List (List Int)} {t : Int} (h : okC m s t = true) : okM m = true ∧ (0 ≤ t ∧ t ≤ m.length) ∧ s.length ≤ 20 ∧ ∀ r ∈ s, r.length = m.length := by
  unfold okC at h
  rw [Bool.and_eq_true, Bool.and_eq_true] at h
  exact ⟨h.1.1, inR_true.1 h.2, okS_len h.1.2, fun r hr => okW_len (okS_all h.1.2 hr)⟩
def moL (m : List Int) (s : List (List Int)) (t : Int) : List (List Int) := if okC m s t then misL m s t else []
theorem mo_yes {m : List Int} {s : List (List Int)} {t : Int} (h : okC m s t = true) : moL m s t = misL m s t := by unfold moL; rw [h]; rfl
theorem mo_no {m : List Int} {s : List (List Int)} {t : Int} (h : okC m s t = false) : moL m s t = [] := by unfold moL; rw [h]; rfl
def covA (m : List Int) (s : List (List Int)) (t : Int) : Int := if okC m s t then ((patS m [] t).length : Int) - (misL m s t).length else -1
def covB (m : List Int) (s : List (List Int)) (t : Int) : Int := if okC m s t then (patS m [] t).length else -1
theorem cov_yes {m : List Int} {s : List (List Int)} {t : Int} (h : okC m s t = true) : covA m s t = ((patS m [] t).length : Int) - (misL m s t).length ∧ covB m s t = (patS m [] t).length := by unfold covA covB; rw [h]; exact ⟨rfl, rfl⟩
theorem cov_no {m : List Int} {s : List (List Int)} {t : Int} (h : okC m s t = false) : covA m s t = -1 ∧ covB m s t = -1 := by unfold covA covB; rw [h]; exact ⟨rfl, rfl⟩
def icB (m : List Int) (s : List (List Int)) (t : Int) : Bool := okC m s t && (((misL m s t).length : Int) == 0)
theorem ic_yes {m : List Int} {s : List (List Int)} {t : Int} (h : okC m s t = true) : icB m s t = (((misL m s t).length : Int) == 0) := by unfold icB; rw [h]; rfl
theorem ic_no {m : List Int} {s : List (List Int)} {t : Int} (h : okC m s t = false) : icB m s t = false := by unfold icB; rw [h]; rfl
theorem moL_row {m : List Int} {s : List (List Int)} {t : Int} : ∀ l ∈ moL m s t, l.length = m.length ∧ m.length ≤ 5 := by
  intro l h
  cases hc : okC m s t
  · rw [mo_no hc] at h; simp at h
  · rw [mo_yes hc] at h
    exact ⟨misL_row l h, (okM_len (okC_parts hc).1).2⟩
theorem moL_len {m : List Int} {s : List (List Int)} {t : Int} : (moL m s t).length ≤ 1024 := by
  cases hc : okC m s t
  · rw [mo_no hc]; simp
  · rw [mo_yes hc]; exact misL_len (okC_parts hc).1
def apL (m : List Int) (t : Int) : List (List Int) := if okM m && inR t 0 m.length then patsR m t else []
theorem ap_yes {m : List Int} {t : Int} (h : okM m = true) (h' : inR t 0 m.length = true) : apL m t = patS m [] t := by
  unfold apL patS
  rw [h, h']; simp
theorem ap_no {m : List Int} {t : Int} (h : okM m = false ∨ inR t 0 m.length = false) : apL m t = [] := by
  unfold apL
  rcases h with h | h <;> rw [h] <;> simp
theorem patsR_full : ∀ {ms : List Int} (_ : ∀ y ∈ ms, 0 ≤ y), patsR ms ms.length = match ms with
    | [] => [[]]
    | l :: ms => (List.range l.toNat).flatMap fun (x : Nat) => (patsR ms ms.length).map ((x : Int) :: ·)
  | [], _ => by simp [patsR]
  | l :: ms, _ => by
    rw [patsR_cons (by simp; omega) (by simp)]
    rw [patsR_out (ms := ms) (t := ((l :: ms).length : Int)) (.inr (by simp; omega))]
    simp
def extS (m head : List Int) : List (List Int) := patS m head ((m.length : Int) - head.length)
def extK (m head : List Int) (k : Nat) : List (List Int) := (List.range k).flatMap fun (x : Nat) => extS m (head ++ [(x : Int)])
theorem extK_succ (m head : List Int) (k : Nat) : extK m head (k + 1) = extK m head k ++ extS m (head ++ [(k : Int)]) := by
  unfold extK; rw [List.range_succ, List.flatMap_append]; simp
theorem extS_end {m head : List Int} (hh : head.length = m.length) : extS m head = [head] := patS_end hh (by omega)
theorem extS_step {m head : List Int} {y : Int} (hy : m[head.length]? = some y) : extS m head = extK m head y.toNat := by
  have hlt := lt_of_at hy
  unfold extS
  rw [patS_step hy (by omega) (by omega), patS_out (head := head ++ [-1]) (by simp; omega) (.inr (by simp; omega)), List.append_nil]
  unfold patK extK extS
  congr 1
  funext x
  congr 1
  simp; omega
theorem ap_full {m : List Int} (h : okM m = true) : apL m m.length = extS m [] := by
  have h5 := okM_len h
  rw [ap_yes h (inR_true.2 (by omega))]
  unfold extS; simp
def agree (p q : List Int) : Bool := (p.zip q).all fun z => z.1 == -1 || z.2 == -1 || z.1 == z.2
def jnL (p q : List Int) : List Int := List.zipWith max p q
def jpB (m p q : List Int) : Bool := okM m && okP m p && okP m q && agree p q
def jpL (m p q : List Int) : List Int := if okM m && okP m p && okP m q && agree p q then jnL p q else []
theorem jp_yes {m p q : List Int} (h1 : okM m = true) (h2 : okP m p = true) (h3 : okP m q = true) (h4 : agree p q = true) : jpL m p q = jnL p q ∧ jpB m p q = true := by unfold jpL jpB; rw [h1, h2, h3, h4]; exact ⟨rfl, rfl⟩
theorem jp_no {m p q : List Int} (h : okM m = false ∨ okP m p = false ∨ okP m q = false ∨ agree p q = false) : jpL m p q = [] ∧ jpB m p q = false := by
  unfold jpL jpB
  rcases h with h | h | h | h <;> rw [h] <;> simp
theorem jp_no' {m p q : List Int} (h : (okM m && okP m p) = false) : jpL m p q = [] ∧ jpB m p q = false := by
  unfold jpL jpB
  rw [h]; simp
theorem jnL_at {p q : List Int} {k : Nat} {x y : Int} (hx : p[k]? = some x) (hy : q[k]? = some y) : (jnL p q)[k]? = some (max x y) := by simp [jnL, List.getElem?_zipWith, hx, hy]
theorem jnL_len {p q : List Int} (h : p.length = q.length) : (jnL p q).length = p.length := by simp [jnL, h]
theorem jpL_len {m p q : List Int} : (jpL m p q).length ≤ p.length := by
  unfold jpL
  split
  · simp [jnL]; omega
  · exact Nat.zero_le _
theorem apL_row {m : List Int} {t : Int} : ∀ l ∈ apL m t, l.length = m.length ∧ m.length ≤ 5 := by
  intro l h
  unfold apL at h
  split at h
  case isFalse => simp at h
  case isTrue hh =>
    rw [Bool.and_eq_true] at hh
    exact ⟨patsR_row h, (okM_len hh.1).2⟩
theorem apL_len {m : List Int} {t : Int} : (apL m t).length ≤ 1024 := by
  cases h : okM m
  · rw [ap_no (.inl h)]; simp
  cases h' : inR t 0 m.length
  · rw [ap_no (.inr h')]; simp
  rw [ap_yes h h']; exact patS_len h t
theorem sumL_le {n : Nat} : ∀ {mm : List (List Int)} (_ : ∀ r ∈ mm, r.length ≤ n), sumL mm ≤ n * mm.length
  | [], _ => by simp [sumL]
  | r :: rs, h => by
    have h1 := h r (List.mem_cons_self ..)
    have h2 := sumL_le (mm := rs) fun r hr => h r (List.mem_cons_of_mem _ hr)
    rw [sumL_cons, List.length_cons, Nat.mul_succ]; omega
theorem apL_sum {m : List Int} {t : Int} : sumL (apL m t) ≤ 5120 := by
  have h1 := sumL_le (n := 5) (mm := apL m t) fun r hr => by have := apL_row r hr; omega
  have h2 := @apL_len m t
  omega
theorem apL_gr {m : List Int} {t : Int} : True ∧ ∀ r ∈ apL m t, r.length ≤ 4611686018427387904 := ⟨trivial, fun r hr => by have := apL_row r hr; omega⟩

/- Plain facts: the best one of some tests, suites that grow, are trimmed, cut and crossed. -/
open Go.RowKit

/-- the better one of two -/
def btr (f : List Int → Nat) (b x : List Int) : List Int := if f b < f x then x else b
theorem btr_yes {f : List Int → Nat} {b x : List Int} (h : f b < f x) : btr f b x = x := by unfold btr; rw [if_pos h]
theorem btr_no {f : List Int → Nat} {b x : List Int} (h : ¬ f b < f x) : btr f b x = b := by unfold btr; rw [if_neg h]
/-- the first one of the lists at which f is greatest -/
def bstL (f : List Int → Nat) (all : List (List Int)) : List Int := all.foldl (btr f) (all.headD [])
theorem bst_fold (f : List Int → Nat) : ∀ (l : List (List Int)) (b : List Int), (l.foldl (btr f) b = b ∨ l.foldl (btr f) b ∈ l) ∧ f b ≤ f (l.foldl (btr f) b) ∧ ∀ x ∈ l, f x ≤ f (l.foldl (btr f) b)
  | [], b => by simp
  | y :: l, b => by
    have h := bst_fold f l (btr f b y)
    rw [List.foldl_cons]
    have h1 : f b ≤ f (btr f b y) ∧ f y ≤ f (btr f b y) ∧ (btr f b y = b ∨ btr f b y = y) := by
      unfold btr
      split
      · exact ⟨by omega, Nat.le_refl _, .inr rfl⟩
      · exact ⟨Nat.le_refl _, by omega, .inl rfl⟩
    refine ⟨?_, by omega, fun x hx => ?_⟩
    · rcases h.1 with h2 | h2
      · rw [h2]
        rcases h1.2.2 with h3 | h3
        · exact .inl h3
        · rw [h3]; exact .inr (List.mem_cons_self ..)
      · exact .inr (List.mem_cons_of_mem _ h2)
    · rcases List.mem_cons.1 hx with rfl | hx
      · omega
      · exact h.2.2 x hx
theorem btr_self (f : List Int → Nat) (x : List Int) : btr f x x = x := by unfold btr; split <;> rfl
theorem bstL_one (f : List Int → Nat) (x : List Int) : bstL f [x] = x := by simp [bstL, btr_self]
theorem bstL_snoc (f : List Int → Nat) {all : List (List Int)} (x : List Int) (h : all ≠ []) : bstL f (all ++ [x]) = btr f (bstL f all) x := by
  unfold bstL
  cases all with
  | nil => exact absurd rfl h
  | cons y l => simp [List.foldl_append]
theorem bstL_mem (f : List Int → Nat) {all : List (List Int)} (h : all ≠ []) : bstL f all ∈ all := by
  cases all with
  | nil => exact absurd rfl h
  | cons y l =>
    have h1 := (bst_fold f (y :: l) y).1
    unfold bstL
    rcases h1 with h1 | h1
    · rw [List.headD_cons, h1]; exact List.mem_cons_self ..
    · exact h1
theorem bstL_max (f : List Int → Nat) (all : List (List Int)) : ∀ x ∈ all, f x ≤ f (bstL f all) := (bst_fold f all (all.headD [])).2.2
theorem bstL_congr {f g : List Int → Nat} {all : List (List Int)} (h : ∀ x ∈ all, f x = g x) : bstL f all = bstL g all := by
  unfold bstL
  cases all with
  | nil => rfl
  | cons y l =>
    rw [List.headD_cons]
    have e : ∀ (l : List (List Int)) (b : List Int), f b = g b → (∀ x ∈ l, f x = g x) → l.foldl (btr f) b = l.foldl (btr g) b := by
      intro l
      induction l with
      | nil => intro b _ _; rfl
      | cons x l ih =>
        intro b hb hl
        have hx := hl x (List.mem_cons_self ..)
        have e1 : btr f b x = btr g b x := by unfold btr; rw [hb, hx]
        rw [List.foldl_cons, List.foldl_cons, e1]
        refine ih _ ?_ fun z hz => hl z (List.mem_cons_of_mem _ hz)
        unfold btr
        split
        · exact hx
        · exact hb
    exact e _ _ (h y (List.mem_cons_self ..)) h

/-- what a test leaves of some patterns -/
def rstP (ps : List (List Int)) (x : List Int) : List (List Int) := ps.filter fun p => !mB p x
theorem rstP_step {ps : List (List Int)} {x : List Int} {k : Nat} {r : List Int} (hx : ps[k]? = some r) (h : mB r x = false) : rstP (ps.take (k + 1)) x = rstP (ps.take k) x ++ [r] := by
  unfold rstP; rw [take_snoc hx, List.filter_append]; simp [h]
theorem rstP_skip {ps : List (List Int)} {x : List Int} {k : Nat} {r : List Int} (hx : ps[k]? = some r) (h : mB r x = true) : rstP (ps.take (k + 1)) x = rstP (ps.take k) x := by
  unfold rstP; rw [take_snoc hx, List.filter_append]; simp [h]
theorem rstP_len (ps : List (List Int)) (x : List Int) (k : Nat) : (rstP (ps.take k) x).length ≤ ps.length := by
  unfold rstP
  exact Nat.le_trans (List.length_filter_le _ _) (by simp; omega)
theorem rstP_le (ps : List (List Int)) (x : List Int) : (rstP ps x).length ≤ ps.length := List.length_filter_le _ _
theorem rstP_mem {ps : List (List Int)} {x p : List Int} (h : p ∈ rstP ps x) : p ∈ ps := (List.mem_filter.1 h).1
theorem rst_fr (ps : List (List Int)) (x : List Int) : (rstP ps x).length + frP ps x = ps.length := filt_len ps fun p => mB p x
theorem un_rst {ps : List (List Int)} {x : List Int} (h5 : x.length ≤ 5) (h : ∀ p ∈ ps, p.length = x.length) : unP ps (at5 x) = rstP ps x := by
  unfold unP rstP
  apply List.filter_congr
  intro p hp
  rw [meet5_mB (h p hp) (by rw [h p hp]; exact h5)]
/-- how many patterns a test of an array meets -/
def met5 (ps : List (List Int)) (T : Nat → Int) : Nat := ps.countP fun p => meet5 (at5 p) T
theorem met_fr {ps : List (List Int)} {x : List Int} (h5 : x.length ≤ 5) (h : ∀ p ∈ ps, p.length = x.length) : met5 ps (at5 x) = frP ps x := by
  unfold met5 frP
  apply List.countP_congr
  intro p hp
  rw [meet5_mB (h p hp) (by rw [h p hp]; exact h5)]

/-- a suite with best tests behind it, at most n of them -/
def grS (all : List (List Int)) : Nat → List (List Int) → List (List Int) → List (List Int)
  | 0, out, _ => out
  | n + 1, out, left => if left = [] then out else grS all n (out ++ [bstL (frP left) all]) (rstP left (bstL (frP left) all))
theorem grS_done (all : List (List Int)) (n : Nat) (out : List (List Int)) : grS all n out [] = out := by cases n <;> simp [grS]
theorem grS_step (all : List (List Int)) (n : Nat) (out : List (List Int)) {left : List (List Int)} (h : left ≠ []) : grS all (n + 1) out left = grS all n (out ++ [bstL (frP left) all]) (rstP left (bstL (frP left) all)) := by
  simp only [grS]; rw [if_neg h]
theorem grS_len (all : List (List Int)) : ∀ (n : Nat) (out left : List (List Int)), out.length ≤ (grS all n out left).length ∧ (grS all n out left).length ≤ out.length + n
  | 0, out, left => by simp [grS]
  | n + 1, out, left => by
    simp only [grS]
    split
    · omega
    · have := grS_len all n (out ++ [bstL (frP left) all]) (rstP left (bstL (frP left) all))
      simp at this
      omega
theorem grS_pre (all : List (List Int)) : ∀ (n : Nat) (out left : List (List Int)), ∃ more, grS all n out left = out ++ more
  | 0, out, left => ⟨[], by simp [grS]⟩
  | n + 1, out, left => by
    simp only [grS]
    split
    · exact ⟨[], by simp⟩
    · obtain ⟨more, h⟩ := grS_pre all n (out ++ [bstL (frP left) all]) (rstP left (bstL (frP left) all))
      exact ⟨bstL (frP left) all :: more, by rw [h]; simp⟩
theorem grS_rows {all : List (List Int)} {P : List Int → Prop} (ha : all ≠ []) (hall : ∀ x ∈ all, P x) : ∀ (n : Nat) (out left : List (List Int)), (∀ x ∈ out, P x) → ∀ x ∈ grS all n out left, P x
  | 0, out, left, h => by simpa [grS] using h
  | n + 1, out, left, h => by
    simp only [grS]
    split
    · exact h
    · refine grS_rows ha hall n _ _ fun x hx => ?_
      rcases List.mem_append.1 hx with hx | hx
      · exact h x hx
      · simp at hx; subst hx; exact hall _ (bstL_mem _ ha)

/-- a suite without the tests that are not needed, from index k - 1 down -/
def trG (f : List (List Int) → Nat) : Nat → List (List Int) → List (List Int)
  | 0, l => l
  | k + 1, l => trG f k (if f (l.eraseIdx k) = f l then l.eraseIdx k else l)
theorem trG_step (f : List (List Int) → Nat) (k : Nat) (l : List (List Int)) : trG f (k + 1) l = trG f k (if f (l.eraseIdx k) = f l then l.eraseIdx k else l) := rfl
theorem trG_same (f : List (List Int) → Nat) : ∀ (k : Nat) (l : List (List Int)), f (trG f k l) = f l
  | 0, _ => rfl
  | k + 1, l => by
    rw [trG_step, trG_same f k]
    split
    · assumption
    · rfl
theorem trG_mem (f : List (List Int) → Nat) : ∀ (k : Nat) (l : List (List Int)) (x : List Int), x ∈ trG f k l → x ∈ l
  | 0, _, _, h => h
  | k + 1, l, x, h => by
    rw [trG_step] at h
    have h1 := trG_mem f k _ x h
    split at h1
    · exact List.mem_of_mem_eraseIdx h1
    · exact h1
theorem trG_len (f : List (List Int) → Nat) : ∀ (k : Nat) (l : List (List Int)), (trG f k l).length ≤ l.length
  | 0, _ => Nat.le_refl _
  | k + 1, l => by
    rw [trG_step]
    refine Nat.le_trans (trG_len f k _) ?_
    split
    · exact List.length_eraseIdx_le _ _
    · exact Nat.le_refl _

/-- the tests that are not needed one by one -/
def spF (m : List Int) (s : List (List Int)) (t : Int) (k : Nat) : Bool := (misL m (s.eraseIdx k) t).length == (misL m s t).length
def spN (m : List Int) (s : List (List Int)) (t : Int) (k : Nat) : List Int := ((List.range k).filter (spF m s t)).map fun (i : Nat) => (i : Int)
theorem spN_yes {m : List Int} {s : List (List Int)} {t : Int} {k : Nat} (h : spF m s t k = true) : spN m s t (k + 1) = spN m s t k ++ [(k : Int)] := by
  unfold spN; rw [List.range_succ, List.filter_append]; simp [h]
theorem spN_no {m : List Int} {s : List (List Int)} {t : Int} {k : Nat} (h : spF m s t k = false) : spN m s t (k + 1) = spN m s t k := by
  unfold spN; rw [List.range_succ, List.filter_append]; simp [h]
theorem spN_len (m : List Int) (s : List (List Int)) (t : Int) (k : Nat) : (spN m s t k).length ≤ k := by
  unfold spN
  rw [List.length_map]
  exact Nat.le_trans (List.length_filter_le _ _) (by simp)
def spL (m : List Int) (s : List (List Int)) (t : Int) : List Int := if okC m s t then spN m s t s.length else []
theorem sp_yes {m : List Int} {s : List (List Int)} {t : Int} (h : okC m s t = true) : spL m s t = spN m s t s.length := by unfold spL; rw [h]; rfl
theorem sp_no {m : List Int} {s : List (List Int)} {t : Int} (h : okC m s t = false) : spL m s t = [] := by unfold spL; rw [h]; rfl
theorem spL_len {m : List Int} {s : List (List Int)} {t : Int} : (spL m s t).length ≤ 20 := by
  cases hc : okC m s t
  · rw [sp_no hc]; simp
  · rw [sp_yes hc]; exact Nat.le_trans (spN_len _ _ _ _) (okC_parts hc).2.2.1
def misN (m : List Int) (t : Int) (s : List (List Int)) : Nat := (misL m s t).length
def trL (m : List Int) (s : List (List Int)) (t : Int) : List (List Int) := if okC m s t then trG (misN m t) s.length s else []
theorem tr_yes {m : List Int} {s : List (List Int)} {t : Int} (h : okC m s t = true) : trL m s t = trG (misN m t) s.length s := by unfold trL; rw [h]; rfl
theorem tr_no {m : List Int} {s : List (List Int)} {t : Int} (h : okC m s t = false) : trL m s t = [] := by unfold trL; rw [h]; rfl
theorem trL_len {m : List Int} {s : List (List Int)} {t : Int} : (trL m s t).length ≤ 20 := by
  cases hc : okC m s t
  · rw [tr_no hc]; simp
  · rw [tr_yes hc]; exact Nat.le_trans (trG_len _ _ _) (okC_parts hc).2.2.1
theorem trL_row {m : List Int} {s : List (List Int)} {t : Int} : ∀ l ∈ trL m s t, l.length = m.length ∧ m.length ≤ 5 := by
  intro l h
  cases hc : okC m s t
  · rw [tr_no hc] at h; simp at h
  · rw [tr_yes hc] at h
    exact ⟨(okC_parts hc).2.2.2 l (trG_mem _ _ _ _ h), (okM_len (okC_parts hc).1).2⟩
theorem trL_sum {m : List Int} {s : List (List Int)} {t : Int} : sumL (trL m s t) ≤ 100 := by
  have h1 := sumL_le (n := 5) (mm := trL m s t) fun r hr => by have := trL_row r hr; omega
  have h2 := @trL_len m s t
  omega
theorem trL_gr {m : List Int} {s : List (List Int)} {t : Int} : True ∧ ∀ r ∈ trL m s t, r.length ≤ 4611686018427387904 := ⟨trivial, fun r hr => by have := trL_row r hr; omega⟩

/-- the best test, and the grown suite -/
def beL (m : List Int) (s : List (List Int)) (t : Int) : List Int := if okC m s t then bstL (frP (misL m s t)) (extS m []) else []
def gsR (m : List Int) (s : List (List Int)) (t : Int) : List (List Int) := grS (extS m []) (21 - s.length) s (misL m s t)
def gsB (m : List Int) (s : List (List Int)) (t : Int) : Bool := okC m s t && decide ((gsR m s t).length ≤ 20)
def gsL (m : List Int) (s : List (List Int)) (t : Int) : List (List Int) := if gsB m s t then gsR m s t else []
theorem be_yes {m : List Int} {s : List (List Int)} {t : Int} (h : okC m s t = true) : beL m s t = bstL (frP (misL m s t)) (extS m []) := by unfold beL; rw [h]; rfl
theorem be_no {m : List Int} {s : List (List Int)} {t : Int} (h : okC m s t = false) : beL m s t = [] := by unfold beL; rw [h]; rfl
theorem gs_no {m : List Int} {s : List (List Int)} {t : Int} (h : okC m s t = false ∨ 20 < (gsR m s t).length) : gsL m s t = [] ∧ gsB m s t = false := by
  have hb : gsB m s t = false := by
    unfold gsB
    rcases h with h | h
    · rw [h]; rfl
    · rw [Bool.and_eq_false_iff]; right; simp; omega
  unfold gsL; rw [hb]; exact ⟨rfl, rfl⟩
theorem gs_yes {m : List Int} {s : List (List Int)} {t : Int} (h : okC m s t = true) (h' : (gsR m s t).length ≤ 20) : gsL m s t = gsR m s t ∧ gsB m s t = true := by
  have hb : gsB m s t = true := by unfold gsB; rw [h]; simp [h']
  unfold gsL; rw [hb]; exact ⟨rfl, rfl⟩
theorem ext_row {m : List Int} : ∀ l ∈ extS m [], l.length = m.length := fun l h => by unfold extS at h; exact patS_row l h
theorem ext_mem {m x : List Int} (h : okM m = true) : x ∈ extS m [] ↔ okT m x = true := by
  have h1 := mem_full (p := x) h
  unfold extS
  simpa using h1
theorem ext_ne {m : List Int} (h : okM m = true) : extS m [] ≠ [] := by
  have h1 : okT m (m.map fun _ => 0) = true := by
    unfold okT okW
    simp only [Bool.and_eq_true, decide_eq_true_eq, List.length_map, true_and]
    rw [List.all_eq_true]
    intro q hq
    obtain ⟨k, hk⟩ := List.getElem?_of_mem hq
    rw [List.getElem?_zip_eq_some] at hk
    have h2 := okM_at h hk.2
    have h3 : q.1 = 0 := by
      have := hk.1
      simp only [List.getElem?_map, Option.map_eq_some_iff] at this
      obtain ⟨_, _, e⟩ := this
      exact e.symm
    exact inR_true.2 (by omega)
  have h2 := (ext_mem h).2 h1
  intro e
  rw [e] at h2
  cases h2
theorem ext_len {m : List Int} (h : okM m = true) : (extS m []).length ≤ 1024 := patS_len h _
theorem beL_len {m : List Int} {s : List (List Int)} {t : Int} : (beL m s t).length ≤ 5 := by
  cases hc : okC m s t
  · rw [be_no hc]; simp
  · rw [be_yes hc]
    have hp := okC_parts hc
    rw [ext_row _ (bstL_mem _ (ext_ne hp.1))]
    exact (okM_len hp.1).2
theorem gsL_len {m : List Int} {s : List (List Int)} {t : Int} : (gsL m s t).length ≤ 20 := by
  cases hc : gsB m s t
  · unfold gsL; rw [hc]; simp
  · have h2 := hc
    unfold gsB at h2
    simp at h2
    unfold gsL; rw [hc]; exact h2.2
theorem gsL_row {m : List Int} {s : List (List Int)} {t : Int} : ∀ l ∈ gsL m s t, l.length = m.length ∧ m.length ≤ 5 := by
  intro l h
  cases hc : gsB m s t
  · unfold gsL at h; rw [hc] at h; simp at h
  · have h2 := hc
    unfold gsB at h2
    rw [Bool.and_eq_true] at h2
    have hp := okC_parts h2.1
    unfold gsL at h; rw [hc] at h
    exact ⟨grS_rows (P := fun l => l.length = m.length) (ext_ne hp.1) ext_row _ _ _ hp.2.2.2 l h, (okM_len hp.1).2⟩
theorem gsL_sum {m : List Int} {s : List (List Int)} {t : Int} : sumL (gsL m s t) ≤ 100 := by
  have h1 := sumL_le (n := 5) (mm := gsL m s t) fun r hr => by have := gsL_row r hr; omega
  have h2 := @gsL_len m s t
  omega
theorem gsL_gr {m : List Int} {s : List (List Int)} {t : Int} : True ∧ ∀ r ∈ gsL m s t, r.length ≤ 4611686018427387904 := ⟨trivial, fun r hr => by have := gsL_row r hr; omega⟩

/-- a suite without a factor -/
def drB (m : List Int) (s : List (List Int)) (f : Int) : Bool := okM m && okS m s && decide (2 ≤ m.length) && inR f 0 ((m.length : Int) - 1)
def drL (m : List Int) (s : List (List Int)) (f : Int) : List (List Int) := if drB m s f then s.map fun r => r.eraseIdx f.toNat else []
theorem dr_no {m : List Int} {s : List (List Int)} {f : Int} (h : drB m s f = false) : drL m s f = [] ∧ drB m s f = false := by unfold drL; rw [h]; exact ⟨rfl, rfl⟩
theorem dr_yes {m : List Int} {s : List (List Int)} {f : Int} (h : drB m s f = true) : drL m s f = (s.map fun r => r.eraseIdx f.toNat) ∧ drB m s f = true := by unfold drL; rw [h]; exact ⟨rfl, rfl⟩
theorem drL_row {m : List Int} {s : List (List Int)} {f : Int} : ∀ l ∈ drL m s f, l.length ≤ 5 := by
  intro l h
  cases hb : drB m s f
  · rw [(dr_no hb).1] at h; simp at h
  · rw [(dr_yes hb).1] at h
    obtain ⟨r, hr, rfl⟩ := List.mem_map.1 h
    unfold drB at hb
    simp only [Bool.and_eq_true] at hb
    have h1 := okW_len (okS_all hb.1.1.2 hr)
    have h2 := okM_len hb.1.1.1
    have h3 := List.length_eraseIdx_le r f.toNat
    omega
theorem drL_len {m : List Int} {s : List (List Int)} {f : Int} : (drL m s f).length ≤ 20 := by
  cases hb : drB m s f
  · rw [(dr_no hb).1]; simp
  · rw [(dr_yes hb).1, List.length_map]
    unfold drB at hb
    simp only [Bool.and_eq_true] at hb
    exact okS_len hb.1.1.2
theorem drL_sum {m : List Int} {s : List (List Int)} {f : Int} : sumL (drL m s f) ≤ 100 := by
  have h1 := sumL_le (n := 5) (mm := drL m s f) drL_row
  have h2 := @drL_len m s f
  omega
theorem drL_gr {m : List Int} {s : List (List Int)} {f : Int} : True ∧ ∀ r ∈ drL m s f, r.length ≤ 4611686018427387904 := ⟨trivial, fun r hr => by have := drL_row r hr; omega⟩

/-- suites crossed -/
def crX (a b : List (List Int)) : List (List Int) := a.flatMap fun r => b.map (r ++ ·)
theorem crX_len (a b : List (List Int)) : (crX a b).length = a.length * b.length := by
  unfold crX
  induction a with
  | nil => simp
  | cons r a ih => rw [List.flatMap_cons, List.length_append, ih, List.length_map, List.length_cons, Nat.succ_mul]; omega
def crB (m : List Int) (a : List (List Int)) (n : List Int) (b : List (List Int)) : Bool := okM m && okS m a && (okM n && okS n b) && decide (m.length + n.length ≤ 5) && decide (a.length * b.length ≤ 20)
def crL (m : List Int) (a : List (List Int)) (n : List Int) (b : List (List Int)) : List (List Int) := if crB m a n b then crX a b else []
theorem cr_no {m n : List Int} {a b : List (List Int)} (h : crB m a n b = false) : crL m a n b = [] ∧ crB m a n b = false := by unfold crL; rw [h]; exact ⟨rfl, rfl⟩
theorem cr_yes {m n : List Int} {a b : List (List Int)} (h : crB m a n b = true) : crL m a n b = crX a b ∧ crB m a n b = true := by unfold crL; rw [h]; exact ⟨rfl, rfl⟩
theorem crL_row {m n : List Int} {a b : List (List Int)} : ∀ l ∈ crL m a n b, l.length ≤ 5 := by
  intro l h
  cases hb : crB m a n b
  · rw [(cr_no hb).1] at h; simp at h
  · rw [(cr_yes hb).1] at h
    unfold crB at hb
    simp only [Bool.and_eq_true, decide_eq_true_eq] at hb
    obtain ⟨r, hr, h⟩ := List.mem_flatMap.1 h
    obtain ⟨q, hq, rfl⟩ := List.mem_map.1 h
    have h1 := okW_len (okS_all hb.1.1.1.2 hr)
    have h2 := okW_len (okS_all hb.1.1.2.2 hq)
    simp
    omega
theorem crL_len {m n : List Int} {a b : List (List Int)} : (crL m a n b).length ≤ 20 := by
  cases hb : crB m a n b
  · rw [(cr_no hb).1]; simp
  · rw [(cr_yes hb).1, crX_len]
    unfold crB at hb
    simp only [Bool.and_eq_true, decide_eq_true_eq] at hb
    exact hb.2
theorem crL_sum {m n : List Int} {a b : List (List Int)} : sumL (crL m a n b) ≤ 100 := by
  have h1 := sumL_le (n := 5) (mm := crL m a n b) crL_row
  have h2 := @crL_len m n a b
  omega
theorem crL_gr {m n : List Int} {a b : List (List Int)} : True ∧ ∀ r ∈ crL m a n b, r.length ≤ 4611686018427387904 := ⟨trivial, fun r hr => by have := crL_row r hr; omega⟩

/-- a square of q levels, its first k places -/
def sqR (q k : Nat) (x y : Nat) : List Int := ([(x : Int), (y : Int), ((x : Int) + y) % q, ((x : Int) + 2 * y) % q] : List Int).take k
def sqX (q k : Nat) : List (List Int) := (List.range q).flatMap fun x => (List.range q).map fun y => sqR q k x y
def sqB (q k : Int) : Bool := inR q 2 3 && inR k 1 (q + 1)
def sqL (q k : Int) : List (List Int) := if sqB q k then sqX q.toNat k.toNat else []
theorem sq_no {q k : Int} (h : sqB q k = false) : sqL q k = [] ∧ sqB q k = false := by unfold sqL; rw [h]; exact ⟨rfl, rfl⟩
theorem sq_yes {q k : Int} (h : sqB q k = true) : sqL q k = sqX q.toNat k.toNat ∧ sqB q k = true := by unfold sqL; rw [h]; exact ⟨rfl, rfl⟩
theorem sqR_len (q k x y : Nat) : (sqR q k x y).length ≤ 4 := by unfold sqR; simp; omega
theorem sqL_row {q k : Int} : ∀ l ∈ sqL q k, l.length ≤ 5 := by
  intro l h
  cases hb : sqB q k
  · rw [(sq_no hb).1] at h; simp at h
  · rw [(sq_yes hb).1] at h
    unfold sqX at h
    simp only [List.mem_flatMap, List.mem_map] at h
    obtain ⟨x, _, y, _, rfl⟩ := h
    have := sqR_len q.toNat k.toNat x y
    omega
theorem sqX_len (q k : Nat) : (sqX q k).length = q * q := by
  unfold sqX
  have e : ∀ n : Nat, ((List.range n).flatMap fun x => (List.range q).map fun y => sqR q k x y).length = n * q := by
    intro n
    induction n with
    | zero => simp
    | succ n ih => rw [List.range_succ, List.flatMap_append, List.length_append, ih, Nat.succ_mul]; simp
  exact e q
theorem sqL_len {q k : Int} : (sqL q k).length ≤ 20 := by
  cases hb : sqB q k
  · rw [(sq_no hb).1]; simp
  · rw [(sq_yes hb).1, sqX_len]
    unfold sqB at hb
    rw [Bool.and_eq_true] at hb
    have := inR_true.1 hb.1
    have h3 : q.toNat ≤ 3 := by omega
    have := Nat.mul_le_mul h3 h3
    omega
theorem sqL_sum {q k : Int} : sumL (sqL q k) ≤ 100 := by
  have h1 := sumL_le (n := 5) (mm := sqL q k) sqL_row
  have h2 := @sqL_len q k
  omega
theorem sqL_gr {q k : Int} : True ∧ ∀ r ∈ sqL q k, r.length ≤ 4611686018427387904 := ⟨trivial, fun r hr => by have := sqL_row r hr; omega⟩

/- Plain facts on suites that are trimmed, grown by one test, or have a test twice. -/
theorem hasP_mono {s q : List (List Int)} (h : ∀ r ∈ q, r ∈ s) {p : List Int} (hp : hasP q p = true) : hasP s p = true := by
  unfold hasP at hp ⊢
  rw [List.any_eq_true] at hp ⊢
  obtain ⟨r, hr, hm⟩ := hp
  exact ⟨r, h r hr, hm⟩
theorem misP_anti {s q : List (List Int)} (h : ∀ r ∈ q, r ∈ s) : ∀ (ps : List (List Int)), (misP s ps).length ≤ (misP q ps).length ∧ ((misP s ps).length = (misP q ps).length → misP s ps = misP q ps)
  | [] => ⟨Nat.le_refl _, fun _ => rfl⟩
  | p :: ps => by
    have ih := misP_anti h ps
    have hm := @hasP_mono s q h p
    unfold misP at ih ⊢
    rw [List.filter_cons, List.filter_cons]
    cases h1 : hasP s p
    · cases h2 : hasP q p
      · simp only [Bool.not_false, if_true, List.length_cons]
        exact ⟨by omega, fun he => by rw [ih.2 (by omega)]⟩
      · rw [hm h2] at h1; cases h1
    · cases h2 : hasP q p
      · simp only [Bool.not_true, Bool.not_false, if_true, List.length_cons]
        refine ⟨by simp; omega, fun he => ?_⟩
        simp at he
        omega
      · simpa using ih
theorem misN_anti {m : List Int} {t : Int} {s q : List (List Int)} (h : ∀ r ∈ q, r ∈ s) : misN m t s ≤ misN m t q := (misP_anti h _).1
theorem misL_same {m : List Int} {t : Int} {s q : List (List Int)} (h : ∀ r ∈ q, r ∈ s) (he : misN m t q = misN m t s) : misL m q t = misL m s t := ((misP_anti h _).2 he.symm).symm
/-- none of the tests from index k on is spare -/
def noSp (f : List (List Int) → Nat) (k : Nat) (l : List (List Int)) : Prop := ∀ i, k ≤ i → i < l.length → f (l.eraseIdx i) ≠ f l
theorem erase2 {l : List (List Int)} {k i : Nat} (h : k ≤ i) : ∀ x ∈ (l.eraseIdx k).eraseIdx i, x ∈ l.eraseIdx (i + 1) := by
  intro x hx
  rw [List.mem_eraseIdx_iff_getElem?] at hx ⊢
  obtain ⟨j, hj, hx⟩ := hx
  rw [List.getElem?_eraseIdx] at hx
  split at hx
  · exact ⟨j, by omega, hx⟩
  · exact ⟨j + 1, by omega, hx⟩
theorem noSp_trG (f : List (List Int) → Nat) (hf : ∀ s q : List (List Int), (∀ r ∈ q, r ∈ s) → f s ≤ f q) : ∀ (k : Nat) (l : List (List Int)), noSp f k l → noSp f 0 (trG f k l)
  | 0, _, h => h
  | k + 1, l, h => by
    rw [trG_step]
    refine noSp_trG f hf k _ ?_
    split
    · rename_i he
      intro i hi hl hc
      have h1 : l.length ≤ (l.eraseIdx k).length + 1 := by rw [List.length_eraseIdx]; split <;> omega
      by_cases hk : k < l.length
      · have h2 : (l.eraseIdx k).length = l.length - 1 := by rw [List.length_eraseIdx, if_pos hk]
        refine h (i + 1) (by omega) (by omega) ?_
        have h3 := hf _ _ (erase2 (l := l) hi)
        have h4 := hf l (l.eraseIdx (i + 1)) fun r hr => List.mem_of_mem_eraseIdx hr
        omega
      · rw [List.eraseIdx_of_length_le (by omega)] at hl
        omega
    · rename_i he
      intro i hi hl
      by_cases hik : i = k
      · subst hik; exact he
      · exact h i (by omega) hl
theorem trG_fix (f : List (List Int) → Nat) : ∀ (k : Nat) (l : List (List Int)), k ≤ l.length → noSp f 0 l → trG f k l = l
  | 0, _, _, _ => rfl
  | k + 1, l, hk, h => by
    rw [trG_step, if_neg (h k (Nat.zero_le _) (by omega))]
    exact trG_fix f k l (by omega) h
theorem okC_sub {m : List Int} {s q : List (List Int)} {t : Int} (h : okC m s t = true) (hs : ∀ r ∈ q, r ∈ s) (hl : q.length ≤ 20) : okC m q t = true := by
  unfold okC okS at h ⊢
  simp only [Bool.and_eq_true, List.all_eq_true, decide_eq_true_eq] at h ⊢
  exact ⟨⟨h.1.1, fun r hr => h.1.2.1 r (hs r hr), hl⟩, h.2⟩
theorem tr_law {m : List Int} {s : List (List Int)} {t : Int} (h : okC m s t = true) :
    moL m (trL m s t) t = moL m s t ∧ (spL m (trL m s t) t).length = 0 ∧ trL m (trL m s t) t = trL m s t ∧ (∀ r ∈ trL m s t, r ∈ s) ∧ okC m (trL m s t) t = true := by
  have hm : ∀ r ∈ trL m s t, r ∈ s := by intro r hr; rw [tr_yes h] at hr; exact trG_mem _ _ _ _ hr
  have hc := okC_sub h hm trL_len
  have hns : noSp (misN m t) 0 (trL m s t) := by
    rw [tr_yes h]
    exact noSp_trG _ (fun s q hq => misN_anti hq) _ _ (fun i h1 h2 => by omega)
  refine ⟨?_, ?_, ?_, hm, hc⟩
  · rw [mo_yes hc, mo_yes h]
    refine misL_same hm ?_
    rw [tr_yes h]
    exact trG_same _ _ _
  · rw [sp_yes hc]
    unfold spN
    rw [List.length_map, List.length_eq_zero_iff, List.filter_eq_nil_iff]
    intro k hk
    rw [List.mem_range] at hk
    have h1 := hns k (Nat.zero_le _) hk
    unfold spF
    unfold misN at h1
    simpa using h1
  · rw [tr_yes hc]
    exact trG_fix _ _ _ (Nat.le_refl _) hns
/-- a test that comes twice is spare -/
theorem spF_twice {m : List Int} {s : List (List Int)} {t : Int} {i k : Nat} {r : List Int} (hi : s[i]? = some r) (hk : s[k]? = some r) (hne : i ≠ k) : spF m s t k = true := by
  have h1 : ∀ x ∈ s, x ∈ s.eraseIdx k := by
    intro x hx
    obtain ⟨j, hj⟩ := List.getElem?_of_mem hx
    rw [List.mem_eraseIdx_iff_getElem?]
    by_cases hjk : j = k
    · subst hjk; rw [hk] at hj; cases hj; exact ⟨i, hne, hi⟩
    · exact ⟨j, hjk, hj⟩
  have h2 := misN_anti (m := m) (t := t) h1
  have h3 := misN_anti (m := m) (t := t) (fun x (hx : x ∈ s.eraseIdx k) => List.mem_of_mem_eraseIdx hx)
  unfold spF
  unfold misN at h2 h3
  rw [beq_iff_eq]
  omega
theorem sp_mem {m : List Int} {s : List (List Int)} {t : Int} {k : Nat} (h : okC m s t = true) (hk : k < s.length) (hs : spF m s t k = true) : ((k : Nat) : Int) ∈ spL m s t := by
  rw [sp_yes h]
  unfold spN
  rw [List.mem_map]
  exact ⟨k, by rw [List.mem_filter, List.mem_range]; exact ⟨hk, hs⟩, rfl⟩
/-- the numbers ascend -/
def ascB (l : List Int) : Bool := (List.range (l.length - 1)).all fun i => decide (l[i]?.getD 0 < l[i + 1]?.getD 0)
theorem spN_lt (m : List Int) (s : List (List Int)) (t : Int) (k : Nat) : (spN m s t k).Pairwise (· < ·) := by
  unfold spN
  rw [List.pairwise_map]
  refine List.Pairwise.imp (R := fun a b => a < b) (by intro a b h; omega) ?_
  exact List.Pairwise.filter _ List.pairwise_lt_range
theorem spL_lt (m : List Int) (s : List (List Int)) (t : Int) : (spL m s t).Pairwise (· < ·) := by
  cases hc : okC m s t
  · rw [sp_no hc]; exact List.Pairwise.nil
  · rw [sp_yes hc]; exact spN_lt _ _ _ _
theorem pw_at {l : List Int} (h : l.Pairwise (· < ·)) {i j : Nat} {x y : Int} (hx : l[i]? = some x) (hy : l[j]? = some y) (hij : i < j) : x < y := by
  obtain ⟨h1, rfl⟩ := List.getElem?_eq_some_iff.1 hx
  obtain ⟨h2, rfl⟩ := List.getElem?_eq_some_iff.1 hy
  exact (List.pairwise_iff_getElem.1 h) i j h1 h2 hij
theorem spL_b {m : List Int} {s : List (List Int)} {t : Int} : ∀ x ∈ spL m s t, 0 ≤ x ∧ x < 20 := by
  intro x hx
  cases hc : okC m s t
  · rw [sp_no hc] at hx; simp at hx
  · rw [sp_yes hc] at hx
    unfold spN at hx
    rw [List.mem_map] at hx
    obtain ⟨k, hk, rfl⟩ := hx
    rw [List.mem_filter, List.mem_range] at hk
    have := (okC_parts hc).2.2.1
    omega

end Go.Proofs.YtpioldgpfpmjiaaGreatDoor
