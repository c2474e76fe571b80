/- Plain facts of a sort by insertion. -/
import Derived.Test.YtehoagbpgahopaaTc
namespace Go.Proofs.Ytehoagbpgahopaa

/-- the first i + 1 numbers are in order but for the one at j, which is less than those behind it -/
def insJ (T : List Int) (i j : Nat) : Prop := (∀ p q x y, T[p]? = some x → T[q]? = some y → p < q → q ≤ i → p ≠ j → q ≠ j → x ≤ y) ∧ ∀ q x y, T[j]? = some x → T[q]? = some y → j < q → q ≤ i → x ≤ y
def insS (T : List Int) (i : Nat) : Prop := ∀ p q x y, T[p]? = some x → T[q]? = some y → p < q → q < i → x ≤ y
theorem insS_one (T : List Int) : insS T 1 := fun p q x y _ _ h1 h2 => by omega
theorem insS_zero (T : List Int) : insS T 0 := fun p q x y _ _ h1 h2 => by omega
theorem insJ_start {T : List Int} {i : Nat} (h : insS T i) : insJ T i i := ⟨fun p q x y hx hy h1 h2 h3 h4 => h p q x y hx hy h1 (by omega), fun q x y _ _ h1 h2 => by omega⟩
/-- two neighbours change places -/
def swJ (T : List Int) (j : Nat) (x y : Int) : List Int := (T.set (j + 1) x).set j y
theorem swJ_at {T : List Int} {j : Nat} {x y : Int} (hx : T[j]? = some x) (hy : T[j + 1]? = some y) (p : Nat) : (swJ T j x y)[p]? = if p = j then some y else if p = j + 1 then some x else T[p]? := by
  unfold swJ
  have h1 := (List.getElem?_eq_some_iff.1 hy).1
  by_cases h : p = j
  · subst h; rw [if_pos rfl, List.getElem?_set_self (by rw [List.length_set]; omega)]
  · rw [if_neg h, List.getElem?_set_ne (by omega)]
    by_cases h2 : p = j + 1
    · subst h2; rw [if_pos rfl, List.getElem?_set_self (by omega)]
    · rw [if_neg h2, List.getElem?_set_ne (by omega)]
theorem swJ_perm {T : List Int} {j : Nat} {x y : Int} (hx : T[j]? = some x) (hy : T[j + 1]? = some y) : (swJ T j x y).Perm T := by
  have e : T = T.take j ++ x :: y :: T.drop (j + 2) := by
    obtain ⟨h1, e1⟩ := List.getElem?_eq_some_iff.1 hx
    obtain ⟨h2, e2⟩ := List.getElem?_eq_some_iff.1 hy
    conv => lhs; rw [← List.take_append_drop j T, List.drop_eq_getElem_cons h1, List.drop_eq_getElem_cons h2, e1, e2]
  have e2 : swJ T j x y = T.take j ++ y :: x :: T.drop (j + 2) := by
    have hj : (T.take j).length = j := by rw [List.length_take]; have := (List.getElem?_eq_some_iff.1 hx).1; omega
    apply List.ext_getElem?
    intro p
    rw [swJ_at hx hy]
    by_cases h : p < j
    · rw [if_neg (by omega), if_neg (by omega), List.getElem?_append_left (by omega), List.getElem?_take_of_lt h]
    · rw [List.getElem?_append_right (by omega), hj]
      by_cases h0 : p = j
      · subst h0; simp
      · rw [if_neg h0]
        by_cases h1 : p = j + 1
        · subst h1; rw [if_pos rfl]; simp
        · rw [if_neg h1]
          obtain ⟨d, hd⟩ : ∃ d, p - j = d + 2 := ⟨p - j - 2, by omega⟩
          rw [hd, List.getElem?_cons_succ, List.getElem?_cons_succ, List.getElem?_drop]; congr 1; omega
  rw [e2]
  conv => rhs; rw [e]
  exact (List.Perm.swap x y _).append_left _
theorem insJ_step {T : List Int} {i j : Nat} {x y : Int} (h : insJ T i (j + 1)) (hx : T[j]? = some x) (hy : T[j + 1]? = some y) (hlt : y < x) (hj : j + 1 ≤ i) : insJ (swJ T j x y) i j := by
  refine ⟨fun p q u v hu hv h1 h2 h3 h4 => ?_, fun q u v hu hv h1 h2 => ?_⟩
  · rw [swJ_at hx hy, if_neg h3] at hu
    rw [swJ_at hx hy, if_neg h4] at hv
    by_cases hp : p = j + 1
    · rw [if_pos hp] at hu
      cases hu
      rw [if_neg (by omega)] at hv
      exact h.1 j q x v hx hv (by omega) h2 (by omega) (by omega)
    · rw [if_neg hp] at hu
      by_cases hq : q = j + 1
      · rw [if_pos hq] at hv
        cases hv
        exact h.1 p j u x hu hx (by omega) (by omega) hp (by omega)
      · rw [if_neg hq] at hv
        exact h.1 p q u v hu hv h1 h2 hp hq
  · rw [swJ_at hx hy, if_pos rfl] at hu
    cases hu
    rw [swJ_at hx hy, if_neg (by omega)] at hv
    by_cases hq : q = j + 1
    · rw [if_pos hq] at hv; cases hv; omega
    · rw [if_neg hq] at hv
      exact h.2 q y v hy hv (by omega) h2
theorem insJ_zero {T : List Int} {i : Nat} (h : insJ T i 0) : insS T (i + 1) := fun p q x y hx hy h1 h2 => by
  by_cases hp : p = 0
  · subst hp; exact h.2 q x y hx hy h1 (by omega)
  · exact h.1 p q x y hx hy h1 (by omega) hp (by omega)
theorem insJ_done {T : List Int} {i j : Nat} {x y : Int} (h : insJ T i (j + 1)) (hx : T[j]? = some x) (hy : T[j + 1]? = some y) (hle : x ≤ y) : insS T (i + 1) := fun p q u v hu hv h1 h2 => by
  by_cases hp : p = j + 1
  · subst hp; rw [hy] at hu; cases hu; exact h.2 q y v hy hv h1 (by omega)
  · by_cases hq : q = j + 1
    · subst hq
      rw [hy] at hv; cases hv
      by_cases hpj : p = j
      · subst hpj; rw [hx] at hu; cases hu; exact hle
      · have := h.1 p j u x hu hx (by omega) (by omega) hp (by omega); omega
    · exact h.1 p q u v hu hv h1 (by omega) hp hq
theorem insS_pair {T : List Int} (h : insS T T.length) : T.Pairwise (· ≤ ·) := by
  rw [List.pairwise_iff_getElem]
  intro i j hi hj hij
  exact h i j _ _ (List.getElem?_eq_getElem hi) (List.getElem?_eq_getElem hj) hij hj

end Go.Proofs.Ytehoagbpgahopaa
