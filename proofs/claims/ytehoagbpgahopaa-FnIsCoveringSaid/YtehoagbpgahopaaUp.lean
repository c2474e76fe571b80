/- Plain facts of all lists of events: how many there are; none comes twice in a row. -/
import Derived.Test.YtehoagbpgahopaaTa
import Derived.Test.YtehoagbpgahopaaWa
namespace Go.Proofs.Ytehoagbpgahopaa

def fall (n : Nat) : Nat → Nat
  | 0 => 1
  | k + 1 => fall n k * (n - k)
set_option maxRecDepth 100000 in
theorem fall_le : ∀ n k : Fin 6, fall n k ≤ 120 := by decide +kernel
set_option maxRecDepth 100000 in
theorem al_count : ∀ n t : Fin 6, t ≤ n → (alE n t).length = fall n t := by decide +kernel
set_option maxRecDepth 100000 in
theorem al_adj0 : ∀ n t : Fin 6, ((alE n t).zip (alE n t).tail).all (fun p => !eqI p.1 p.2) = true := by decide +kernel
theorem al_adj {n t k : Nat} (hn : n ≤ 5) (ht : t ≤ 5) {r q : List Int} (h1 : (alE n t)[k]? = some r) (h2 : (alE n t)[k + 1]? = some q) : eqI r q = false := by
  have h := al_adj0 ⟨n, by omega⟩ ⟨t, by omega⟩
  rw [List.all_eq_true] at h
  have h3 : ((alE n t).zip (alE n t).tail)[k]? = some (r, q) := by
    rw [List.getElem?_zip_eq_some]
    exact ⟨h1, by rw [List.getElem?_tail]; exact h2⟩
  have := h (r, q) (List.mem_of_getElem? h3)
  simpa using this

end Go.Proofs.Ytehoagbpgahopaa
