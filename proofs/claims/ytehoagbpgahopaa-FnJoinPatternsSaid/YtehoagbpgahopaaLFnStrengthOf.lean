/- The walk of FnStrengthOf: it returns true and writes nothing that was there. -/
import Derived.Test.YtehoagbpgahopaaLFnValidTest
namespace Go.Proofs.Ytehoagbpgahopaa
open Go.RowKit

theorem agree_self (p : List Int) : agree p p = true := by
  unfold agree
  rw [List.all_eq_true]
  intro q hq
  obtain ⟨k, hk⟩ := List.getElem?_of_mem hq
  have h1 : q.1 = q.2 := by
    rw [List.getElem?_zip_eq_some] at hk
    have := hk.1.symm.trans hk.2
    exact Option.some.inj this
  simp [h1]
theorem jnL_self (p : List Int) : jnL p p = p := by
  unfold jnL
  induction p with
  | nil => rfl
  | cons x p ih => simp
theorem jp_self {m p : List Int} (h : okM m = true) (h' : okP m p = true) : jpL m p p = p ∧ jpB m p p = true := by
  have h1 := jp_yes h h' h' (agree_self p)
  exact ⟨h1.1.trans (jnL_self p), h1.2⟩

end Go.Proofs.Ytehoagbpgahopaa
