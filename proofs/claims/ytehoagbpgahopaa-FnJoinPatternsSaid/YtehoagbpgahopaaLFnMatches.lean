/- The walk of FnMatches: it returns true and writes nothing that was there. -/
import Derived.Test.YtehoagbpgahopaaLFnStrengthOf
import Derived.Test.YtehoagbpgahopaaRk
namespace Go.Proofs.Ytehoagbpgahopaa
open Go.RowKit

theorem okT_P {m t : List Int} (h : okT m t = true) : okP m t = true := (okT_iff.1 h).1
/-- what matches is joined -/
theorem mB_joined {p t : List Int} (hl : p.length = t.length) (hp : ∀ x ∈ p, -1 ≤ x) (ht : ∀ x ∈ t, 0 ≤ x) : mB p t = (agree p t && eqI (jnL p t) t) := by
  unfold mB agree jnL
  induction p generalizing t with
  | nil => cases t with
    | nil => rfl
    | cons y t => simp at hl
  | cons x p ih => cases t with
    | nil => simp at hl
    | cons y t =>
      have hx := hp x (List.mem_cons_self ..)
      have hy := ht y (List.mem_cons_self ..)
      have h1 := ih (t := t) (by simpa using hl) (fun z hz => hp z (List.mem_cons_of_mem _ hz)) (fun z hz => ht z (List.mem_cons_of_mem _ hz))
      rw [List.zip_cons_cons, List.all_cons, List.all_cons, List.zipWith_cons_cons, h1]
      rw [Bool.eq_iff_iff]
      simp only [Bool.and_eq_true, Bool.or_eq_true, beq_iff_eq, eqI_true, List.cons.injEq]
      constructor
      · rintro ⟨h2, h3, h4⟩
        refine ⟨⟨?_, h3⟩, ?_, h4⟩
        · rcases h2 with h2 | h2
          · exact .inl (.inl h2)
          · exact .inr h2
        · rcases h2 with h2 | h2 <;> omega
      · rintro ⟨⟨h2, h3⟩, h4, h5⟩
        refine ⟨?_, h3, h5⟩
        rcases h2 with (h2 | h2) | h2
        · exact .inl h2
        · omega
        · exact .inr h2
theorem okW_ge {lo : Int} {m t : List Int} (h : okW lo m t = true) : ∀ x ∈ t, lo ≤ x := by
  intro x hx
  obtain ⟨k, hk⟩ := List.getElem?_of_mem hx
  have hl := okW_len h
  obtain ⟨y, hy⟩ := at_of_lt (show k < m.length by have := lt_of_at hk; omega)
  exact (okW_at h hk hy).1
theorem mB_jn {m p t : List Int} (hp : okP m p = true) (ht : okT m t = true) : mB p t = (agree p t && eqI (jnL p t) t) :=
  mB_joined (by rw [okW_len hp, okW_len ht]) (okW_ge hp) (okW_ge ht)

end Go.Proofs.Ytehoagbpgahopaa
