/- Walks: AllPatterns, AllTests of the program. -/
import Derived.Test.YtfhncfbgdjeloaaWw
import Derived.Test.YtfhncfbgdjeloaaWs
namespace Go.Proofs.Ytfhncfbgdjeloaa
open Go.RowKit

theorem patsR_row : ∀ {ms : List Int} {t : Int} {l : List Int}, l ∈ patsR ms t → l.length = ms.length
  | [], t, l, h => by
    simp only [patsR] at h
    split at h
    · simp at h; subst h; rfl
    · simp at h
  | y :: ms, t, l, h => by
    simp only [patsR] at h
    split at h
    · simp at h
    · rcases List.mem_append.1 h with h | h
      · obtain ⟨x, _, h⟩ := List.mem_flatMap.1 h
        obtain ⟨r, hr, rfl⟩ := List.mem_map.1 h
        simp [patsR_row hr]
      · obtain ⟨r, hr, rfl⟩ := List.mem_map.1 h
        simp [patsR_row hr]
theorem patS_row {m : List Int} {t : Int} : ∀ l ∈ patS m [] t, l.length = m.length := by
  intro l h
  obtain ⟨r, hr, rfl⟩ := List.mem_map.1 h
  have := patsR_row hr
  simpa using this
theorem apL_row {m : List Int} {t : Int} : ∀ l ∈ apL m t, l.length = m.length ∧ m.length ≤ 5 := by
  intro l h
  unfold apL at h
  split at h
  case isFalse => simp at h
  case isTrue hh =>
    rw [Bool.and_eq_true] at hh
    exact ⟨patsR_row h, (okM_len hh.1).2⟩
theorem apL_len {m : List Int} {t : Int} : (apL m t).length ≤ 1024 := by
  cases h : okM m
  · rw [ap_no (.inl h)]; simp
  cases h' : inR t 0 m.length
  · rw [ap_no (.inr h')]; simp
  rw [ap_yes h h']; exact patS_len h t

theorem sumL_le {n : Nat} : ∀ {mm : List (List Int)} (_ : ∀ r ∈ mm, r.length ≤ n), sumL mm ≤ n * mm.length
  | [], _ => by simp [sumL]
  | r :: rs, h => by
    have h1 := h r (List.mem_cons_self ..)
    have h2 := sumL_le (mm := rs) fun r hr => h r (List.mem_cons_of_mem _ hr)
    rw [sumL_cons, List.length_cons, Nat.mul_succ]; omega
theorem apL_sum {m : List Int} {t : Int} : sumL (apL m t) ≤ 5120 := by
  have h1 := sumL_le (n := 5) (mm := apL m t) fun r hr => by have := apL_row r hr; omega
  have h2 := @apL_len m t
  omega
theorem apL_gr {m : List Int} {t : Int} : True ∧ ∀ r ∈ apL m t, r.length ≤ 4611686018427387904 := ⟨trivial, fun r hr => by have := apL_row r hr; omega⟩

end Go.Proofs.Ytfhncfbgdjeloaa
