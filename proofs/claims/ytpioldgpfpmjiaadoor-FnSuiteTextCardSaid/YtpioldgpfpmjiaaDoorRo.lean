/- Walks: what the laws on suites compare; suites cut at their end. -/
import Derived.Test.YtpioldgpfpmjiaaDoorRl
import Derived.Test.YtpioldgpfpmjiaaDoorRc
import Derived.Test.YtpioldgpfpmjiaaDoorRi
import Derived.Test.YtpioldgpfpmjiaaDoorYb
namespace Go.Proofs.YtpioldgpfpmjiaaDoor
open Go.RowKit

theorem okS_take {m : List Int} {s : List (List Int)} (h : okS m s = true) (k : Nat) : okS m (s.take k) = true := by
  have h1 := okS_len h
  unfold okS
  rw [Bool.and_eq_true, List.all_eq_true, decide_eq_true_eq]
  exact ⟨fun r hr => okS_all h (List.mem_of_mem_take hr), by simp; omega⟩
theorem okC_take {m : List Int} {s : List (List Int)} {t : Int} (h : okC m s t = true) (k : Nat) : okC m (s.take k) t = true := by
  unfold okC at h ⊢
  simp only [Bool.and_eq_true] at h ⊢
  exact ⟨⟨h.1.1, okS_take h.1.2 k⟩, h.2⟩
theorem okC_mk {m : List Int} {s : List (List Int)} {t : Int} (h : (okM m && okS m s) = true) (h0 : ¬ t < 0) (h1 : ¬ (m.length : Int) < t) : okC m s t = true := by
  unfold okC; rw [h, inR_true.2 (by omega)]; rfl
theorem okC_no {m : List Int} {s : List (List Int)} {t : Int} (h : (okM m && okS m s) = false ∨ t < 0 ∨ (m.length : Int) < t) : okC m s t = false := by
  unfold okC
  rcases h with h | h | h
  · rw [h]; rfl
  · rw [inR_false.2 (.inl h)]; simp
  · rw [inR_false.2 (.inr h)]; simp
theorem hasP_count {s : List (List Int)} {p : List Int} : hasP s p = false ↔ (s.countP fun r => mB p r) = 0 := by
  unfold hasP
  rw [List.countP_eq_zero, List.any_eq_false]
theorem mo_ho {m r : List Int} {s : List (List Int)} {t : Int} {k : Nat} (h : okC m s t = true) (hr : (moL m s t)[k]? = some r) : hoV m s r = 0 := by
  have h1 := List.mem_of_getElem? hr
  rw [mo_yes h] at h1
  unfold misL misP at h1
  rw [List.mem_filter] at h1
  have hp := okC_parts h
  have h2 := (mem_patS hp.1).1 h1.1
  unfold okC at h
  simp only [Bool.and_eq_true] at h
  rw [hoV_yes h.1.1 h.1.2 h2.1, hasP_count.1 (by simpa using h1.2)]
  rfl
theorem mo_sub {m : List Int} {s : List (List Int)} {t : Int} (h : okC m s t = true) (k : Nat) : amgL (moL m s t) (moL m (s.take k) t) = true := by
  rw [amgL_iff, mo_yes h, mo_yes (okC_take h k)]
  intro r hr
  unfold misL misP at hr ⊢
  rw [List.mem_filter] at hr ⊢
  refine ⟨hr.1, ?_⟩
  have h1 : hasP s r = false := by simpa using hr.2
  have h2 : hasP (s.take k) r = false := by
    unfold hasP at h1 ⊢
    rw [List.any_eq_false] at h1 ⊢
    exact fun q hq => h1 q (List.mem_of_mem_take hq)
  rw [h2]; rfl

end Go.Proofs.YtpioldgpfpmjiaaDoor
