/- Walks: AddFactor of the program. -/
import Derived.Test.YteoiclkipfdgpaaKc
import Derived.Test.YteoiclkipfdgpaaKd
import Derived.Test.YteoiclkipfdgpaaVb
import Derived.Test.YteoiclkipfdgpaaKf
import Derived.Test.YteoiclkipfdgpaaTc
namespace Go.Proofs.Yteoiclkipfdgpaa
open Go.RowKit

theorem adB_noI {m : List Int} {s : List (List Int)} {l t : Int} (h : adG m s l t = false) : adL m s l t = [] ∧ adB m s l t = false := by
  have h2 : adB m s l t = false := by unfold adB; rw [h]; rfl
  exact ⟨ad_no h2, h2⟩
/-- what the program asks is what the document asks -/
theorem adG_eq {m : List Int} {s : List (List Int)} {l t : Int} : adG m s l t = (okM m && okS m s && okM (m ++ [l]) && decide (1 ≤ t) && inR t 0 ((m ++ [l]).length : Nat)) := by
  rw [Bool.eq_iff_iff]
  constructor
  · intro h
    obtain ⟨h1, h2, h3, h4, h5, h6, h7⟩ := adG_m h
    have h8 : okM (m ++ [l]) = true := adM_ok h1 h3 h4 h5
    rw [h1, h2, h8, decide_eq_true h6, inR_true.2 (by simp; omega)]; rfl
  · intro h
    simp only [Bool.and_eq_true, decide_eq_true_eq] at h
    obtain ⟨⟨⟨⟨h1, h2⟩, h3⟩, h4⟩, h5⟩ := h
    have h6 := okM_len h3
    have h7 := okM_at h3 (k := m.length) (x := l) (by simp)
    have h8 := inR_true.1 h5
    simp at h6 h8
    unfold adG
    rw [h1, h2, inR_true.2 h7, inR_true.2 (by omega), decide_eq_true (by omega)]; rfl

end Go.Proofs.Yteoiclkipfdgpaa
