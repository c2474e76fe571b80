/- Plain facts of the squares: what SquareSuite gives is balanced and covers, each two levels once. -/
import Derived.Test.YtehoagbpgahopaaTc
import Derived.Test.YtehoagbpgahopaaWi
namespace Go.Proofs.Ytehoagbpgahopaa

/-- what the law on SquareSuite asks of a square -/
def sqOK (q k : Nat) : Bool :=
  let M : List Int := List.replicate k (q : Int)
  let S := sqL q k
  let t : Int := min k 2
  okM M && ibB M S t && icB M S t && (S.length == q * q) && ((t != 2) || (apL M 2).all fun p => hoV M S p == 1)
set_option maxRecDepth 100000 in
theorem sqOK_all : (sqOK 2 1 && sqOK 2 2 && sqOK 2 3 && sqOK 3 1 && sqOK 3 2 && sqOK 3 3 && sqOK 3 4) = true := by decide +kernel
theorem sq_ok {q k : Int} (h : sqB q k = true) : ∃ Q K : Nat, q = Q ∧ k = K ∧ 2 ≤ Q ∧ Q ≤ 3 ∧ 1 ≤ K ∧ K ≤ 4 ∧ sqOK Q K = true := by
  unfold sqB at h
  rw [Bool.and_eq_true] at h
  have h1 := inR_true.1 h.1
  have h2 := inR_true.1 h.2
  have ha := sqOK_all
  simp only [Bool.and_eq_true] at ha
  obtain ⟨⟨⟨⟨⟨⟨a1, a2⟩, a3⟩, a4⟩, a5⟩, a6⟩, a7⟩ := ha
  have hq : q = 2 ∨ q = 3 := by omega
  rcases hq with rfl | rfl
  · have hk : k = 1 ∨ k = 2 ∨ k = 3 := by omega
    rcases hk with rfl | rfl | rfl
    · exact ⟨2, 1, rfl, rfl, by omega, by omega, by omega, by omega, a1⟩
    · exact ⟨2, 2, rfl, rfl, by omega, by omega, by omega, by omega, a2⟩
    · exact ⟨2, 3, rfl, rfl, by omega, by omega, by omega, by omega, a3⟩
  · have hk : k = 1 ∨ k = 2 ∨ k = 3 ∨ k = 4 := by omega
    rcases hk with rfl | rfl | rfl | rfl
    · exact ⟨3, 1, rfl, rfl, by omega, by omega, by omega, by omega, a4⟩
    · exact ⟨3, 2, rfl, rfl, by omega, by omega, by omega, by omega, a5⟩
    · exact ⟨3, 3, rfl, rfl, by omega, by omega, by omega, by omega, a6⟩
    · exact ⟨3, 4, rfl, rfl, by omega, by omega, by omega, by omega, a7⟩
theorem sqOK_parts {Q K : Nat} (h : sqOK Q K = true) : okM (List.replicate K (Q : Int)) = true ∧ ibB (List.replicate K (Q : Int)) (sqL Q K) (min K 2 : Nat) = true ∧ icB (List.replicate K (Q : Int)) (sqL Q K) (min K 2 : Nat) = true ∧ (sqL Q K).length = Q * Q ∧ (2 ≤ K → ∀ p ∈ apL (List.replicate K (Q : Int)) 2, hoV (List.replicate K (Q : Int)) (sqL Q K) p = 1) := by
  unfold sqOK at h
  simp only [Bool.and_eq_true, Bool.or_eq_true, List.all_eq_true, beq_iff_eq, bne_iff_ne] at h
  obtain ⟨⟨⟨⟨h1, h2⟩, h3⟩, h4⟩, h5⟩ := h
  have e : ((min K 2 : Nat) : Int) = min (K : Int) 2 := by omega
  rw [e]
  refine ⟨h1, h2, h3, h4, fun hK => ?_⟩
  rcases h5 with h5 | h5
  · exact absurd (by omega) h5
  · exact h5

end Go.Proofs.Ytehoagbpgahopaa
