/- Walks: MissingOf, CoverageOf, IsCovering. -/
import Derived.Test.YtpioldgpfpmjiaaDoorYa
namespace Go.Proofs.YtpioldgpfpmjiaaDoor
open Go.RowKit


theorem moL_sum {m : List Int} {s : List (List Int)} {t : Int} : sumL (moL m s t) ≤ 5120 := by
  have h1 := sumL_le (n := 5) (mm := moL m s t) fun r hr => by have := moL_row r hr; omega
  have h2 := @moL_len m s t
  omega
theorem moL_gr {m : List Int} {s : List (List Int)} {t : Int} : True ∧ ∀ r ∈ moL m s t, r.length ≤ 4611686018427387904 := ⟨trivial, fun r hr => by have := moL_row r hr; omega⟩
theorem GotII.none {w w' : World} {l : List (List Int)} (h : l = []) (hb : Below w.heap.size w w') : GotII w l (.returned (.slice none 0 0)) w' := by
  subst h
  exact ⟨_, _, rfl, RIIc.nil _ _ _ _ _, hb⟩

end Go.Proofs.YtpioldgpfpmjiaaDoor
