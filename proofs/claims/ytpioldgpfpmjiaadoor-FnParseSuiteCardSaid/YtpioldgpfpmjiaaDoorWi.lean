/- Walks: HowOften. -/
import Derived.Test.YtpioldgpfpmjiaaDoorWh
import Derived.Test.YtpioldgpfpmjiaaDoorMath
namespace Go.Proofs.YtpioldgpfpmjiaaDoor
open Go.RowKit

/-- how many tests of a suite match a pattern; -1 where there is no such thing -/
def hoV (m : List Int) (t : List (List Int)) (p : List Int) : Int := if okM m && okS m t && okP m p then (t.countP fun r => mB p r : Nat) else -1
theorem hoV_yes {m p : List Int} {t : List (List Int)} (h : okM m = true) (h' : okS m t = true) (h'' : okP m p = true) : hoV m t p = (t.countP fun r => mB p r : Nat) := by unfold hoV; rw [h, h', h'']; rfl
theorem hoV_no {m p : List Int} {t : List (List Int)} (h : okM m = false ∨ okS m t = false ∨ okP m p = false) : hoV m t p = -1 := by
  unfold hoV
  rcases h with h | h | h <;> rw [h] <;> simp

/- Walks: what covering asks of its arguments; whether a suite has a pattern. -/
open Go.RowKit

end Go.Proofs.YtpioldgpfpmjiaaDoor
