/- Walks: the laws' helpers on slices of numbers. -/
import Derived.Test.YtmmebcjebphfcaaFacts
namespace Go.Proofs.Ytmmebcjebphfcaa
open Go.RowKit

def eqI (x y : List Int) : Bool := x == y
theorem eqI_true {x y : List Int} : eqI x y = true ↔ x = y := by simp [eqI]
theorem eqI_no {x y : List Int} (h : x ≠ y) : eqI x y = false := by simp [eqI, h]

end Go.Proofs.Ytmmebcjebphfcaa
