/- Walks: the laws' helpers on slices of numbers; a model. -/
import Derived.Test.YtkboggohkhjciaaFacts
namespace Go.Proofs.Ytkboggohkhjciaa
open Go.RowKit

set_option maxHeartbeats 400000 in
theorem s_inRange (n lo hi : Int) (w : World) :
    Calls Try.prog 46 #[.int .i64 n, .int .i64 lo, .int .i64 hi] w (RO w (.bool (inR n lo hi))) := by
  by_cases h1 : lo ≤ n
  · go_enter Try.func46, Try.ntmps46
    go_wp2
    go_ret
    exact RO.bool0 (by simp [inR, h1])
  · go_enter Try.func46, Try.ntmps46
    go_wp2
    go_ret
    exact RO.bool0 (inR_false.2 (by omega)).symm

/- Walks: the laws' helpers on slices of numbers. -/
open Go.RowKit

def eqI (x y : List Int) : Bool := x == y
theorem eqI_true {x y : List Int} : eqI x y = true ↔ x = y := by simp [eqI]
theorem eqI_no {x y : List Int} (h : x ≠ y) : eqI x y = false := by simp [eqI, h]

end Go.Proofs.Ytkboggohkhjciaa
