/- Walks: suites without a test, by the model. -/
import Derived.Test.YtpioldgpfpmjiaaDoorYh
import Derived.Test.YtpioldgpfpmjiaaDoorOc
import Derived.Deep.RegionLaw
namespace Go.Proofs.YtpioldgpfpmjiaaDoor
open Go.RowKit

theorem NewI.none {w w' : World} {l : List Int} (h : l = []) (hb : Below w.heap.size w w') : NewI w l (.returned (.slice none 0 0)) w' := by
  subst h
  exact ⟨_, _, rfl, ⟨OI.nil _ _ _ _, Nat.zero_le _⟩, hb⟩

theorem OwnRR.nilU (w : World) (lo : Nat) : RIIc w lo w.heap.size none 0 [] := RIIc.nil _ _ _ _ _

end Go.Proofs.YtpioldgpfpmjiaaDoor
