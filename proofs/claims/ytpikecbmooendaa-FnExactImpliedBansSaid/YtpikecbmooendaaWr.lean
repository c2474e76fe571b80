/- Walks: AllPatterns and AllTests, by the model. -/
import Derived.Test.YtpikecbmooendaaWq
import Derived.Test.YtpikecbmooendaaMath
namespace Go.Proofs.Ytpikecbmooendaa
open Go.RowKit

/-- all patterns of a model and a strength; none where there is no such thing -/
theorem NewII.none {w w' : World} {l : List (List Int)} (h : l = []) (hb : Below w.heap.size w w') : NewII w l (.returned (.slice none 0 0)) w' := by
  subst h
  exact ⟨_, _, rfl, OIIc.nil _ _ _ _ _, hb⟩

end Go.Proofs.Ytpikecbmooendaa
