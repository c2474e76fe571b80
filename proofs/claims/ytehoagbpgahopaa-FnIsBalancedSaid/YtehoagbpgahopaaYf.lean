/- Walks: FuseLevels, by the model. -/
import Derived.Test.YtehoagbpgahopaaYe
namespace Go.Proofs.Ytehoagbpgahopaa
open Go.RowKit

theorem OII.dr {w w' : World} {lo hi : Nat} {a : Option Addr} {mm : List (List Int)} (h : OII w lo hi a mm) (hd : Dr w w') : OII w' lo hi a mm := by
  obtain ⟨n, rfl⟩ := hd
  exact h.same fun _ _ _ => rfl

end Go.Proofs.Ytehoagbpgahopaa
