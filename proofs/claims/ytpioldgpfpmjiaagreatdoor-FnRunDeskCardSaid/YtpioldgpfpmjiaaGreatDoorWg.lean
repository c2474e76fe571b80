/- Walks: Matches; how often. -/
import Derived.Test.YtpioldgpfpmjiaaGreatDoorWf
namespace Go.Proofs.YtpioldgpfpmjiaaGreatDoor
open Go.RowKit

end Go.Proofs.YtpioldgpfpmjiaaGreatDoor
