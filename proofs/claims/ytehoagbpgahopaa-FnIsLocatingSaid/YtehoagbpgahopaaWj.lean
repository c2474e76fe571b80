/- Walks: the laws' marks. -/
import Derived.Test.YtehoagbpgahopaaWc
namespace Go.Proofs.Ytehoagbpgahopaa
open Go.RowKit

end Go.Proofs.Ytehoagbpgahopaa
