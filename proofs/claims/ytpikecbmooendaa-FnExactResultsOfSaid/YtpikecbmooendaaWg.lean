/- Walks: Matches; how often. -/
import Derived.Test.YtpikecbmooendaaWf
namespace Go.Proofs.Ytpikecbmooendaa
open Go.RowKit

end Go.Proofs.Ytpikecbmooendaa
