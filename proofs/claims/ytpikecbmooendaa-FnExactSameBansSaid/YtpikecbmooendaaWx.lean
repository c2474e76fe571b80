/- Walks: AllPatterns, AllTests of the program. -/
import Derived.Test.YtpikecbmooendaaWv
import Derived.Test.YtpikecbmooendaaWs
import Derived.Test.YtpikecbmooendaaMath
namespace Go.Proofs.Ytpikecbmooendaa
open Go.RowKit



end Go.Proofs.Ytpikecbmooendaa
