/- sets.Whole. -/
import Derived.Test.YtkeeihjcjkndbaaQuietQ
namespace Go.Proofs.Ytkeeihjcjkndbaa
open Go.RowKit

end Go.Proofs.Ytkeeihjcjkndbaa
