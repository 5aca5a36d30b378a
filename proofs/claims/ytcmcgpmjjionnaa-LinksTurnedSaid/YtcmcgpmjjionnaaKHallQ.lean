/- kinds.meetings, canBeGiven, keepsTo, crossesOne. -/
import Derived.Test.YtcmcgpmjjionnaaQuietQ
import Derived.Test.YtcmcgpmjjionnaaPlainAll
import Derived.Deep.QuietTactic
import Derived.BigQuiet
namespace Go.Proofs.Ytcmcgpmjjionnaa
open Go.RowKit

end Go.Proofs.Ytcmcgpmjjionnaa
