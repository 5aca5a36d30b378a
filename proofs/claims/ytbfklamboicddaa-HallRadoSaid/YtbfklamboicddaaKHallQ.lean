/- kinds.meetings, canBeGiven, keepsTo, crossesOne. -/
import Derived.Test.YtbfklamboicddaaQuietQ
import Derived.Test.YtbfklamboicddaaPlainAll
import Derived.Deep.QuietTactic
import Derived.BigQuiet
namespace Go.Proofs.Ytbfklamboicddaa
open Go.RowKit

end Go.Proofs.Ytbfklamboicddaa
