/- kinds.meetings, canBeGiven, keepsTo, crossesOne. -/
import Derived.Test.YtjajloefplbkgaaQuietQ
import Derived.Test.YtjajloefplbkgaaPlainAll
import Derived.Deep.QuietTactic
import Derived.BigQuiet
namespace Go.Proofs.Ytjajloefplbkgaa
open Go.RowKit

end Go.Proofs.Ytjajloefplbkgaa
