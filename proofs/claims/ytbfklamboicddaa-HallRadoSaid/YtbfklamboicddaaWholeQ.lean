/- sets.Whole. -/
import Derived.Test.YtbfklamboicddaaQuietQ
namespace Go.Proofs.Ytbfklamboicddaa
open Go.RowKit

end Go.Proofs.Ytbfklamboicddaa
