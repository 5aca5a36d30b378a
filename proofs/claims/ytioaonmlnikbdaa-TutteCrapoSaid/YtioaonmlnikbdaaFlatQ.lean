/- axioms.isFlat, axioms.isHyperplane. -/
import Derived.Test.YtioaonmlnikbdaaQBelQ
import Derived.Test.YtioaonmlnikbdaaCloQ
namespace Go.Proofs.Ytioaonmlnikbdaa
open Go.RowKit

end Go.Proofs.Ytioaonmlnikbdaa
