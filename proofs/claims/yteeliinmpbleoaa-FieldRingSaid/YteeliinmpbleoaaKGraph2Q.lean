/- kinds.Graphic. -/
import Derived.Test.YteeliinmpbleoaaKGraphQ
namespace Go.Proofs.Yteeliinmpbleoaa
open Go.RowKit

end Go.Proofs.Yteeliinmpbleoaa
