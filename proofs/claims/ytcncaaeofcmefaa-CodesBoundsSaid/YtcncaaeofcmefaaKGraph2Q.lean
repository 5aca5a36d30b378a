/- kinds.Graphic. -/
import Derived.Test.YtcncaaeofcmefaaKGraphW
namespace Go.Proofs.Ytcncaaeofcmefaa
open Go.RowKit

end Go.Proofs.Ytcncaaeofcmefaa
