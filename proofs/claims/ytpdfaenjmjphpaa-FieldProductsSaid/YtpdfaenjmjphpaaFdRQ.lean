/- rotaref.Hang. -/
import Derived.Test.YtpdfaenjmjphpaaFdQQ
namespace Go.Proofs.Ytpdfaenjmjphpaa
open Go.RowKit

end Go.Proofs.Ytpdfaenjmjphpaa
