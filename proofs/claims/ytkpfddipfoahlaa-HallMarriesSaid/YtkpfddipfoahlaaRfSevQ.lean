/- rotaref.Several. -/
import Derived.Test.YtkpfddipfoahlaaRefQ
import Derived.Test.YtkpfddipfoahlaaPlainAll
namespace Go.Proofs.Ytkpfddipfoahlaa
open Go.RowKit

end Go.Proofs.Ytkpfddipfoahlaa
