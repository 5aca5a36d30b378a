/- axioms.areOfOneSize. -/
import Derived.Deep.QuietTactic
import Derived.BigQuiet
import Derived.Test.YtjnifcfcigcngaaGiveW
namespace Go.Proofs.Ytjnifcfcigcngaa
open Go.RowKit

/-- Are all of one size? -/
def oneB (l : List Nat) : Bool := l.all fun s => pop s == pop (l.getD 0 0)
end Go.Proofs.Ytjnifcfcigcngaa
