/- axioms.areOfOneSize. -/
import Derived.Deep.QuietTactic
import Derived.BigQuiet
import Derived.Test.YtmbkjiglbgnamaaGiveW
namespace Go.Proofs.Ytmbkjiglbgnamaa
open Go.RowKit

/-- Are all of one size? -/
def oneB (l : List Nat) : Bool := l.all fun s => pop s == pop (l.getD 0 0)
end Go.Proofs.Ytmbkjiglbgnamaa
