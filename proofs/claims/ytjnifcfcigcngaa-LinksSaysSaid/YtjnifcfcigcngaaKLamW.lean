/- kinds.meetings, canBeGiven, keepsTo, crossesOne. -/
import Derived.Test.YtjnifcfcigcngaaGiveW
import Derived.Test.YtjnifcfcigcngaaPlainAll
import Derived.Deep.QuietTactic
import Derived.BigQuiet
import Derived.Test.YtjnifcfcigcngaaQBelQ
namespace Go.Proofs.Ytjnifcfcigcngaa
open Go.RowKit

end Go.Proofs.Ytjnifcfcigcngaa

namespace Go.Proofs.Ytjnifcfcigcngaa
open Go.RowKit

theorem keep_drop {l : List Nat} {ms : List Int} {s k : Nat} (hk : k < l.length) : ((List.range l.length).drop k).all (fun i => decide ((pop (s &&& l.getD i 0) : Int) ≤ ms.getD i 0)) = (decide ((pop (s &&& l.getD k 0) : Int) ≤ ms.getD k 0) && ((List.range l.length).drop (k + 1)).all fun i => decide ((pop (s &&& l.getD i 0) : Int) ≤ ms.getD i 0)) := by
  rw [List.drop_eq_getElem_cons (by simpa using hk), List.all_cons, List.getElem_range]

end Go.Proofs.Ytjnifcfcigcngaa
