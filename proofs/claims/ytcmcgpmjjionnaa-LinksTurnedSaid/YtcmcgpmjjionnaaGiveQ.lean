/- axioms.canGiveAll. -/
import Derived.Test.YtcmcgpmjjionnaaTakeQ
namespace Go.Proofs.Ytcmcgpmjjionnaa
open Go.RowKit Go.Shelf
attribute [local go_sem] Oper.semAt_some

def giveB (p : Nat → Bool) (a b : Nat) : Bool := (els (dif a b)).all fun x => takeB p (dif a (bt x)) (dif b a)

end Go.Proofs.Ytcmcgpmjjionnaa
