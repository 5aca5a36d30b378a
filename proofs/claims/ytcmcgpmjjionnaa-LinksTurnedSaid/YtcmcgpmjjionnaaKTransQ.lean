/- kinds.Transversal. -/
import Derived.Test.YtcmcgpmjjionnaaKLamQ
import Derived.Test.YtcmcgpmjjionnaaWithoutQ
import Derived.Test.YtcmcgpmjjionnaaFewQ
namespace Go.Proofs.Ytcmcgpmjjionnaa
open Go.RowKit

/-- The greatest of the sets that p tells, rising. -/
def bigL (n : Nat) (p : Nat → Bool) : List Nat := (List.range (2 ^ n)).filter fun s => pop s == maxI p (2 ^ n) && p s
theorem big_fam (n : Nat) (p : Nat → Bool) : Fam n (bigL n p) := Fam.range n _
/-- What a maker hands back: a matroid, or an error. -/
def Makes (w : World) (q : Int) (n : Int) (l : List Nat) (e : Ending) (w' : World) : Prop := (q = 0 → GivesO w n l e w') ∧ (q ≠ 0 → BadM w q e w')
end Go.Proofs.Ytcmcgpmjjionnaa
