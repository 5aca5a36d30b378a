/- axioms.family, for whatever function answers as p does by the ranks; sets.Check. -/
import Derived.Test.YtelcpiekomhfbaaDoorBasQ
import Derived.Test.YtelcpiekomhfbaaDoorIndW
import Derived.Test.YtelcpiekomhfbaaDoorRanksWQ
namespace Go.Proofs.YtelcpiekomhfbaaDoor
open Go.RowKit

/-- What sets.Check answers. -/
def setR (n s : Int) : Int := if 0 ≤ n ∧ n ≤ 8 ∧ 0 ≤ s ∧ s < 2 ^ n.toNat then 0 else 1

/-- A function of package axioms that answers as p does by r. -/
def ByRank (g T : Nat) (r : Nat → Nat) (p : Nat → Bool) : Prop := ∀ (v : Value) (s : Nat) (w : World), s < T → RkAt w v T r → Calls Tryd.prog g #[v, .int .i64 s] w fun e w' => e = .returned (.bool (p s)) ∧ Below w.heap.size w w'
end Go.Proofs.YtelcpiekomhfbaaDoor
