/- axioms.family, for whatever function answers as p does by the ranks; sets.Check. -/
import Derived.Test.YteeliinmpbleoaaBasQ
import Derived.Test.YteeliinmpbleoaaSieveQ
import Derived.Test.YteeliinmpbleoaaRanksWQ
namespace Go.Proofs.Yteeliinmpbleoaa
open Go.RowKit

/-- What sets.Check answers. -/
def setR (n s : Int) : Int := if 0 ≤ n ∧ n ≤ 8 ∧ 0 ≤ s ∧ s < 2 ^ n.toNat then 0 else 1

/-- A function of package axioms that answers as p does by r. -/
def ByRank (g T : Nat) (r : Nat → Nat) (p : Nat → Bool) : Prop := ∀ (v : Value) (s : Nat) (w : World), s < T → RkAt w v T r → Calls Try.prog g #[v, .int .i64 s] w fun e w' => e = .returned (.bool (p s)) ∧ Below w.heap.size w w'
theorem Sieve_at (n T g : Nat) (hT : T = 2 ^ n) (cs : Array Value) (p : Nat → Bool) (w : World) (hn : n ≤ 8) (eg : Enters g) (hg : AnswersTo w.heap.size w g cs T p) :
    Calls Try.prog 56 #[.int .i64 n, .func (.func g) #[] cs] w fun e w' => ∃ r, e = .returned r ∧ Own w.heap.size w' r ((List.range T).filter p) ∧ Below w.heap.size w w' := by
  subst hT
  exact Sieve_any n g cs p w hn eg hg
end Go.Proofs.Yteeliinmpbleoaa
