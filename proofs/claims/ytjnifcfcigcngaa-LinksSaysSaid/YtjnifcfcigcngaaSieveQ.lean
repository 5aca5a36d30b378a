/- sets.Sieve, for whatever function answers as p does. -/
import Derived.Test.YtjnifcfcigcngaaOwnQ
namespace Go.Proofs.Ytjnifcfcigcngaa
open Go.RowKit

/-- A function value that answers as p does below T, wherever nothing below B has turned. -/
def AnswersTo (B : Nat) (w : World) (g : Nat) (cs : Array Value) (T : Nat) (p : Nat → Bool) : Prop :=
  ∀ x, x < T → ∀ w1, Below B w w1 → B ≤ w1.heap.size → Calls Try.prog g (#[.int .i64 (x : Nat)] ++ cs) w1 fun e w2 => e = .returned (.bool (p x)) ∧ Below w1.heap.size w1 w2
/-- The function can be entered. -/
def Enters (g : Nat) : Prop := ∀ (args : Array Value) (w : World), (callFunc g args).run Try.prog w = .ok (.enter g args) w
theorem rg_hit {p : Nat → Bool} {k : Nat} (hp : p k = true) : (List.range (k + 1)).filter p = (List.range k).filter p ++ [k] := by
  rw [List.range_succ, List.filter_append]; simp [hp]
theorem rg_miss {p : Nat → Bool} {k : Nat} (hp : p k = false) : (List.range (k + 1)).filter p = (List.range k).filter p := by
  rw [List.range_succ, List.filter_append]; simp [hp]
theorem rg_le (p : Nat → Bool) (k : Nat) : ((List.range k).filter p).length ≤ k := by
  have := List.length_filter_le p (List.range k)
  rwa [List.length_range] at this

end Go.Proofs.Ytjnifcfcigcngaa
