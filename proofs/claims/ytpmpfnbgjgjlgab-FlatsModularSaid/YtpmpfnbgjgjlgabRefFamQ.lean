/- Contracts of rotalaw.bad, rotaref.IsSet, rotaref.IsFamily, rotalaw.list. -/
import Derived.Test.YtpmpfnbgjgjlgabThoseQ
namespace Go.Proofs.Ytpmpfnbgjgjlgab
open Go.RowKit

/-- Is s a set of n elements? -/
def setB (n s : Int) : Bool := decide (0 ≤ n ∧ n ≤ 8 ∧ 0 ≤ s ∧ s < 2 ^ n.toNat)
def famB (n : Int) (zs : List Int) : Bool := famR n zs == 0
theorem famB_step {n : Nat} {zs : List Int} {T : Int} (hn : n ≤ 8) (hT : T = 2 ^ n) (k : Nat) (R : risesB T (-1) zs = risesB T (lastB zs k) (zs.drop k)) :
    famB n zs = risesB T (lastB zs k) (zs.drop k) := by
  unfold famB
  rw [famR_step hn hT k R]
  cases risesB T (lastB zs k) (zs.drop k) <;> rfl

end Go.Proofs.Ytpmpfnbgjgjlgab
