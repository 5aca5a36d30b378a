/- greedy.isBasis, greedy.checkBases; slices.Index and slices.Contains of whatever number. -/
import Derived.Test.YtomajfpincehnaaBasW
import Derived.Test.YtomajfpincehnaaRwLW
import Derived.Test.YtomajfpincehnaaQBelQ
import Derived.Test.YtomajfpincehnaaEqQ
import Derived.Test.YtomajfpincehnaaPlainAll1
namespace Go.Proofs.Ytomajfpincehnaa
open Go.RowKit

/-- Is x one of zs? -/
def memZ (x : Int) (zs : List Int) : Bool := decide (x ∈ zs)
theorem memZ_N (x : Nat) (l : List Nat) : memZ x (N l) = memB x l := by
  unfold memZ memB N
  rw [Bool.eq_iff_iff, decide_eq_true_eq, decide_eq_true_eq, List.mem_map]
  constructor
  · rintro ⟨y, h1, h2⟩
    have : y = x := Int.ofNat.inj h2
    exact this ▸ h1
  · exact fun h => ⟨x, h, rfl⟩
end Go.Proofs.Ytomajfpincehnaa
