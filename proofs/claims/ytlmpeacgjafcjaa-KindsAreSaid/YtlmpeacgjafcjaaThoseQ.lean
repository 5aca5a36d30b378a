/- Contracts over a function value: rotaref.Those; for whatever function answers as p does. rotaref.All, Has; slices.Index, Contains at []int. -/
import Derived.Test.YtlmpeacgjafcjaaRefQ
import Derived.Test.YtlmpeacgjafcjaaSieveQ
namespace Go.Proofs.Ytlmpeacgjafcjaa
open Go.RowKit

theorem pow_less : ∀ n : Nat, n ≤ 8 → wrap64 (wrap64 (2 ^ n) - 1) = ((2 ^ n : Nat) : Int) - 1 := by decide +kernel
theorem pow_less' : ∀ n : Nat, n ≤ 8 → IntKind.i64.wrap (wrap64 (2 ^ n) - 1) = ((2 ^ n : Nat) : Int) - 1 := by decide +kernel
end Go.Proofs.Ytlmpeacgjafcjaa
