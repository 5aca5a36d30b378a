/- rotaref.Pick. -/
import Derived.Test.YtlmpeacgjafcjaaOwnQ
namespace Go.Proofs.Ytlmpeacgjafcjaa
open Go.RowKit

/-- What Pick picks. -/
def pickN (p : Int) (n : Nat) : Nat := ((if p < 0 then -(p + 1) else p) % (n : Int)).toNat
theorem pickN_lt (p : Int) {n : Nat} (hn : 0 < n) : pickN p n < n := by
  unfold pickN
  have := Int.emod_nonneg (if p < 0 then -(p + 1) else p) (show (n : Int) ≠ 0 by omega)
  have := Int.emod_lt_of_pos (if p < 0 then -(p + 1) else p) (show (0 : Int) < n by omega)
  omega
end Go.Proofs.Ytlmpeacgjafcjaa
