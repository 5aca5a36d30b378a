/- rotaref.Pick. -/
import Derived.Test.YtcmcgpmjjionnaaOwnQ
namespace Go.Proofs.Ytcmcgpmjjionnaa
open Go.RowKit

/-- What Pick picks. -/
def pickN (p : Int) (n : Nat) : Nat := ((if p < 0 then -(p + 1) else p) % (n : Int)).toNat
theorem pickN_lt (p : Int) {n : Nat} (hn : 0 < n) : pickN p n < n := by
  unfold pickN
  have := Int.emod_nonneg (if p < 0 then -(p + 1) else p) (show (n : Int) ≠ 0 by omega)
  have := Int.emod_lt_of_pos (if p < 0 then -(p + 1) else p) (show (0 : Int) < n by omega)
  omega
theorem PickG_any (p : Int) (n : Nat) (w : World) (h1 : -9223372036854775808 ≤ p) (h2 : p ≤ 9223372036854775807) (hn : 0 < n) (hn2 : n ≤ 256) :
    Calls Try.prog 6 #[.int .i64 p, .int .i64 n] w fun e w' => e = .returned (.int .i64 (pickN p n)) ∧ w' = w := by
  have hz : ((n : Int) == 0) = false := by rw [beq_eq_false_iff_ne]; omega
  have PN : Hid (pickN p n = ((if p < 0 then -(p + 1) else p) % (n : Int)).toNat) := rfl
  by_cases hp : p < 0
  · rw [if_pos hp] at PN
    generalize pickN p n = r at *
    go_enter Try.func6, Try.ntmps6
    go_wp2
    go_ret
    refine ⟨ret_int ?_, rfl⟩
    rw [PN.out]
    have e : -((p + 1).tmod (n : Int)) = (-(p + 1)) % (n : Int) := by rw [← Int.neg_tmod, Int.tmod_eq_emod_of_nonneg (by omega)]
    have := Int.emod_nonneg (-(p + 1)) (show (n : Int) ≠ 0 by omega)
    omega
  · rw [if_neg hp] at PN
    generalize pickN p n = r at *
    go_enter Try.func6, Try.ntmps6
    go_wp2
    go_ret
    refine ⟨ret_int ?_, rfl⟩
    rw [PN.out]
    have := Int.emod_nonneg p (show (n : Int) ≠ 0 by omega)
    omega
end Go.Proofs.Ytcmcgpmjjionnaa
