/- rotaref.All, IsSet. -/
import Derived.Test.YthbcnolpjcppoabRefQ
import Derived.Test.YthbcnolpjcppoabRefShfQ
import Derived.Test.YthbcnolpjcppoabPlainAll
namespace Go.Proofs.Ythbcnolpjcppoab
open Go.RowKit

theorem All_any (n : Nat) (w : World) (hn : n ≤ 8) :
    Calls Try.prog 43 #[.int .i64 n] w fun e w' => e = .returned (.int .i64 (((2 ^ n : Nat) : Int) - 1)) ∧ w' = w := by
  obtain ⟨T, hT, HT, hT2⟩ : ∃ T : Nat, wrap64 (2 ^ n) = (T : Int) ∧ Hid (T = 2 ^ n) ∧ T ≤ 256 := ⟨2 ^ n, (pow_wrap _ hn).1, rfl, (pow_wrap _ hn).2⟩
  have h1 : 1 ≤ T := by rw [HT.out]; exact Nat.one_le_two_pow
  go_enter Try.func43, Try.ntmps43
  go_wp2
  go_ret
  exact ⟨ret_int (by rw [← HT.out]), rfl⟩

/-- Is s a set of n elements? -/
def setB (n s : Int) : Bool := decide (0 ≤ n ∧ n ≤ 8 ∧ 0 ≤ s ∧ s < 2 ^ n.toNat)
end Go.Proofs.Ythbcnolpjcppoab
