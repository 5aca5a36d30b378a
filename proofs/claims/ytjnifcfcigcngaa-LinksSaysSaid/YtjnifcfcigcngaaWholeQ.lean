/- sets.Whole. -/
import Derived.Test.YtjnifcfcigcngaaGiveW
namespace Go.Proofs.Ytjnifcfcigcngaa
open Go.RowKit

theorem wholeSet_any (n : Nat) (w : World) (hn : n ≤ 8) : Calls Try.prog 27 #[.int .i64 n] w fun e w' => e = .returned (.int .i64 (2 ^ n - 1 : Nat)) ∧ w' = w := by
  obtain ⟨T, HT, hT2, hT, hT0⟩ : ∃ T : Nat, Hid (T = 2 ^ n) ∧ T ≤ 256 ∧ wrap64 (2 ^ n) = (T : Int) ∧ 1 ≤ T := ⟨2 ^ n, rfl, (pow_wrap _ hn).2, (pow_wrap _ hn).1, Nat.one_le_two_pow⟩
  rw [← HT.out]
  have hti : (T : Int) - 1 = ((T - 1 : Nat) : Int) := by omega
  go_enter Try.func27, Try.ntmps27
  go_wp2
  go_ret
  exact ⟨rfl, rfl⟩
end Go.Proofs.Ytjnifcfcigcngaa
