/- Contracts over a function value: rotaref.Those; for whatever function answers as p does. rotaref.All, Has; slices.Index, Contains at []int. -/
import Derived.Test.YtjajloefplbkgaaRefQ
import Derived.Test.YtjajloefplbkgaaSieveQ
namespace Go.Proofs.Ytjajloefplbkgaa
open Go.RowKit

theorem pow_less : ∀ n : Nat, n ≤ 8 → wrap64 (wrap64 (2 ^ n) - 1) = ((2 ^ n : Nat) : Int) - 1 := by decide +kernel
theorem pow_less' : ∀ n : Nat, n ≤ 8 → IntKind.i64.wrap (wrap64 (2 ^ n) - 1) = ((2 ^ n : Nat) : Int) - 1 := by decide +kernel
theorem All_any (n : Nat) (w : World) (hn : n ≤ 8) :
    Calls Try.prog 13 #[.int .i64 n] w fun e w' => e = .returned (.int .i64 (((2 ^ n : Nat) : Int) - 1)) ∧ w' = w := by
  obtain ⟨T, hT, HT, hT2⟩ : ∃ T : Nat, wrap64 (2 ^ n) = (T : Int) ∧ Hid (T = 2 ^ n) ∧ T ≤ 256 := ⟨2 ^ n, (pow_wrap _ hn).1, rfl, (pow_wrap _ hn).2⟩
  have h1 : 1 ≤ T := by rw [HT.out]; exact Nat.one_le_two_pow
  go_enter Try.func13, Try.ntmps13
  go_wp2
  go_ret
  exact ⟨ret_int (by rw [← HT.out]), rfl⟩

end Go.Proofs.Ytjajloefplbkgaa
