/- The law rotakeep.JoinRank. -/
import Derived.Test.YthbcnolpjcppoabJoUQ
import Derived.Test.YthbcnolpjcppoabQuietQ
namespace Go.Proofs.Ythbcnolpjcppoab
open Go.RowKit

theorem pop_fulm : ∀ n : Nat, n ≤ 8 → pop (2 ^ n - 1) = n := by decide +kernel
theorem full_dif {m t : Nat} (hm : m ≤ 8) (ht : t < 2 ^ m) : pop (dif (2 ^ m - 1) t) + pop t = m := by
  rw [pop_split (full_sub ht), pop_fulm m hm]
theorem two_uni : uniN 4 twoL twoL = [15] := by decide +kernel
end Go.Proofs.Ythbcnolpjcppoab

namespace Go.Proofs.Ythbcnolpjcppoab
open Go.RowKit

theorem wholeSet_any (n : Nat) (w : World) (hn : n ≤ 8) : Calls Try.prog 45 #[.int .i64 n] w fun e w' => e = .returned (.int .i64 (2 ^ n - 1 : Nat)) ∧ w' = w := by
  obtain ⟨T, HT, hT2, hT, hT0⟩ : ∃ T : Nat, Hid (T = 2 ^ n) ∧ T ≤ 256 ∧ wrap64 (2 ^ n) = (T : Int) ∧ 1 ≤ T := ⟨2 ^ n, rfl, (pow_wrap _ hn).2, (pow_wrap _ hn).1, Nat.one_le_two_pow⟩
  rw [← HT.out]
  have hti : (T : Int) - 1 = ((T - 1 : Nat) : Int) := by omega
  go_enter Try.func45, Try.ntmps45
  go_wp2
  go_ret
  exact ⟨rfl, rfl⟩
end Go.Proofs.Ythbcnolpjcppoab
