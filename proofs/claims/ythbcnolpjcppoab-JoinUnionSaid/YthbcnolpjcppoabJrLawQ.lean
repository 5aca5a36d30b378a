/- The law rotakeep.JoinRank. -/
import Derived.Test.YthbcnolpjcppoabJoUQ
namespace Go.Proofs.Ythbcnolpjcppoab
open Go.RowKit

theorem pop_fulm : ∀ n : Nat, n ≤ 8 → pop (2 ^ n - 1) = n := by decide +kernel
theorem full_dif {m t : Nat} (hm : m ≤ 8) (ht : t < 2 ^ m) : pop (dif (2 ^ m - 1) t) + pop t = m := by
  rw [pop_split (full_sub ht), pop_fulm m hm]
theorem two_uni : uniN 4 twoL twoL = [15] := by decide +kernel
end Go.Proofs.Ythbcnolpjcppoab
