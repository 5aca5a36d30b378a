/- Contracts of rotaref.Least and rotaref.Most and of their closures. -/
import Derived.Test.YthbcnolpjcppoabRefFamQ
import Derived.Test.YthbcnolpjcppoabPlainAll
import Derived.Deep.RegionWith
import Derived.Test.YthbcnolpjcppoabAxQ
import Derived.Test.YthbcnolpjcppoabMarksW
import Derived.Test.YthbcnolpjcppoabGrLQ
namespace Go.Proofs.Ythbcnolpjcppoab
open Go.RowKit

end Go.Proofs.Ythbcnolpjcppoab

namespace Go.Proofs.Ythbcnolpjcppoab
open Go.RowKit

end Go.Proofs.Ythbcnolpjcppoab

namespace Go.Proofs.Ythbcnolpjcppoab
open Go.RowKit

theorem fam_small {m : Nat} (hm : m ≤ 8) (p : Nat → Bool) : ((List.range (2 ^ m)).filter p).length ≤ 256 := Nat.le_trans (rg_le p _) (pow_wrap m hm).2
theorem fam_lt {m : Nat} (hm : m ≤ 8) (p : Nat → Bool) : ∀ s ∈ (List.range (2 ^ m)).filter p, s < 256 := fun s hs => by
  rw [List.mem_filter, List.mem_range] at hs
  exact lt256 hm hs.1

end Go.Proofs.Ythbcnolpjcppoab

namespace Go.Proofs.Ythbcnolpjcppoab
open Go.RowKit

end Go.Proofs.Ythbcnolpjcppoab

namespace Go.Proofs.Ythbcnolpjcppoab
open Go.RowKit

theorem rm_add {a x : Nat} (ha : a < 256) (hx : a.testBit x = true) : rm a x + 2 ^ x = a := by
  have h8 := bit8 ha hx
  have h1 : rm a x &&& 2 ^ x = 0 := Nat.eq_of_testBit_eq fun i => by
    rw [Nat.testBit_and, rm_bit, Nat.testBit_two_pow]
    by_cases e : x = i
    · subst e; simp
    · simp [e]
  rw [add_disj _ (Nat.lt_trans (rm_lt ha hx) ha) _ (pow_lt256 h8) h1, ad_rm hx]
theorem swap_add {a x y : Nat} (ha : a < 256) (hx : a.testBit x = true) (hy : a.testBit y = false) (hy8 : y < 8) : ((a : Int) - ((2 ^ x : Nat) : Int)) + ((2 ^ y : Nat) : Int) = ((rm a x ||| 2 ^ y : Nat) : Int) := by
  have h1 := rm_add ha hx
  have h2 : rm a x &&& 2 ^ y = 0 := Nat.eq_of_testBit_eq fun i => by
    rw [Nat.testBit_and, rm_bit, Nat.testBit_two_pow]
    by_cases e : y = i
    · subst e; simp [hy]
    · simp [e]
  have h3 := add_disj _ (Nat.lt_trans (rm_lt ha hx) ha) _ (pow_lt256 hy8) h2
  omega
theorem sub_wrap {a p q : Nat} (ha : a < 256) (hp : p < 256) (hq : q < 256) : IntKind.i64.wrap ((a : Int) - (p : Int)) = (a : Int) - (p : Int) ∧ wrap64 ((a : Int) - (p : Int)) = (a : Int) - (p : Int) ∧ IntKind.i64.wrap ((a : Int) - (p : Int) + (q : Int)) = (a : Int) - (p : Int) + (q : Int) ∧ wrap64 ((a : Int) - (p : Int) + (q : Int)) = (a : Int) - (p : Int) + (q : Int) := by
  refine ⟨?_, ?_, ?_, ?_⟩
  · rw [IntKind.wrap_i64]; omega
  · unfold wrap64; omega
  · rw [IntKind.wrap_i64]; omega
  · unfold wrap64; omega
end Go.Proofs.Ythbcnolpjcppoab
