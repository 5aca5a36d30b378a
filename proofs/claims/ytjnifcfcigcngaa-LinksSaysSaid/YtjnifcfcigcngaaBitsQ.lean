/- Contracts of the leaves of package sets (isSet, size, leastElement, withoutLeast) and of math/bits below them, for sets from 0 to 255. -/
import Derived.Test.YtjnifcfcigcngaaProg
import Derived.Test.YtjnifcfcigcngaaPlainAll
import Derived.WalkKit
import Derived.WalkSpells
import Derived.WalkLawsBesides
namespace Go.Proofs.Ytjnifcfcigcngaa
open Go.RowKit

/-- No table of math/bits is read. -/
def Tabbed (_ : World) : Prop := True

theorem hid {p : Prop} (h : p) : Hid p := h
theorem ret_int {k : IntKind} {a b : Int} (h : a = b) : Ending.returned (.int k a) = .returned (.int k b) := by rw [h]


set_option maxRecDepth 100000 in
theorem ones64 (s : Nat) (w : World) (h1 : s < 256) :
    Calls Try.prog 41 #[.int .u64 s] w fun e w' => e = .returned (.int .i64 (pop s)) ∧ w' = w := by
  go_enter Try.func41, Try.ntmps41
  go_wp2
  go_ret
  refine ⟨ret_int ?_, rfl⟩
  clear w
  revert s
  decide +kernel

theorem idx_fact : ∀ s : Nat, s < 256 → 0 < s → (IntKind.u64.wrap (bits BinOp.and IntKind.u64 (↑s) (IntKind.u64.wrap (-↑s)) * 285870213051353865) / 288230376151711744 < 64 ∧
    tab.getD (IntKind.u64.wrap (bits BinOp.and IntKind.u64 (↑s) (IntKind.u64.wrap (-↑s)) * 285870213051353865) / 288230376151711744).toNat 0 = tz s) ∧
    0 ≤ IntKind.u64.wrap (bits BinOp.and IntKind.u64 (↑s) (IntKind.u64.wrap (-↑s)) * 285870213051353865) / 288230376151711744 := by decide +kernel


theorem ones (s : Nat) (w : World) (h1 : s < 256) :
    Calls Try.prog 34 #[.int .u64 s] w fun e w' => e = .returned (.int .i64 (pop s)) ∧ w' = w := by
  go_enter Try.func34, Try.ntmps34
  go_wp2_with (go_at_call 41; refine (ones64 s _ h1).mono ?_; rintro e w' ⟨rfl, rfl⟩)
  go_ret
  exact ⟨rfl, rfl⟩
theorem size_any (s : Nat) (w : World) (h1 : s < 256) :
    Calls Try.prog 23 #[.int .i64 s] w fun e w' => e = .returned (.int .i64 (pop s)) ∧ w' = w := by
  go_enter Try.func23, Try.ntmps23
  go_wp2_with (go_at_call 34; refine (ones s _ h1).mono ?_; rintro e w' ⟨rfl, rfl⟩)
  go_ret
  exact ⟨rfl, rfl⟩
theorem wl_fact : ∀ s : Nat, s < 256 → 0 < s → bits BinOp.and IntKind.i64 s ((s : Int) - 1) = (wl s : Nat) := by decide +kernel
end Go.Proofs.Ytjnifcfcigcngaa
