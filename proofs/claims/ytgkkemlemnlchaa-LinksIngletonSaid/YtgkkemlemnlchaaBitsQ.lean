/- Contracts of the leaves of package sets (isSet, size, leastElement, withoutLeast) and of math/bits below them, for sets from 0 to 255. -/
import Derived.Test.YtgkkemlemnlchaaProg
import Derived.Test.YtgkkemlemnlchaaPlainAll
import Derived.WalkKit
import Derived.WalkSpells
import Derived.WalkLawsBesides
namespace Go.Proofs.Ytgkkemlemnlchaa
open Go.RowKit

/-- No table of math/bits is read. -/
def Tabbed (_ : World) : Prop := True

theorem hid {p : Prop} (h : p) : Hid p := h
theorem ret_int {k : IntKind} {a b : Int} (h : a = b) : Ending.returned (.int k a) = .returned (.int k b) := by rw [h]


set_option maxRecDepth 100000 in
theorem ones64 (s : Nat) (w : World) (h1 : s < 256) :
    Calls Try.prog 36 #[.int .u64 s] w fun e w' => e = .returned (.int .i64 (pop s)) ∧ w' = w := by
  go_enter Try.func36, Try.ntmps36
  go_wp2
  go_ret
  refine ⟨ret_int ?_, rfl⟩
  clear w
  revert s
  decide +kernel

theorem idx_fact : ∀ s : Nat, s < 256 → 0 < s → (IntKind.u64.wrap (bits BinOp.and IntKind.u64 (↑s) (IntKind.u64.wrap (-↑s)) * 285870213051353865) / 288230376151711744 < 64 ∧
    tab.getD (IntKind.u64.wrap (bits BinOp.and IntKind.u64 (↑s) (IntKind.u64.wrap (-↑s)) * 285870213051353865) / 288230376151711744).toNat 0 = tz s) ∧
    0 ≤ IntKind.u64.wrap (bits BinOp.and IntKind.u64 (↑s) (IntKind.u64.wrap (-↑s)) * 285870213051353865) / 288230376151711744 := by decide +kernel


theorem ones (s : Nat) (w : World) (h1 : s < 256) :
    Calls Try.prog 26 #[.int .u64 s] w fun e w' => e = .returned (.int .i64 (pop s)) ∧ w' = w := by
  go_enter Try.func26, Try.ntmps26
  go_wp2_with (go_at_call 36; refine (ones64 s _ h1).mono ?_; rintro e w' ⟨rfl, rfl⟩)
  go_ret
  exact ⟨rfl, rfl⟩
theorem size_any (s : Nat) (w : World) (h1 : s < 256) :
    Calls Try.prog 16 #[.int .i64 s] w fun e w' => e = .returned (.int .i64 (pop s)) ∧ w' = w := by
  go_enter Try.func16, Try.ntmps16
  go_wp2_with (go_at_call 26; refine (ones s _ h1).mono ?_; rintro e w' ⟨rfl, rfl⟩)
  go_ret
  exact ⟨rfl, rfl⟩
theorem wl_fact : ∀ s : Nat, s < 256 → 0 < s → bits BinOp.and IntKind.i64 s ((s : Int) - 1) = (wl s : Nat) := by decide +kernel
theorem without_any (s : Nat) (w : World) (h0 : 0 < s) (h1 : s < 256) :
    Calls Try.prog 43 #[.int .i64 s] w fun e w' => e = .returned (.int .i64 (wl s)) ∧ w' = w := by
  go_enter Try.func43, Try.ntmps43
  go_wp2
  go_ret
  exact ⟨ret_int (wl_fact s h1 h0), rfl⟩
end Go.Proofs.Ytgkkemlemnlchaa
