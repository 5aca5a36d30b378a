/- Contracts of the leaves of package sets (isSet, size, leastElement, withoutLeast) and of math/bits below them, for sets from 0 to 255. -/
import Derived.Test.YtmbkjiglbgnamaaProg
import Derived.Test.YtmbkjiglbgnamaaPlainAll
import Derived.WalkKit
import Derived.WalkSpells
import Derived.WalkLawsBesides
namespace Go.Proofs.Ytmbkjiglbgnamaa
open Go.RowKit

/-- No table of math/bits is read. -/
def Tabbed (_ : World) : Prop := True

theorem hid {p : Prop} (h : p) : Hid p := h
theorem ret_int {k : IntKind} {a b : Int} (h : a = b) : Ending.returned (.int k a) = .returned (.int k b) := by rw [h]


set_option maxRecDepth 100000 in
theorem ones64 (s : Nat) (w : World) (h1 : s < 256) :
    Calls Try.prog 28 #[.int .u64 s] w fun e w' => e = .returned (.int .i64 (pop s)) ∧ w' = w := by
  go_enter Try.func28, Try.ntmps28
  go_wp2
  go_ret
  refine ⟨ret_int ?_, rfl⟩
  clear w
  revert s
  decide +kernel

theorem idx_fact : ∀ s : Nat, s < 256 → 0 < s → (IntKind.u64.wrap (bits BinOp.and IntKind.u64 (↑s) (IntKind.u64.wrap (-↑s)) * 285870213051353865) / 288230376151711744 < 64 ∧
    tab.getD (IntKind.u64.wrap (bits BinOp.and IntKind.u64 (↑s) (IntKind.u64.wrap (-↑s)) * 285870213051353865) / 288230376151711744).toNat 0 = tz s) ∧
    0 ≤ IntKind.u64.wrap (bits BinOp.and IntKind.u64 (↑s) (IntKind.u64.wrap (-↑s)) * 285870213051353865) / 288230376151711744 := by decide +kernel


theorem ones (s : Nat) (w : World) (h1 : s < 256) :
    Calls Try.prog 22 #[.int .u64 s] w fun e w' => e = .returned (.int .i64 (pop s)) ∧ w' = w := by
  go_enter Try.func22, Try.ntmps22
  go_wp2_with (go_at_call 28; refine (ones64 s _ h1).mono ?_; rintro e w' ⟨rfl, rfl⟩)
  go_ret
  exact ⟨rfl, rfl⟩
theorem size_any (s : Nat) (w : World) (h1 : s < 256) :
    Calls Try.prog 12 #[.int .i64 s] w fun e w' => e = .returned (.int .i64 (pop s)) ∧ w' = w := by
  go_enter Try.func12, Try.ntmps12
  go_wp2_with (go_at_call 22; refine (ones s _ h1).mono ?_; rintro e w' ⟨rfl, rfl⟩)
  go_ret
  exact ⟨rfl, rfl⟩
theorem wl_fact : ∀ s : Nat, s < 256 → 0 < s → bits BinOp.and IntKind.i64 s ((s : Int) - 1) = (wl s : Nat) := by decide +kernel
end Go.Proofs.Ytmbkjiglbgnamaa
