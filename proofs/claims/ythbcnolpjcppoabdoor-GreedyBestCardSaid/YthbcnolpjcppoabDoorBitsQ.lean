/- Contracts of the leaves of package sets (isSet, size, leastElement, withoutLeast) and of math/bits below them, for sets from 0 to 255. -/
import Derived.Test.YthbcnolpjcppoabDoorProg
import Derived.Test.YthbcnolpjcppoabDoorPlainAll
import Derived.WalkKit
import Derived.WalkSpells
import Derived.WalkLawsBesides
namespace Go.Proofs.YthbcnolpjcppoabDoor
open Go.RowKit

def Tabbed (w : World) : Prop := ∀ i : Nat, i < 64 → w.cell? ⟨1, i, none⟩ = some (.int .u8 (tab.getD i 0))

theorem hid {p : Prop} (h : p) : Hid p := h
theorem ret_int {k : IntKind} {a b : Int} (h : a = b) : Ending.returned (.int k a) = .returned (.int k b) := by rw [h]

theorem isSet_yes (s : Int) (w : World) (h0 : 0 ≤ s) (h1 : s ≤ 255) :
    Calls Tryd.prog 25 #[.int .i64 s] w fun e w' => e = .returned (.bool true) ∧ w' = w := by
  go_enter Tryd.func25, Tryd.ntmps25
  go_wp2
  go_ret
  exact ⟨rfl, rfl⟩

theorem isSet_no (s : Int) (w : World) (h : s < 0 ∨ 255 < s) :
    Calls Tryd.prog 25 #[.int .i64 s] w fun e w' => e = .returned (.bool false) ∧ w' = w := by
  rcases h with h | h
  · go_enter Tryd.func25, Tryd.ntmps25
    go_wp2
    go_ret
    exact ⟨rfl, rfl⟩
  · have h0 : 0 ≤ s := by omega
    have h2 : decide (s ≤ 255) = false := by simp; omega
    go_enter Tryd.func25, Tryd.ntmps25
    go_wp2
    go_ret
    exact ⟨rfl, rfl⟩

set_option maxRecDepth 100000 in
theorem ones64 (s : Nat) (w : World) (h1 : s < 256) :
    Calls Tryd.prog 46 #[.int .u64 s] w fun e w' => e = .returned (.int .i64 (pop s)) ∧ w' = w := by
  go_enter Tryd.func46, Tryd.ntmps46
  go_wp2
  go_ret
  refine ⟨ret_int ?_, rfl⟩
  clear w
  revert s
  decide +kernel

theorem idx_fact : ∀ s : Nat, s < 256 → 0 < s → (IntKind.u64.wrap (bits BinOp.and IntKind.u64 (↑s) (IntKind.u64.wrap (-↑s)) * 285870213051353865) / 288230376151711744 < 64 ∧
    tab.getD (IntKind.u64.wrap (bits BinOp.and IntKind.u64 (↑s) (IntKind.u64.wrap (-↑s)) * 285870213051353865) / 288230376151711744).toNat 0 = tz s) ∧
    0 ≤ IntKind.u64.wrap (bits BinOp.and IntKind.u64 (↑s) (IntKind.u64.wrap (-↑s)) * 285870213051353865) / 288230376151711744 := by decide +kernel

theorem tz64 (s : Nat) (w : World) (hw : Tabbed w) (h0 : 0 < s) (h1 : s < 256) :
    Calls Tryd.prog 48 #[.int .u64 s] w fun e w' => e = .returned (.int .i64 (tz s)) ∧ w' = w := by
  have hs : ((s : Int) == 0) = false := by rw [beq_eq_false_iff_ne]; omega
  obtain ⟨⟨f1, f2⟩, f3⟩ := idx_fact s h1 h0
  have hc := hw (IntKind.u64.wrap (bits BinOp.and IntKind.u64 (↑s) (IntKind.u64.wrap (-↑s)) * 285870213051353865) / 288230376151711744).toNat (by omega)
  rw [f2] at hc
  clear f2 hw
  have t8 : tz s ≤ 8 := by revert h1 ; clear hs hc f1 f3 h0; revert s; decide +kernel
  go_enter Tryd.func48, Tryd.ntmps48
  go_wp2
  go_ret
  exact ⟨rfl, rfl⟩

theorem ones (s : Nat) (w : World) (h1 : s < 256) :
    Calls Tryd.prog 38 #[.int .u64 s] w fun e w' => e = .returned (.int .i64 (pop s)) ∧ w' = w := by
  go_enter Tryd.func38, Tryd.ntmps38
  go_wp2_with (go_at_call 46; refine (ones64 s _ h1).mono ?_; rintro e w' ⟨rfl, rfl⟩)
  go_ret
  exact ⟨rfl, rfl⟩
theorem tzs (s : Nat) (w : World) (hw : Tabbed w) (h0 : 0 < s) (h1 : s < 256) :
    Calls Tryd.prog 39 #[.int .u64 s] w fun e w' => e = .returned (.int .i64 (tz s)) ∧ w' = w := by
  go_enter Tryd.func39, Tryd.ntmps39
  go_wp2_with (go_at_call 48; refine (tz64 s _ hw h0 h1).mono ?_; rintro e w' ⟨rfl, rfl⟩)
  go_ret
  exact ⟨rfl, rfl⟩
theorem size_any (s : Nat) (w : World) (h1 : s < 256) :
    Calls Tryd.prog 26 #[.int .i64 s] w fun e w' => e = .returned (.int .i64 (pop s)) ∧ w' = w := by
  go_enter Tryd.func26, Tryd.ntmps26
  go_wp2_with (go_at_call 38; refine (ones s _ h1).mono ?_; rintro e w' ⟨rfl, rfl⟩)
  go_ret
  exact ⟨rfl, rfl⟩
theorem least_any (s : Nat) (w : World) (hw : Tabbed w) (h0 : 0 < s) (h1 : s < 256) :
    Calls Tryd.prog 27 #[.int .i64 s] w fun e w' => e = .returned (.int .i64 (tz s)) ∧ w' = w := by
  go_enter Tryd.func27, Tryd.ntmps27
  go_wp2_with (go_at_call 39; refine (tzs s _ hw h0 h1).mono ?_; rintro e w' ⟨rfl, rfl⟩)
  go_ret
  exact ⟨rfl, rfl⟩
theorem wl_fact : ∀ s : Nat, s < 256 → 0 < s → bits BinOp.and IntKind.i64 s ((s : Int) - 1) = (wl s : Nat) := by decide +kernel
theorem without_any (s : Nat) (w : World) (h0 : 0 < s) (h1 : s < 256) :
    Calls Tryd.prog 28 #[.int .i64 s] w fun e w' => e = .returned (.int .i64 (wl s)) ∧ w' = w := by
  go_enter Tryd.func28, Tryd.ntmps28
  go_wp2
  go_ret
  exact ⟨ret_int (wl_fact s h1 h0), rfl⟩
end Go.Proofs.YthbcnolpjcppoabDoor
