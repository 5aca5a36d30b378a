/- Contracts of the leaves of package sets (isSet, size, leastElement, withoutLeast) and of math/bits below them, for sets from 0 to 255. -/
import Derived.Test.YtfajbmcdkhgipaaDoorProg
import Derived.Test.YtfajbmcdkhgipaaDoorPlainAll
import Derived.WalkKit
import Derived.WalkSpells
import Derived.WalkLawsBesides
namespace Go.Proofs.YtfajbmcdkhgipaaDoor
open Go.RowKit

def Tabbed (w : World) : Prop := ∀ i : Nat, i < 64 → w.cell? ⟨2, i, none⟩ = some (.int .u8 (tab.getD i 0))

theorem hid {p : Prop} (h : p) : Hid p := h
theorem ret_int {k : IntKind} {a b : Int} (h : a = b) : Ending.returned (.int k a) = .returned (.int k b) := by rw [h]


set_option maxRecDepth 100000 in
theorem ones64 (s : Nat) (w : World) (h1 : s < 256) :
    Calls Tryd.prog 64 #[.int .u64 s] w fun e w' => e = .returned (.int .i64 (pop s)) ∧ w' = w := by
  go_enter Tryd.func64, Tryd.ntmps64
  go_wp2
  go_ret
  refine ⟨ret_int ?_, rfl⟩
  clear w
  revert s
  decide +kernel

theorem idx_fact : ∀ s : Nat, s < 256 → 0 < s → (IntKind.u64.wrap (bits BinOp.and IntKind.u64 (↑s) (IntKind.u64.wrap (-↑s)) * 285870213051353865) / 288230376151711744 < 64 ∧
    tab.getD (IntKind.u64.wrap (bits BinOp.and IntKind.u64 (↑s) (IntKind.u64.wrap (-↑s)) * 285870213051353865) / 288230376151711744).toNat 0 = tz s) ∧
    0 ≤ IntKind.u64.wrap (bits BinOp.and IntKind.u64 (↑s) (IntKind.u64.wrap (-↑s)) * 285870213051353865) / 288230376151711744 := by decide +kernel

theorem tz64 (s : Nat) (w : World) (hw : Tabbed w) (h0 : 0 < s) (h1 : s < 256) :
    Calls Tryd.prog 68 #[.int .u64 s] w fun e w' => e = .returned (.int .i64 (tz s)) ∧ w' = w := by
  have hs : ((s : Int) == 0) = false := by rw [beq_eq_false_iff_ne]; omega
  obtain ⟨⟨f1, f2⟩, f3⟩ := idx_fact s h1 h0
  have hc := hw (IntKind.u64.wrap (bits BinOp.and IntKind.u64 (↑s) (IntKind.u64.wrap (-↑s)) * 285870213051353865) / 288230376151711744).toNat (by omega)
  rw [f2] at hc
  clear f2 hw
  have t8 : tz s ≤ 8 := by revert h1 ; clear hs hc f1 f3 h0; revert s; decide +kernel
  go_enter Tryd.func68, Tryd.ntmps68
  go_wp2
  go_ret
  exact ⟨rfl, rfl⟩

theorem ones (s : Nat) (w : World) (h1 : s < 256) :
    Calls Tryd.prog 54 #[.int .u64 s] w fun e w' => e = .returned (.int .i64 (pop s)) ∧ w' = w := by
  go_enter Tryd.func54, Tryd.ntmps54
  go_wp2_with (go_at_call 64; refine (ones64 s _ h1).mono ?_; rintro e w' ⟨rfl, rfl⟩)
  go_ret
  exact ⟨rfl, rfl⟩
theorem tzs (s : Nat) (w : World) (hw : Tabbed w) (h0 : 0 < s) (h1 : s < 256) :
    Calls Tryd.prog 62 #[.int .u64 s] w fun e w' => e = .returned (.int .i64 (tz s)) ∧ w' = w := by
  go_enter Tryd.func62, Tryd.ntmps62
  go_wp2_with (go_at_call 68; refine (tz64 s _ hw h0 h1).mono ?_; rintro e w' ⟨rfl, rfl⟩)
  go_ret
  exact ⟨rfl, rfl⟩
theorem size_any (s : Nat) (w : World) (h1 : s < 256) :
    Calls Tryd.prog 42 #[.int .i64 s] w fun e w' => e = .returned (.int .i64 (pop s)) ∧ w' = w := by
  go_enter Tryd.func42, Tryd.ntmps42
  go_wp2_with (go_at_call 54; refine (ones s _ h1).mono ?_; rintro e w' ⟨rfl, rfl⟩)
  go_ret
  exact ⟨rfl, rfl⟩
theorem wl_fact : ∀ s : Nat, s < 256 → 0 < s → bits BinOp.and IntKind.i64 s ((s : Int) - 1) = (wl s : Nat) := by decide +kernel
theorem without_any (s : Nat) (w : World) (h0 : 0 < s) (h1 : s < 256) :
    Calls Tryd.prog 72 #[.int .i64 s] w fun e w' => e = .returned (.int .i64 (wl s)) ∧ w' = w := by
  go_enter Tryd.func72, Tryd.ntmps72
  go_wp2
  go_ret
  exact ⟨ret_int (wl_fact s h1 h0), rfl⟩
end Go.Proofs.YtfajbmcdkhgipaaDoor
