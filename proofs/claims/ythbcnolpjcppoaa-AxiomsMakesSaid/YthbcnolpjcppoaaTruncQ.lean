/- minors.Truncate. -/
import Derived.Test.YthbcnolpjcppoaaWithoutQ
import Derived.Test.YthbcnolpjcppoaaPlainAll
import Derived.Deep.RegionHeld3
namespace Go.Proofs.Ythbcnolpjcppoaa
open Go.RowKit

theorem mInd_any (v : Value) (T : Nat) (r : Nat → Nat) (s : Nat) (w : World) (hT : T ≤ 256) (hs : s < T) (h : RkAt w v T r) :
    Calls Try.prog 59 #[v, .int .i64 s] w fun e w' => e = .returned (.bool (r s == pop s)) ∧ Below w.heap.size w w' := by
  obtain ⟨b, off, cap, rfl, h1, h2⟩ := h
  have hc := h2 s hs
  have HS := hid (fun w' => size_any s w' (by omega))
  clear h2
  go_enter Try.func59, Try.ntmps59
  go_wp2_with fail
  go_quiet ((go_at_call 80; refine (HS.out _).mono ?_; rintro e w' ⟨rfl, rfl⟩; exact ⟨rfl, _, rfl⟩))
  go_wp2_with fail
  go_ret
  exact ⟨ret_bool (by rw [Bool.eq_iff_iff, beq_iff_eq, beq_iff_eq]; omega), drewN_below _ _ _⟩
end Go.Proofs.Ythbcnolpjcppoaa
