/- axioms.isIndependent, axioms.isCircuit. -/
import Derived.Deep.QuietTactic
import Derived.BigQuiet
import Derived.Test.YtomajfpincehnaaGiveQ
namespace Go.Proofs.Ytomajfpincehnaa
open Go.RowKit Go.Shelf
attribute [local go_sem] Oper.semAt_some

/-- v is a slice that holds r's numbers of 0 to T - 1. -/
def RkAt (w : World) (v : Value) (T : Nat) (r : Nat → Nat) : Prop := ∃ b off cap, v = .slice (some ⟨b, off, none⟩) T cap ∧ b < w.heap.size ∧ ∀ i, i < T → w.cell? ⟨b, off + i, none⟩ = some (.int .i64 (r i : Nat))
theorem RkAt.below {w w' : World} {v : Value} {T : Nat} {r : Nat → Nat} (h : RkAt w v T r) (hb : Below w.heap.size w w') : RkAt w' v T r := by
  obtain ⟨b, off, cap, rfl, h1, h2⟩ := h
  exact ⟨b, off, cap, rfl, Nat.lt_of_lt_of_le h1 hb.size, fun i hi => (hb.cell (p := ⟨b, off + i, none⟩) h1).trans (h2 i hi)⟩

set_option maxHeartbeats 1000000 in
theorem isInd_any (v : Value) (T : Nat) (r : Nat → Nat) (s : Nat) (w : World) (hT : T ≤ 256) (hs : s < T) (h : RkAt w v T r) :
    Calls Try.prog 29 #[v, .int .i64 s] w fun e w' => e = .returned (.bool (r s == pop s)) ∧ Below w.heap.size w w' := by
  obtain ⟨b, off, cap, rfl, h1, h2⟩ := h
  have hc := h2 s hs
  have HS := hid (fun w' => size_any s w' (by omega))
  clear h2
  go_enter Try.func29, Try.ntmps29
  go_wp2_with fail
  go_quiet ((go_at_call 26; refine (HS.out _).mono ?_; rintro e w' ⟨rfl, rfl⟩; exact ⟨rfl, _, rfl⟩))
  go_wp2_with fail
  go_ret
  exact ⟨ret_bool (by rw [Bool.eq_iff_iff, beq_iff_eq, beq_iff_eq]; omega), drewN_below _ _ _⟩

end Go.Proofs.Ytomajfpincehnaa
