/- axioms.isFlat, axioms.isHyperplane. -/
import Derived.Test.YtpmpfnbgjgjlgabQBelQ
import Derived.Test.YtpmpfnbgjgjlgabCloQ
namespace Go.Proofs.Ytpmpfnbgjgjlgab
open Go.RowKit

theorem isFlat_any (v : Value) (n : Nat) (r : Nat → Nat) (s : Nat) (w : World) (hn : n ≤ 8) (hs : s < 2 ^ n) (h : RkAt w v (2 ^ n) r) :
    Calls Try.prog 35 #[v, .int .i64 s] w fun e w' => e = .returned (.bool (flatB r n s)) ∧ Below w.heap.size w w' := by
  have HC := hid (closure_any v n r s w hn hs h)
  obtain ⟨b, off, cap, rfl, _, _⟩ := h
  unfold flatB
  generalize cl r n s = q at *
  generalize 2 ^ n = T at *
  go_enter Try.func35, Try.ntmps35
  go_wp2_with fail
  refine HC.out.mono ?_
  rintro e w' ⟨rfl, hb⟩
  have HB := hid hb
  clear hb
  go_wp2_with fail
  go_ret
  exact ⟨ret_bool (by rw [Bool.eq_iff_iff, beq_iff_eq, beq_iff_eq]; omega), HB.out⟩

end Go.Proofs.Ytpmpfnbgjgjlgab
