/- rotaref.biggest, Lists; rotalaw.told. -/
import Derived.Test.YtokdldnbanpgbaaKLamMQ
import Derived.Test.YtokdldnbanpgbaaRefFamQ
namespace Go.Proofs.Ytokdldnbanpgbaa
open Go.RowKit

theorem told_bad0 (q : Int) (w : World) (hq : q ≠ 0) :
    Calls Try.prog 11 #[.agg #[.int .i64 0, .slice none 0 0], .int .i64 q, .agg #[.int .i64 0, .slice none 0 0], .int .i64 q] w fun e w' => e = .returned (.bool true) ∧ Below w.heap.size w w' := by
  have hq' : (q == 0) = false := by rw [beq_eq_false_iff_ne]; exact hq
  have hqq : (q == q) = true := by simp
  have HB0 : Hid (Below w.heap.size w ((w.alloc (.cells #[.int .i64 0, .slice none 0 0] 31)).alloc (.cells #[.int .i64 0, .slice none 0 0] 31))) := ((Below.refl _ _).alloc (Nat.le_refl _) _).alloc (by simp) _
  go_enter Try.func11, Try.ntmps11
  go_wp2_with fail
  go_ret
  exact ⟨rfl, HB0.out⟩
theorem told_good0 (n : Int) (u v : Value) (zs : List Int) (w : World) (h1 : Ints w u zs) (h2 : Ints w v zs) :
    Calls Try.prog 11 #[.agg #[.int .i64 n, u], .int .i64 0, .agg #[.int .i64 n, v], .int .i64 0] w fun e w' => e = .returned (.bool true) ∧ Below w.heap.size w w' := by
  have hB0 : Below w.heap.size w ((w.alloc (.cells #[.int .i64 n, u] 31)).alloc (.cells #[.int .i64 n, v] 31)) := ((Below.refl _ _).alloc (Nat.le_refl _) _).alloc (by simp) _
  have SM := hid (SameMatroid_any n n u v zs zs _ (h1.below hB0) (h2.below hB0))
  rw [show (decide (n = n) && decide (zs = zs)) = true by simp] at SM
  have HB0 := hid hB0
  obtain ⟨a, cap, rfl, _, _⟩ := h1
  obtain ⟨a2, cap2, rfl, _, _⟩ := h2
  clear hB0
  go_enter Try.func11, Try.ntmps11
  go_wp2_with fail
  refine SM.out.mono ?_
  rintro e w2 ⟨rfl, hb2⟩
  have HB := hid (HB0.out.trans (hb2.mono HB0.out.size))
  clear hb2
  go_wp2_with fail
  go_ret
  exact ⟨rfl, HB.out⟩
theorem setB_R (n s : Int) : setB n s = (setR n s == 0) := by
  unfold setB setR
  by_cases h : 0 ≤ n ∧ n ≤ 8 ∧ 0 ≤ s ∧ s < 2 ^ n.toNat
  · rw [if_pos h, decide_eq_true h]; rfl
  · rw [if_neg h, decide_eq_false h]; rfl

end Go.Proofs.Ytokdldnbanpgbaa
