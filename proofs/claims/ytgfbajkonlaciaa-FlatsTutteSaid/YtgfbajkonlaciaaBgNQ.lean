/- What is taken away; turned signs. -/
import Derived.Test.YtgfbajkonlaciaaBgSQ
namespace Go.Proofs.Ytgfbajkonlaciaa
open Go.RowKit

theorem sgn_neg (x : Int) : decide (-x < 0) = ((!decide (x < 0)) && decide (-x ≠ 0)) := by
  rcases Int.lt_trichotomy x 0 with h | h | h
  · simp [h]; omega
  · subst h; simp
  · have h1 : ¬ x < 0 := by omega
    have h2 : -x < 0 := by omega
    have h3 : -x ≠ 0 := by omega
    simp [h1, h3]
    omega
set_option maxRecDepth 20000 in
set_option maxHeartbeats 2000000 in
theorem Neg_s (zb xb : Nat) (x z0 : Int) (w : World) (hz : IntS w zb z0) (hx : IntS w xb x) :
    Calls Try.prog 10 #[.pointer (some ⟨zb, 0, none⟩), .pointer (some ⟨xb, 0, none⟩)] w fun e w' => e = .returned (.pointer (some ⟨zb, 0, none⟩)) ∧ IntS w' zb (-x) ∧ Save (fun k => k = zb) w w' := by
  obtain ⟨v, v1, v2⟩ := hx.abs
  have n1 := hx.neg
  have hxl : xb < w.heap.size := hx.lt
  have hna : (-x).natAbs = x.natAbs := Int.natAbs_neg x
  have TW : Hid (∀ w1, Below w.heap.size w w1 → Calls Try.prog 25 #[v] w1 fun e w' => ∃ t, e = .returned t ∧ Wd w' t (-x).natAbs ∧ Below w.heap.size w w') := fun w1 hb1 => (twin_any _ v w1 (v2.below hb1)).mono fun e w' ⟨t, h1, h2, h3⟩ => ⟨t, h1, by rw [hna]; exact h2, hb1.trans (h3.mono hb1.size)⟩
  have GV : Hid (∀ t w1, Wd w1 t (-x).natAbs → Below w.heap.size w w1 → Calls Try.prog 24 #[.pointer (some ⟨zb, 0, none⟩), .bool (!decide (x < 0)), t] w1 fun e w' => e = .returned (.pointer (some ⟨zb, 0, none⟩)) ∧ IntS w' zb (-x) ∧ Save (fun k => k = zb) w w') := fun t w1 ht hb1 => (give_s zb _ _ z0 t w1 (hz.below hb1) ht (sgn_neg x)).mono fun e w' h => ⟨h.1, h.2.1, (Save.of_below hb1).trans h.2.2⟩
  obtain ⟨va, vn, vc, rfl⟩ := v2.form
  generalize decide (x < 0) = bx at *
  clear hz hx v2 hna
  go_enter Try.func10, Try.ntmps10
  go_wp2_with fail
  go_region_with (first
    | (go_at_call 25; refine (TW.out _ (by first | exact (Below.refl _ _).drew | exact Below.refl _ _)).mono ?_; rintro e w4 ⟨t, rfl, ht, hb4⟩; have T4 := hid' ht; have K4 := hid' hb4; obtain ⟨ta, tn, tc, rfl⟩ := ht.form; have m1 := (hb4.cell (p := ⟨xb, 0, none⟩) hxl).trans n1; clear hb4 ht)
    | (go_at_call 24; refine (GV.out _ _ T4.out K4.out).mono ?_; rintro e w5 ⟨rfl, h5, h6⟩; have H5 := hid' h5; have H6 := hid' h6; clear h5 h6))
  all_goals go_wp2_with fail
  all_goals go_ret
  all_goals exact ⟨rfl, H5.out, H6.out⟩
theorem one_fresh (w : World) (z : Nat) (hz : z < 4294967296) :
    Calls Try.prog 64 #[.slice (some ⟨w.heap.size, 0, none⟩) 1 1] (w.alloc (.cells #[.int .u32 z] 80)) fun e w' => ∃ v, e = .returned v ∧ Hid (Wd w' v z) ∧ Hid (Below w.heap.size w w') := by
  by_cases h0 : z = 0
  · subst h0
    exact one_trim w
  · have c0 : (w.alloc (.cells #[.int .u32 z] 80)).cell? ⟨w.heap.size, 0, none⟩ = some (.int .u32 z) := by rw [World.cell?_alloc_at _ _ _ _ rfl]; rfl
    have hxz : ((z : Int) == 0) = false := by rw [beq_eq_false_iff_ne]; omega
    have hb := (Below.refl _ w).alloc (Nat.le_refl _) (.cells #[.int .u32 z] 80)
    have hs := World.size_alloc w (.cells #[.int .u32 z] 80)
    revert c0 hb hs
    generalize w.alloc (.cells #[.int .u32 z] 80) = W
    intro c0 hb hs
    have HB := hid' hb
    go_enter Try.func64, Try.ntmps64
    go_wp2
    refine wp_loop_rounds 1 ?_
    rw [rounds_succ]
    go_wp2
    go_ret
    exact ⟨_, rfl, .inr ⟨by omega, hz, _, _, _, rfl, Nat.le_refl _, by omega, c0⟩, HB.out⟩
theorem trim0 (a : Option Addr) (cap : Nat) (w : World) :
    Calls Try.prog 64 #[.slice a 0 cap] w fun e w' => ∃ v, e = .returned v ∧ Wd w' v 0 ∧ w' = w := by
  go_enter Try.func64, Try.ntmps64
  go_wp2
  refine wp_loop_rounds 1 ?_
  rw [rounds_succ]
  go_wp2
  go_ret
  exact ⟨_, rfl, .inl ⟨rfl, _, _, rfl⟩, rfl⟩
set_option maxRecDepth 20000 in
set_option maxHeartbeats 2000000 in
theorem sub_any (x y : Nat) (v u : Value) (w : World) (hv : Wd w v x) (hu : Wd w u y) (hxy : y ≤ x) :
    Calls Try.prog 68 #[v, u] w fun e w' => ∃ u, e = .returned u ∧ Wd w' u (x - y) ∧ Below w.heap.size w w' := by
  have hmk1 : ∀ w, (Instr.makeSlice 49 (.int .i64 1) (.int .i64 1)).run Try.prog w = .ok (.slice (some ⟨w.heap.size, 0, none⟩) 1 1) (w.alloc (.cells #[.int .u32 0] 80)) := fun _ => by kernel_rfl
  have hmk0 : ∀ w, (Instr.makeSlice 49 (.int .i64 0) (.int .i64 0)).run Try.prog w = .ok (.slice (some ⟨w.heap.size, 0, none⟩) 0 0) (w.alloc (.cells #[] 80)) := fun _ => by kernel_rfl
  rcases hv with ⟨rfl, a, cap, rfl⟩ | ⟨h1, h2, b, off, cap, rfl, h4, h5, h6⟩
  · obtain rfl : y = 0 := by omega
    rcases hu with ⟨-, a', cap', rfl⟩ | ⟨k1, k2, b', off', cap', rfl, k4, k5, k6⟩
    · go_enter Try.func68, Try.ntmps68
      go_wp2_with fail
      refine wp_loop_rounds 1 ?_
      rw [rounds_succ]
      go_wp2_with fail
      refine (trim0 _ _ _).mono ?_
      rintro e w1 ⟨v, rfl, hv, rfl⟩
      have HV := hid' hv
      have HB := hid' ((Below.refl _ w).alloc (Nat.le_refl _) (.cells #[] 80))
      go_wp2_with fail
      go_ret
      exact ⟨v, rfl, HV.out, HB.out⟩
    · omega
  · rcases hu with ⟨rfl, a', cap', rfl⟩ | ⟨k1, k2, b', off', cap', rfl, k4, k5, k6⟩
    · go_enter Try.func68, Try.ntmps68
      go_wp2_with fail
      refine wp_loop_rounds 2 ?_
      rw [rounds_succ]
      go_wp2_with fail
      rw [rounds_succ]
      go_wp2_with fail
      refine (one_fresh w x h2).mono ?_
      rintro e w1 ⟨v, rfl, HV, HB⟩
      go_wp2_with fail
      go_ret
      exact ⟨v, rfl, HV.out, HB.out⟩
    · go_enter Try.func68, Try.ntmps68
      go_wp2_with fail
      refine wp_loop_rounds 2 ?_
      rw [rounds_succ]
      go_wp2_with fail
      rw [rounds_succ]
      go_wp2_with fail
      have OF := one_fresh w (x - y) (by omega)
      rw [show ((x - y : Nat) : Int) = (x : Int) - (y : Int) by omega] at OF
      refine OF.mono ?_
      rintro e w1 ⟨v, rfl, HV, HB⟩
      clear OF
      go_wp2_with fail
      go_ret
      exact ⟨v, rfl, HV.out, HB.out⟩
end Go.Proofs.Ytgfbajkonlaciaa
