/- Words of small numbers: a product. -/
import Derived.Test.YtkckipgmkjbkcaaDoorBigBW
namespace Go.Proofs.YtkckipgmkjbkcaaDoor
open Go.RowKit
theorem wrap_u64 (x : Nat) (h : x < 18446744073709551616) : IntKind.u64.wrap (x : Int) = x := by
  simp [IntKind.wrap, IntKind.bits, IntKind.signed]; omega
theorem two_made (w : World) (n : Nat) (p q : Int) (W : World) (hW : W = (((w.alloc (.cells #[.int .u32 0, .int .u32 0] 66)).drewN n).setCell ⟨w.heap.size, 0, none⟩ (.int .u32 p)).setCell ⟨w.heap.size, 1, none⟩ (.int .u32 q)) :
    W.cell? ⟨w.heap.size, 0, none⟩ = some (.int .u32 p) ∧ W.cell? ⟨w.heap.size, 0 + 1, none⟩ = some (.int .u32 q) ∧ w.heap.size < W.heap.size ∧ Below w.heap.size w W := by
  subst hW
  have c0 : (w.alloc (.cells #[.int .u32 0, .int .u32 0] 66)).cell? ⟨w.heap.size, 0, none⟩ = some (.int .u32 0) := by rw [World.cell?_alloc_at _ _ _ _ rfl]; rfl
  have c1 : (w.alloc (.cells #[.int .u32 0, .int .u32 0] 66)).cell? ⟨w.heap.size, 1, none⟩ = some (.int .u32 0) := by rw [World.cell?_alloc_at _ _ _ _ rfl]; rfl
  have d1 : (((w.alloc (.cells #[.int .u32 0, .int .u32 0] 66)).drewN n).setCell ⟨w.heap.size, 0, none⟩ (.int .u32 p)).cell? ⟨w.heap.size, 1, none⟩ = some (.int .u32 0) := by
    rw [World.cell?_setCell_other _ _ _ _ (by simp)]; exact c1
  refine ⟨?_, World.cell?_setCell_same _ _ _ d1, by simp, ?_⟩
  · rw [World.cell?_setCell_other _ _ _ _ (by simp)]
    exact World.cell?_setCell_same _ _ _ (show ((w.alloc (.cells #[.int .u32 0, .int .u32 0] 66)).drewN n).cell? _ = _ from c0)
  · exact ((((Below.refl _ w).alloc (Nat.le_refl _) _).trans (drewN_below _ _ n)).setCell (p := ⟨w.heap.size, 0, none⟩) (Nat.le_refl _) _).setCell (p := ⟨w.heap.size, 1, none⟩) (Nat.le_refl _) _
theorem two_trim (w : World) (n : Nat) (p q : Int) (z : Nat) (hz : z < 4294967296) (hp : p = z) (hq : q = 0) :
    Calls Tryd.prog 46 #[.slice (some ⟨w.heap.size, 0, none⟩) 2 2] ((((w.alloc (.cells #[.int .u32 0, .int .u32 0] 66)).drewN n).setCell ⟨w.heap.size, 0, none⟩ (.int .u32 p)).setCell ⟨w.heap.size, 1, none⟩ (.int .u32 q)) fun e w' => ∃ v, e = .returned v ∧ Hid (Wd w' v z) ∧ Hid (Below w.heap.size w w') := by
  obtain ⟨h0, h1, h2, h3⟩ := two_made w n p q _ rfl
  subst hp hq
  exact (trim2 _ _ _ z _ hz h2 h0 h1 (by omega)).mono fun _ _ ⟨v, a, b, c⟩ => ⟨v, a, by rw [c]; exact hid' b, by rw [c]; exact hid' h3⟩
set_option maxHeartbeats 1000000 in
theorem mul_any (x y : Nat) (v u : Value) (w : World) (hv : Wd w v x) (hu : Wd w u y) (hxy : x * y < 4294967296) :
    Calls Tryd.prog 31 #[v, u] w fun e w' => ∃ u, e = .returned u ∧ Wd w' u (x * y) ∧ Below w.heap.size w w' := by
  rcases hv with ⟨rfl, a, cap, rfl⟩ | ⟨h1, h2, b, off, cap, rfl, h4, h5, h6⟩
  · obtain ⟨a1, n1, c1, rfl⟩ := hu.form
    clear hu
    go_enter Tryd.func31, Tryd.ntmps31
    go_wp2
    go_ret
    exact ⟨_, rfl, .inl ⟨by simp, _, _, rfl⟩, Below.refl _ _⟩
  · rcases hu with ⟨rfl, a, cap, rfl⟩ | ⟨k1, k2, b', off', cap', rfl, k4, k5, k6⟩
    · go_enter Tryd.func31, Tryd.ntmps31
      go_wp2
      go_ret
      exact ⟨_, rfl, .inl ⟨by simp, _, _, rfl⟩, Below.refl _ _⟩
    · have hq : (x : Int) * (y : Int) / 4294967296 = 0 := by
        have : ((x * y : Nat) : Int) = (x : Int) * (y : Int) := by simp
        omega
      have hmk : ∀ w, (Instr.makeSlice 48 (.int .i64 2) (.int .i64 2)).run Tryd.prog w = .ok (.slice (some ⟨w.heap.size, 0, none⟩) 2 2) (w.alloc (.cells #[.int .u32 0, .int .u32 0] 66)) := fun _ => by kernel_rfl
      go_enter Tryd.func31, Tryd.ntmps31
      go_wp2
      refine wp_loop_rounds 2 ?_
      rw [rounds_succ]
      go_wp2
      refine wp_loop_rounds 2 ?_
      rw [rounds_succ]
      go_wp2
      go_quiet (fail)
      go_wp2
      rw [rounds_succ]
      go_wp2
      rw [rounds_succ]
      go_wp2_with fail
      refine (two_trim w _ _ 0 (x * y) hxy (Int.natCast_mul x y).symm rfl).mono ?_
      rintro e w1 ⟨v, rfl, HV, HB⟩
      go_wp2_with fail
      go_ret
      exact ⟨v, rfl, HV.out, HB.out⟩
theorem one_trim (w : World) :
    Calls Tryd.prog 46 #[.slice (some ⟨w.heap.size, 0, none⟩) 1 1] (w.alloc (.cells #[.int .u32 0] 66)) fun e w' => ∃ v, e = .returned v ∧ Hid (Wd w' v 0) ∧ Hid (Below w.heap.size w w') := by
  have c0 : (w.alloc (.cells #[.int .u32 0] 66)).cell? ⟨w.heap.size, 0, none⟩ = some (.int .u32 0) := by rw [World.cell?_alloc_at _ _ _ _ rfl]; rfl
  have HB := hid' ((Below.refl _ w).alloc (Nat.le_refl _) (.cells #[.int .u32 0] 66))
  generalize w.alloc (.cells #[.int .u32 0] 66) = W at *
  go_enter Tryd.func46, Tryd.ntmps46
  go_wp2
  refine wp_loop_rounds 2 ?_
  rw [rounds_succ]
  go_wp2
  rw [rounds_succ]
  go_wp2
  go_ret
  exact ⟨_, rfl, hid' (.inl ⟨rfl, _, _, rfl⟩), HB⟩
theorem two_fresh (w : World) (p : Int) (z : Nat) (hz : z < 4294967296) (hp : p = z) :
    Calls Tryd.prog 46 #[.slice (some ⟨w.heap.size, 0, none⟩) 2 2] (w.alloc (.cells #[.int .u32 p, .int .u32 0] 66)) fun e w' => ∃ v, e = .returned v ∧ Hid (Wd w' v z) ∧ Hid (Below w.heap.size w w') := by
  subst hp
  exact (trim2 w.heap.size 0 2 z (w.alloc (.cells #[.int .u32 z, .int .u32 0] 66)) hz (by simp) (by rw [World.cell?_alloc_at _ _ _ _ rfl]; rfl) (by rw [World.cell?_alloc_at _ _ _ _ rfl]; rfl) (by omega)).mono fun _ _ ⟨v, a, b, c⟩ => ⟨v, a, by rw [c]; exact hid' b, by rw [c]; exact hid' ((Below.refl _ _).alloc (Nat.le_refl _) _)⟩
set_option maxHeartbeats 2000000 in
theorem add_any (x y : Nat) (v u : Value) (w : World) (hv : Wd w v x) (hu : Wd w u y) (hxy : x + y < 4294967296) :
    Calls Tryd.prog 48 #[v, u] w fun e w' => ∃ u, e = .returned u ∧ Wd w' u (x + y) ∧ Below w.heap.size w w' := by
  have hmk1 : ∀ w, (Instr.makeSlice 48 (.int .i64 1) (.int .i64 1)).run Tryd.prog w = .ok (.slice (some ⟨w.heap.size, 0, none⟩) 1 1) (w.alloc (.cells #[.int .u32 0] 66)) := fun _ => by kernel_rfl
  have hmk : ∀ w, (Instr.makeSlice 48 (.int .i64 2) (.int .i64 2)).run Tryd.prog w = .ok (.slice (some ⟨w.heap.size, 0, none⟩) 2 2) (w.alloc (.cells #[.int .u32 0, .int .u32 0] 66)) := fun _ => by kernel_rfl
  rcases hv with ⟨rfl, a, cap, rfl⟩ | ⟨h1, h2, b, off, cap, rfl, h4, h5, h6⟩
  · rcases hu with ⟨rfl, a', cap', rfl⟩ | ⟨k1, k2, b', off', cap', rfl, k4, k5, k6⟩
    · go_enter Tryd.func48, Tryd.ntmps48
      go_wp2
      refine wp_loop_rounds 1 ?_
      rw [rounds_succ]
      go_wp2_with fail
      refine (one_trim w).mono ?_
      rintro e w1 ⟨v, rfl, HV, HB⟩
      go_wp2_with fail
      go_ret
      exact ⟨v, rfl, HV.out, HB.out⟩
    · have hq : (y : Int) / 4294967296 = 0 := by omega
      go_enter Tryd.func48, Tryd.ntmps48
      go_wp2
      refine wp_loop_rounds 2 ?_
      rw [rounds_succ]
      go_wp2
      rw [rounds_succ]
      go_wp2_with fail
      refine (two_fresh w _ (0 + y) hxy (by simp)).mono ?_
      rintro e w1 ⟨v, rfl, HV, HB⟩
      go_wp2_with fail
      go_ret
      exact ⟨v, rfl, HV.out, HB.out⟩
  · rcases hu with ⟨rfl, a', cap', rfl⟩ | ⟨k1, k2, b', off', cap', rfl, k4, k5, k6⟩
    · have hq : (x : Int) / 4294967296 = 0 := by omega
      go_enter Tryd.func48, Tryd.ntmps48
      go_wp2
      refine wp_loop_rounds 2 ?_
      rw [rounds_succ]
      go_wp2
      rw [rounds_succ]
      go_wp2_with fail
      refine (two_fresh w _ (x + 0) hxy (by simp)).mono ?_
      rintro e w1 ⟨v, rfl, HV, HB⟩
      go_wp2_with fail
      go_ret
      exact ⟨v, rfl, HV.out, HB.out⟩
    · have hq : ((x : Int) + (y : Int)) / 4294967296 = 0 := by omega
      go_enter Tryd.func48, Tryd.ntmps48
      go_wp2
      refine wp_loop_rounds 2 ?_
      rw [rounds_succ]
      go_wp2
      rw [rounds_succ]
      go_wp2_with fail
      refine (two_fresh w _ (x + y) hxy (by simp)).mono ?_
      rintro e w1 ⟨v, rfl, HV, HB⟩
      go_wp2_with fail
      go_ret
      exact ⟨v, rfl, HV.out, HB.out⟩
end Go.Proofs.YtkckipgmkjbkcaaDoor
