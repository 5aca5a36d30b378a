/- What is taken away; turned signs. -/
import Derived.Test.YtkckipgmkjbkcaaDoorBgSQ
import Derived.Test.YtkckipgmkjbkcaaDoorWdGW
namespace Go.Proofs.YtkckipgmkjbkcaaDoor
open Go.RowKit

theorem sgn_neg (x : Int) : decide (-x < 0) = ((!decide (x < 0)) && decide (-x ≠ 0)) := by
  rcases Int.lt_trichotomy x 0 with h | h | h
  · simp [h]; omega
  · subst h; simp
  · have h1 : ¬ x < 0 := by omega
    have h2 : -x < 0 := by omega
    have h3 : -x ≠ 0 := by omega
    simp [h1, h3]
    omega
theorem one_fresh (w : World) (z : Nat) (hz : z < 4294967296) :
    Calls Tryd.prog 46 #[.slice (some ⟨w.heap.size, 0, none⟩) 1 1] (w.alloc (.cells #[.int .u32 z] 66)) fun e w' => ∃ v, e = .returned v ∧ Hid (Wd w' v z) ∧ Hid (Below w.heap.size w w') := by
  by_cases h0 : z = 0
  · subst h0
    exact one_trim w
  · have c0 : (w.alloc (.cells #[.int .u32 z] 66)).cell? ⟨w.heap.size, 0, none⟩ = some (.int .u32 z) := by rw [World.cell?_alloc_at _ _ _ _ rfl]; rfl
    have hxz : ((z : Int) == 0) = false := by rw [beq_eq_false_iff_ne]; omega
    have hb := (Below.refl _ w).alloc (Nat.le_refl _) (.cells #[.int .u32 z] 66)
    have hs := World.size_alloc w (.cells #[.int .u32 z] 66)
    revert c0 hb hs
    generalize w.alloc (.cells #[.int .u32 z] 66) = W
    intro c0 hb hs
    have HB := hid' hb
    go_enter Tryd.func46, Tryd.ntmps46
    go_wp2
    refine wp_loop_rounds 1 ?_
    rw [rounds_succ]
    go_wp2
    go_ret
    exact ⟨_, rfl, .inr ⟨by omega, hz, _, _, _, rfl, Nat.le_refl _, by omega, c0⟩, HB.out⟩
theorem trim0 (a : Option Addr) (cap : Nat) (w : World) :
    Calls Tryd.prog 46 #[.slice a 0 cap] w fun e w' => ∃ v, e = .returned v ∧ Wd w' v 0 ∧ w' = w := by
  go_enter Tryd.func46, Tryd.ntmps46
  go_wp2
  refine wp_loop_rounds 1 ?_
  rw [rounds_succ]
  go_wp2
  go_ret
  exact ⟨_, rfl, .inl ⟨rfl, _, _, rfl⟩, rfl⟩
set_option maxRecDepth 20000 in
set_option maxHeartbeats 2000000 in
theorem sub_any (x y : Nat) (v u : Value) (w : World) (hv : Wd w v x) (hu : Wd w u y) (hxy : y ≤ x) :
    Calls Tryd.prog 50 #[v, u] w fun e w' => ∃ u, e = .returned u ∧ Wd w' u (x - y) ∧ Below w.heap.size w w' := by
  have hmk1 : ∀ w, (Instr.makeSlice 48 (.int .i64 1) (.int .i64 1)).run Tryd.prog w = .ok (.slice (some ⟨w.heap.size, 0, none⟩) 1 1) (w.alloc (.cells #[.int .u32 0] 66)) := fun _ => by kernel_rfl
  have hmk0 : ∀ w, (Instr.makeSlice 48 (.int .i64 0) (.int .i64 0)).run Tryd.prog w = .ok (.slice (some ⟨w.heap.size, 0, none⟩) 0 0) (w.alloc (.cells #[] 66)) := fun _ => by kernel_rfl
  rcases hv with ⟨rfl, a, cap, rfl⟩ | ⟨h1, h2, b, off, cap, rfl, h4, h5, h6⟩
  · obtain rfl : y = 0 := by omega
    rcases hu with ⟨-, a', cap', rfl⟩ | ⟨k1, k2, b', off', cap', rfl, k4, k5, k6⟩
    · go_enter Tryd.func50, Tryd.ntmps50
      go_wp2_with fail
      refine wp_loop_rounds 1 ?_
      rw [rounds_succ]
      go_wp2_with fail
      refine (trim0 _ _ _).mono ?_
      rintro e w1 ⟨v, rfl, hv, rfl⟩
      have HV := hid' hv
      have HB := hid' ((Below.refl _ w).alloc (Nat.le_refl _) (.cells #[] 66))
      go_wp2_with fail
      go_ret
      exact ⟨v, rfl, HV.out, HB.out⟩
    · omega
  · rcases hu with ⟨rfl, a', cap', rfl⟩ | ⟨k1, k2, b', off', cap', rfl, k4, k5, k6⟩
    · go_enter Tryd.func50, Tryd.ntmps50
      go_wp2_with fail
      refine wp_loop_rounds 2 ?_
      rw [rounds_succ]
      go_wp2_with fail
      rw [rounds_succ]
      go_wp2_with fail
      refine (one_fresh w x h2).mono ?_
      rintro e w1 ⟨v, rfl, HV, HB⟩
      go_wp2_with fail
      go_ret
      exact ⟨v, rfl, HV.out, HB.out⟩
    · go_enter Tryd.func50, Tryd.ntmps50
      go_wp2_with fail
      refine wp_loop_rounds 2 ?_
      rw [rounds_succ]
      go_wp2_with fail
      rw [rounds_succ]
      go_wp2_with fail
      have OF := one_fresh w (x - y) (by omega)
      rw [show ((x - y : Nat) : Int) = (x : Int) - (y : Int) by omega] at OF
      refine OF.mono ?_
      rintro e w1 ⟨v, rfl, HV, HB⟩
      clear OF
      go_wp2_with fail
      go_ret
      exact ⟨v, rfl, HV.out, HB.out⟩
end Go.Proofs.YtkckipgmkjbkcaaDoor

namespace Go.Proofs.YtkckipgmkjbkcaaDoor
open Go.RowKit

theorem or_nought (x : Nat) (hx : x < 4294967296) : bits .or .u64 0 (x : Int) = (x : Int) := by
  show IntKind.u64.wrap ((BitVec.ofInt 64 ((0 : Nat) : Int) ||| BitVec.ofInt 64 (x : Int)).toNat : Int) = _
  rw [BitVec.toNat_or, ofInt_i64 0 (by omega), ofInt_i64 x (by omega), Nat.zero_or]
  simp [IntKind.wrap, IntKind.bits, IntKind.signed]
  omega
theorem one_fresh2 (w : World) (z : Nat) (hz : z < 4294967296) :
    Calls Tryd.prog 46 #[.slice (some ⟨w.heap.size, 0, none⟩) 1 1] (w.alloc (.cells #[.int .u32 z] 66)) fun e w' => ∃ v, e = .returned v ∧ Hid (Wd w' v z) ∧ Hid (Below w.heap.size w w') ∧ Hid (z = 0 ∨ ∃ cap, v = .slice (some ⟨w.heap.size, 0, none⟩) 1 cap) := by
  by_cases h0 : z = 0
  · subst h0
    exact (one_trim w).mono fun e w' ⟨v, h1, h2, h3⟩ => ⟨v, h1, h2, h3, .inl rfl⟩
  · have c0 : (w.alloc (.cells #[.int .u32 z] 66)).cell? ⟨w.heap.size, 0, none⟩ = some (.int .u32 z) := by rw [World.cell?_alloc_at _ _ _ _ rfl]; rfl
    have hxz : ((z : Int) == 0) = false := by rw [beq_eq_false_iff_ne]; omega
    have hb := (Below.refl _ w).alloc (Nat.le_refl _) (.cells #[.int .u32 z] 66)
    have hs := World.size_alloc w (.cells #[.int .u32 z] 66)
    revert c0 hb hs
    generalize w.alloc (.cells #[.int .u32 z] 66) = W
    intro c0 hb hs
    have HB := hid' hb
    go_enter Tryd.func46, Tryd.ntmps46
    go_wp2
    refine wp_loop_rounds 1 ?_
    rw [rounds_succ]
    go_wp2
    go_ret
    exact ⟨_, rfl, .inr ⟨by omega, hz, _, _, _, rfl, Nat.le_refl _, by omega, c0⟩, HB.out, .inr ⟨_, rfl⟩⟩
set_option maxRecDepth 20000 in
set_option maxHeartbeats 2000000 in
theorem small_any (x y z : Nat) (v : Value) (w : World) (hv : Wd w v x) (h0 : 0 < x) (hxy : x = 10 * y + z) (hz : z < 10) :
    Calls Tryd.prog 35 #[v, .int .u32 10] w fun e w' => ∃ u, e = .returned (.tuple #[u, .int .u32 (z : Int)]) ∧ Wd w' u y ∧ Below w.heap.size w w' ∧ (y = 0 ∨ ∃ cap, u = .slice (some ⟨w.heap.size, 0, none⟩) 1 cap) := by
  have hmk1 : ∀ w, (Instr.makeSlice 48 (.int .i64 1) (.int .i64 1)).run Tryd.prog w = .ok (.slice (some ⟨w.heap.size, 0, none⟩) 1 1) (w.alloc (.cells #[.int .u32 0] 66)) := fun _ => by kernel_rfl
  rcases hv with ⟨rfl, -⟩ | ⟨h1, h2, b, off, cap, rfl, h4, h5, h6⟩
  · omega
  · have hor := or_nought x h2
    have htd : (x : Int).tdiv 10 = (y : Int) := by rw [Int.tdiv_eq_ediv_of_nonneg (by omega)]; omega
    have htm : (x : Int).tmod 10 = (z : Int) := by rw [Int.tmod_eq_emod_of_nonneg (by omega)]; omega
    have hwr : IntKind.u64.wrap (y : Int) = (y : Int) := by simp [IntKind.wrap, IntKind.bits, IntKind.signed]; omega
    have hmo : (y : Int) % 4294967296 = (y : Int) := by omega
    have hz2 : (z : Int) % 4294967296 = z := by omega
    have OF := hid' (one_fresh2 w y (by omega))
    have e1 : (x : Int) / 10 = (y : Int) := by omega
    have e2 : (x : Int) % 10 = (z : Int) := by omega
    clear hxy
    go_enter Tryd.func35, Tryd.ntmps35
    go_wp2_with fail
    refine wp_loop_rounds 2 ?_
    rw [rounds_succ]
    go_wp2_with fail
    clear hor htd htm hwr hmo e1 e2
    rw [rounds_succ]
    go_wp2_with fail
    refine OF.out.mono ?_
    rintro e w1 ⟨u, rfl, HV, HB, HN⟩
    clear OF
    go_wp2_with fail
    refine bodyPost_ret (results_tmp2 rfl _ _ _) rfl ⟨_, rfl, HV.out, HB.out, HN.out⟩
end Go.Proofs.YtkckipgmkjbkcaaDoor
