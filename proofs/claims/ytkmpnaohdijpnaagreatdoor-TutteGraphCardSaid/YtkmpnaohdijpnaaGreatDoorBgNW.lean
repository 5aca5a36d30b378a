/- rotabig's Int with a sign, at numbers of one word: give, SetInt64, NewInt. -/
import Derived.Test.YtkmpnaohdijpnaaGreatDoorBigCW
import Derived.Test.YtkmpnaohdijpnaaGreatDoorOwnPW
import Derived.Deep.RegionHeld3
namespace Go.Proofs.YtkmpnaohdijpnaaGreatDoor
open Go.RowKit

/-- In a block lies the whole number z. -/
structure IntS (w : World) (zb : Nat) (z : Int) : Prop where
  neg : w.cell? ⟨zb, 0, none⟩ = some (.bool (decide (z < 0)))
  abs : ∃ v, w.cell? ⟨zb, 1, none⟩ = some v ∧ Wd w v z.natAbs
  fz0 : w.frozen? ⟨zb, 0, none⟩ = false
  fz1 : w.frozen? ⟨zb, 1, none⟩ = false
theorem IntS.lt {w : World} {zb : Nat} {z : Int} (h : IntS w zb z) : zb < w.heap.size := World.block_lt_of_cell? w _ h.neg
theorem IntS.below {w w' : World} {zb : Nat} {z : Int} (h : IntS w zb z) (hb : Below w.heap.size w w') : IntS w' zb z := by
  have hl := h.lt
  obtain ⟨v, h1, h2⟩ := h.abs
  exact ⟨(hb.cell (p := ⟨zb, 0, none⟩) hl).trans h.neg, ⟨v, (hb.cell (p := ⟨zb, 1, none⟩) hl).trans h1, h2.below hb⟩, (hb.frozen (p := ⟨zb, 0, none⟩) hl).trans h.fz0, (hb.frozen (p := ⟨zb, 1, none⟩) hl).trans h.fz1⟩
theorem fin_s {w : World} {zb : Nat} {z z0 : Int} {v : Value} {b : Bool} (hz : IntS w zb z0) (hv : Wd w v z.natAbs) (hb : b = decide (z < 0)) : IntS ((w.setCell ⟨zb, 1, none⟩ v).setCell ⟨zb, 0, none⟩ (.bool b)) zb z ∧ Save (fun k => k = zb) w ((w.setCell ⟨zb, 1, none⟩ v).setCell ⟨zb, 0, none⟩ (.bool b)) := by
  obtain ⟨v0, hv0, hw0⟩ := hz.abs
  obtain ⟨a0, n0, c0, rfl⟩ := hw0.form
  have e1 : (w.setCell ⟨zb, 1, none⟩ v).cell? ⟨zb, 0, none⟩ = some (.bool (decide (z0 < 0))) := by
    rw [World.cell?_setCell_other _ _ _ _ (by simp)]; exact hz.neg
  have W1 := hv.set (u := v) hv0 (by intros; simp)
  have W2 := W1.set (u := .bool b) e1 (by intros; simp)
  refine ⟨⟨?_, ⟨v, ?_, W2⟩, ?_, ?_⟩, ?_⟩
  · rw [← hb]; exact World.cell?_setCell_same _ _ _ e1
  · rw [World.cell?_setCell_other _ _ _ _ (by simp)]
    exact World.cell?_setCell_same _ _ _ hv0
  · rw [World.frozen?_setCell, World.frozen?_setCell]; exact hz.fz0
  · rw [World.frozen?_setCell, World.frozen?_setCell]; exact hz.fz1
  · exact (Save.setCell (X := fun k => k = zb) (Save.refl _ w) (p := ⟨zb, 1, none⟩) (.inl rfl) _).setCell (p := ⟨zb, 0, none⟩) (.inl rfl) _
theorem sgn_mul (x y : Int) : decide (x * y < 0) = ((decide (x < 0) != decide (y < 0)) && decide (x * y ≠ 0)) := by
  rcases Int.lt_trichotomy x 0 with hx | hx | hx <;> rcases Int.lt_trichotomy y 0 with hy | hy | hy
  · have := Int.mul_pos_of_neg_of_neg hx hy
    simp [hx, hy]; omega
  · subst hy; simp
  · have := Int.mul_neg_of_neg_of_pos hx hy
    have h2 : ¬ y < 0 := by omega
    have h3 : x * y ≠ 0 := by omega
    rw [decide_eq_true this, decide_eq_true hx, decide_eq_false h2, decide_eq_true h3]; rfl
  · subst hx; simp
  · subst hx; simp
  · subst hx; simp
  · have := Int.mul_neg_of_pos_of_neg hx hy
    have h2 : ¬ x < 0 := by omega
    have h3 : x * y ≠ 0 := by omega
    rw [decide_eq_true this, decide_eq_true hy, decide_eq_false h2, decide_eq_true h3]; rfl
  · subst hy; simp
  · have := Int.mul_pos hx hy
    have h2 : ¬ x < 0 := by omega
    have h3 : ¬ y < 0 := by omega
    have h4 : ¬ x * y < 0 := by omega
    rw [decide_eq_false h2, decide_eq_false h3, decide_eq_false h4]; rfl
set_option maxHeartbeats 400000 in
theorem give_s (zb : Nat) (nb : Bool) (z z0 : Int) (v : Value) (w : World) (hz : IntS w zb z0) (hv : Wd w v z.natAbs) (hs : decide (z < 0) = (nb && decide (z ≠ 0))) :
    Calls Tryz.prog 55 #[.pointer (some ⟨zb, 0, none⟩), .bool nb, v] w fun e w' => e = .returned (.pointer (some ⟨zb, 0, none⟩)) ∧ IntS w' zb z ∧ Save (fun k => k = zb) w w' := by
  have F := hid' (fun b hb => fin_s (b := b) hz hv hb)
  obtain ⟨v0, hv0, hw0⟩ := hz.abs
  obtain ⟨a0, n0, c0, rfl⟩ := hw0.form
  have hn := hz.neg
  have f0 := hz.fz0
  have f1 := hz.fz1
  rcases hv with ⟨h0, a, cap, rfl⟩ | ⟨h1, -, b, off, cap, rfl, -⟩
  · have G := hid' (F.out false (by have h7 : z = 0 := (by omega); rw [h7]; rfl))
    clear F hz hw0
    cases nb
    · go_enter Tryz.func55, Tryz.ntmps55
      go_wp2
      go_ret
      exact ⟨rfl, G.out⟩
    · go_enter Tryz.func55, Tryz.ntmps55
      go_wp2
      go_ret
      exact ⟨rfl, G.out⟩
  · have hz1 : z ≠ 0 := by omega
    cases nb
    · have G := hid' (F.out false (by rw [hs]; simp))
      clear F hz hw0
      go_enter Tryz.func55, Tryz.ntmps55
      go_wp2
      go_ret
      exact ⟨rfl, G.out⟩
    · have G := hid' (F.out true (by rw [hs]; simp [hz1]))
      clear F hz hw0
      go_enter Tryz.func55, Tryz.ntmps55
      go_wp2
      go_ret
      exact ⟨rfl, G.out⟩
set_option maxHeartbeats 800000 in
theorem setInt_s (zb : Nat) (z z0 : Int) (w : World) (hz : IntS w zb z0) (hb : z.natAbs < 4294967296) :
    Calls Tryz.prog 57 #[.pointer (some ⟨zb, 0, none⟩), .int .i64 z] w fun e w' => e = .returned (.pointer (some ⟨zb, 0, none⟩)) ∧ IntS w' zb z ∧ Save (fun k => k = zb) w w' := by
  by_cases hn : z < 0
  · obtain ⟨k, rfl⟩ : ∃ k : Nat, z = -(k : Int) := ⟨z.natAbs, by omega⟩
    have hk : 0 < k := by omega
    have e1 : IntKind.u64.wrap (-(k : Int)) = 18446744073709551616 - (k : Int) := by
      simp [IntKind.wrap, IntKind.bits, IntKind.signed]; omega
    have e2 : IntKind.u64.wrap (-(18446744073709551616 - (k : Int))) = (k : Int) := by
      simp [IntKind.wrap, IntKind.bits, IntKind.signed]; omega
    have W := hid' (words_any k w (by omega))
    have GV : Hid (∀ v w1, Wd w1 v k → Below w.heap.size w w1 → Calls Tryz.prog 55 #[.pointer (some ⟨zb, 0, none⟩), .bool true, v] w1 fun e w' => e = .returned (.pointer (some ⟨zb, 0, none⟩)) ∧ IntS w' zb (-(k : Int)) ∧ Save (fun k => k = zb) w w') := fun v w1 hv hb1 => (give_s zb true _ z0 v w1 (hz.below hb1) (by rw [show (-(k : Int)).natAbs = k by omega]; exact hv) (by rw [decide_eq_true (show -(k : Int) < 0 by omega), decide_eq_true (show -(k : Int) ≠ 0 by omega)]; rfl)).mono fun e w' h9 => ⟨h9.1, h9.2.1, (Save.of_below hb1).trans h9.2.2⟩
    have hlt : (-(k : Int) < 0) = True := by simp; omega
    clear hz hb hn
    go_enter Tryz.func57, Tryz.ntmps57
    go_wp2_with fail
    refine W.out.mono ?_
    rintro e w1 ⟨v, rfl, hv, hb1⟩
    have G := hid' (GV.out v w1 hv hb1)
    clear hv hb1 GV W
    go_wp2_with fail
    refine G.out.mono ?_
    rintro e w2 ⟨rfl, h2, h3⟩
    have H2 := hid' h2
    have H3 := hid' h3
    clear h2 h3 G
    go_wp2_with fail
    go_ret
    exact ⟨rfl, H2.out, H3.out⟩
  · obtain ⟨k, rfl⟩ : ∃ k : Nat, z = (k : Int) := ⟨z.natAbs, by omega⟩
    have e1 : IntKind.u64.wrap (k : Int) = (k : Int) := by
      simp [IntKind.wrap, IntKind.bits, IntKind.signed]; omega
    have W := hid' (words_any k w (by omega))
    have GV : Hid (∀ v w1, Wd w1 v k → Below w.heap.size w w1 → Calls Tryz.prog 55 #[.pointer (some ⟨zb, 0, none⟩), .bool false, v] w1 fun e w' => e = .returned (.pointer (some ⟨zb, 0, none⟩)) ∧ IntS w' zb (k : Int) ∧ Save (fun k => k = zb) w w') := fun v w1 hv hb1 => (give_s zb false _ z0 v w1 (hz.below hb1) (by rw [show (k : Int).natAbs = k by omega]; exact hv) (by simp)).mono fun e w' h9 => ⟨h9.1, h9.2.1, (Save.of_below hb1).trans h9.2.2⟩
    have hlt : ¬ ((k : Int) < 0) := by omega
    clear hz hb hn
    go_enter Tryz.func57, Tryz.ntmps57
    go_wp2_with fail
    refine W.out.mono ?_
    rintro e w1 ⟨v, rfl, hv, hb1⟩
    have G := hid' (GV.out v w1 hv hb1)
    clear hv hb1 GV W
    go_wp2_with fail
    refine G.out.mono ?_
    rintro e w2 ⟨rfl, h2, h3⟩
    have H2 := hid' h2
    have H3 := hid' h3
    clear h2 h3 G
    go_wp2_with fail
    go_ret
    exact ⟨rfl, H2.out, H3.out⟩
/-- A new number. -/
theorem new_s (w : World) : IntS (w.alloc (.cells #[.bool false, .slice none 0 0] 67)) w.heap.size 0 := by
  have h := World.alloc_heap_new w (.cells #[.bool false, .slice none 0 0] 67)
  generalize w.alloc (.cells #[.bool false, .slice none 0 0] 67) = W at h ⊢
  refine ⟨by simp [World.cell?, h], ⟨.slice none 0 0, by simp [World.cell?, h], .inl ⟨rfl, _, _, rfl⟩⟩, by simp [World.frozen?, h], by simp [World.frozen?, h]⟩
set_option maxHeartbeats 400000 in
theorem NewInt_s (z : Int) (w : World) (hb : z.natAbs < 4294967296) :
    Calls Tryz.prog 32 #[.int .i64 z] w fun e w' => ∃ zb, e = .returned (.pointer (some ⟨zb, 0, none⟩)) ∧ w.heap.size ≤ zb ∧ IntS w' zb z ∧ Below w.heap.size w w' := by
  have S := hid' (setInt_s w.heap.size z 0 _ (new_s w) hb)
  have hb0 := (Below.refl _ w).alloc (Nat.le_refl _) (.cells #[.bool false, .slice none 0 0] 67)
  have HB0 := hid' hb0
  clear hb0
  go_enter Tryz.func32, Tryz.ntmps32
  go_wp2_with fail
  refine S.out.mono ?_
  rintro e w1 ⟨rfl, h1, h2⟩
  have H1 := hid' h1
  have H2 := hid' (h2.below HB0.out HB0.out.size (fun k e => by omega))
  clear h1 h2 S
  go_wp2_with fail
  go_ret
  exact ⟨_, rfl, Nat.le_refl _, H1.out, H2.out⟩
end Go.Proofs.YtkmpnaohdijpnaaGreatDoor

namespace Go.Proofs.YtkmpnaohdijpnaaGreatDoor
open Go.RowKit

theorem sgn_neg (x : Int) : decide (-x < 0) = ((!decide (x < 0)) && decide (-x ≠ 0)) := by
  rcases Int.lt_trichotomy x 0 with h | h | h
  · simp [h]; omega
  · subst h; simp
  · have h1 : ¬ x < 0 := by omega
    have h2 : -x < 0 := by omega
    have h3 : -x ≠ 0 := by omega
    simp [h1, h3]
    omega
theorem one_fresh (w : World) (z : Nat) (hz : z < 4294967296) :
    Calls Tryz.prog 79 #[.slice (some ⟨w.heap.size, 0, none⟩) 1 1] (w.alloc (.cells #[.int .u32 z] 100)) fun e w' => ∃ v, e = .returned v ∧ Hid (Wd w' v z) ∧ Hid (Below w.heap.size w w') := by
  by_cases h0 : z = 0
  · subst h0
    exact one_trim w
  · have c0 : (w.alloc (.cells #[.int .u32 z] 100)).cell? ⟨w.heap.size, 0, none⟩ = some (.int .u32 z) := by rw [World.cell?_alloc_at _ _ _ _ rfl]; rfl
    have hxz : ((z : Int) == 0) = false := by rw [beq_eq_false_iff_ne]; omega
    have hb := (Below.refl _ w).alloc (Nat.le_refl _) (.cells #[.int .u32 z] 100)
    have hs := World.size_alloc w (.cells #[.int .u32 z] 100)
    revert c0 hb hs
    generalize w.alloc (.cells #[.int .u32 z] 100) = W
    intro c0 hb hs
    have HB := hid' hb
    go_enter Tryz.func79, Tryz.ntmps79
    go_wp2
    refine wp_loop_rounds 1 ?_
    rw [rounds_succ]
    go_wp2
    go_ret
    exact ⟨_, rfl, .inr ⟨by omega, hz, _, _, _, rfl, Nat.le_refl _, by omega, c0⟩, HB.out⟩
theorem trim0 (a : Option Addr) (cap : Nat) (w : World) :
    Calls Tryz.prog 79 #[.slice a 0 cap] w fun e w' => ∃ v, e = .returned v ∧ Wd w' v 0 ∧ w' = w := by
  go_enter Tryz.func79, Tryz.ntmps79
  go_wp2
  refine wp_loop_rounds 1 ?_
  rw [rounds_succ]
  go_wp2
  go_ret
  exact ⟨_, rfl, .inl ⟨rfl, _, _, rfl⟩, rfl⟩
set_option maxRecDepth 20000 in
set_option maxHeartbeats 2000000 in
theorem sub_any (x y : Nat) (v u : Value) (w : World) (hv : Wd w v x) (hu : Wd w u y) (hxy : y ≤ x) :
    Calls Tryz.prog 83 #[v, u] w fun e w' => ∃ u, e = .returned u ∧ Wd w' u (x - y) ∧ Below w.heap.size w w' := by
  have hmk1 : ∀ w, (Instr.makeSlice 65 (.int .i64 1) (.int .i64 1)).run Tryz.prog w = .ok (.slice (some ⟨w.heap.size, 0, none⟩) 1 1) (w.alloc (.cells #[.int .u32 0] 100)) := fun _ => by kernel_rfl
  have hmk0 : ∀ w, (Instr.makeSlice 65 (.int .i64 0) (.int .i64 0)).run Tryz.prog w = .ok (.slice (some ⟨w.heap.size, 0, none⟩) 0 0) (w.alloc (.cells #[] 100)) := fun _ => by kernel_rfl
  rcases hv with ⟨rfl, a, cap, rfl⟩ | ⟨h1, h2, b, off, cap, rfl, h4, h5, h6⟩
  · obtain rfl : y = 0 := by omega
    rcases hu with ⟨-, a', cap', rfl⟩ | ⟨k1, k2, b', off', cap', rfl, k4, k5, k6⟩
    · go_enter Tryz.func83, Tryz.ntmps83
      go_wp2_with fail
      refine wp_loop_rounds 1 ?_
      rw [rounds_succ]
      go_wp2_with fail
      refine (trim0 _ _ _).mono ?_
      rintro e w1 ⟨v, rfl, hv, rfl⟩
      have HV := hid' hv
      have HB := hid' ((Below.refl _ w).alloc (Nat.le_refl _) (.cells #[] 100))
      go_wp2_with fail
      go_ret
      exact ⟨v, rfl, HV.out, HB.out⟩
    · omega
  · rcases hu with ⟨rfl, a', cap', rfl⟩ | ⟨k1, k2, b', off', cap', rfl, k4, k5, k6⟩
    · go_enter Tryz.func83, Tryz.ntmps83
      go_wp2_with fail
      refine wp_loop_rounds 2 ?_
      rw [rounds_succ]
      go_wp2_with fail
      rw [rounds_succ]
      go_wp2_with fail
      refine (one_fresh w x h2).mono ?_
      rintro e w1 ⟨v, rfl, HV, HB⟩
      go_wp2_with fail
      go_ret
      exact ⟨v, rfl, HV.out, HB.out⟩
    · go_enter Tryz.func83, Tryz.ntmps83
      go_wp2_with fail
      refine wp_loop_rounds 2 ?_
      rw [rounds_succ]
      go_wp2_with fail
      rw [rounds_succ]
      go_wp2_with fail
      have OF := one_fresh w (x - y) (by omega)
      rw [show ((x - y : Nat) : Int) = (x : Int) - (y : Int) by omega] at OF
      refine OF.mono ?_
      rintro e w1 ⟨v, rfl, HV, HB⟩
      clear OF
      go_wp2_with fail
      go_ret
      exact ⟨v, rfl, HV.out, HB.out⟩
end Go.Proofs.YtkmpnaohdijpnaaGreatDoor
