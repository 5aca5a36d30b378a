/- rotabig's Int with a sign, at numbers of one word: give, SetInt64, NewInt. -/
import Derived.Test.YtfajbmcdkhgipaaDoorBigCW
import Derived.Test.YtfajbmcdkhgipaaDoorOwnPW
import Derived.Deep.RegionHeld3
namespace Go.Proofs.YtfajbmcdkhgipaaDoor
open Go.RowKit

/-- In a block lies the whole number z. -/
structure IntS (w : World) (zb : Nat) (z : Int) : Prop where
  neg : w.cell? ⟨zb, 0, none⟩ = some (.bool (decide (z < 0)))
  abs : ∃ v, w.cell? ⟨zb, 1, none⟩ = some v ∧ Wd w v z.natAbs
  fz0 : w.frozen? ⟨zb, 0, none⟩ = false
  fz1 : w.frozen? ⟨zb, 1, none⟩ = false
theorem IntS.lt {w : World} {zb : Nat} {z : Int} (h : IntS w zb z) : zb < w.heap.size := World.block_lt_of_cell? w _ h.neg
theorem IntS.below {w w' : World} {zb : Nat} {z : Int} (h : IntS w zb z) (hb : Below w.heap.size w w') : IntS w' zb z := by
  have hl := h.lt
  obtain ⟨v, h1, h2⟩ := h.abs
  exact ⟨(hb.cell (p := ⟨zb, 0, none⟩) hl).trans h.neg, ⟨v, (hb.cell (p := ⟨zb, 1, none⟩) hl).trans h1, h2.below hb⟩, (hb.frozen (p := ⟨zb, 0, none⟩) hl).trans h.fz0, (hb.frozen (p := ⟨zb, 1, none⟩) hl).trans h.fz1⟩
theorem fin_s {w : World} {zb : Nat} {z z0 : Int} {v : Value} {b : Bool} (hz : IntS w zb z0) (hv : Wd w v z.natAbs) (hb : b = decide (z < 0)) : IntS ((w.setCell ⟨zb, 1, none⟩ v).setCell ⟨zb, 0, none⟩ (.bool b)) zb z ∧ Save (fun k => k = zb) w ((w.setCell ⟨zb, 1, none⟩ v).setCell ⟨zb, 0, none⟩ (.bool b)) := by
  obtain ⟨v0, hv0, hw0⟩ := hz.abs
  obtain ⟨a0, n0, c0, rfl⟩ := hw0.form
  have e1 : (w.setCell ⟨zb, 1, none⟩ v).cell? ⟨zb, 0, none⟩ = some (.bool (decide (z0 < 0))) := by
    rw [World.cell?_setCell_other _ _ _ _ (by simp)]; exact hz.neg
  have W1 := hv.set (u := v) hv0 (by intros; simp)
  have W2 := W1.set (u := .bool b) e1 (by intros; simp)
  refine ⟨⟨?_, ⟨v, ?_, W2⟩, ?_, ?_⟩, ?_⟩
  · rw [← hb]; exact World.cell?_setCell_same _ _ _ e1
  · rw [World.cell?_setCell_other _ _ _ _ (by simp)]
    exact World.cell?_setCell_same _ _ _ hv0
  · rw [World.frozen?_setCell, World.frozen?_setCell]; exact hz.fz0
  · rw [World.frozen?_setCell, World.frozen?_setCell]; exact hz.fz1
  · exact (Save.setCell (X := fun k => k = zb) (Save.refl _ w) (p := ⟨zb, 1, none⟩) (.inl rfl) _).setCell (p := ⟨zb, 0, none⟩) (.inl rfl) _
theorem sgn_mul (x y : Int) : decide (x * y < 0) = ((decide (x < 0) != decide (y < 0)) && decide (x * y ≠ 0)) := by
  rcases Int.lt_trichotomy x 0 with hx | hx | hx <;> rcases Int.lt_trichotomy y 0 with hy | hy | hy
  · have := Int.mul_pos_of_neg_of_neg hx hy
    simp [hx, hy]; omega
  · subst hy; simp
  · have := Int.mul_neg_of_neg_of_pos hx hy
    have h2 : ¬ y < 0 := by omega
    have h3 : x * y ≠ 0 := by omega
    rw [decide_eq_true this, decide_eq_true hx, decide_eq_false h2, decide_eq_true h3]; rfl
  · subst hx; simp
  · subst hx; simp
  · subst hx; simp
  · have := Int.mul_neg_of_pos_of_neg hx hy
    have h2 : ¬ x < 0 := by omega
    have h3 : x * y ≠ 0 := by omega
    rw [decide_eq_true this, decide_eq_true hy, decide_eq_false h2, decide_eq_true h3]; rfl
  · subst hy; simp
  · have := Int.mul_pos hx hy
    have h2 : ¬ x < 0 := by omega
    have h3 : ¬ y < 0 := by omega
    have h4 : ¬ x * y < 0 := by omega
    rw [decide_eq_false h2, decide_eq_false h3, decide_eq_false h4]; rfl
set_option maxHeartbeats 400000 in
theorem give_s (zb : Nat) (nb : Bool) (z z0 : Int) (v : Value) (w : World) (hz : IntS w zb z0) (hv : Wd w v z.natAbs) (hs : decide (z < 0) = (nb && decide (z ≠ 0))) :
    Calls Tryd.prog 23 #[.pointer (some ⟨zb, 0, none⟩), .bool nb, v] w fun e w' => e = .returned (.pointer (some ⟨zb, 0, none⟩)) ∧ IntS w' zb z ∧ Save (fun k => k = zb) w w' := by
  have F := hid' (fun b hb => fin_s (b := b) hz hv hb)
  obtain ⟨v0, hv0, hw0⟩ := hz.abs
  obtain ⟨a0, n0, c0, rfl⟩ := hw0.form
  have hn := hz.neg
  have f0 := hz.fz0
  have f1 := hz.fz1
  rcases hv with ⟨h0, a, cap, rfl⟩ | ⟨h1, -, b, off, cap, rfl, -⟩
  · have G := hid' (F.out false (by have h7 : z = 0 := (by omega); rw [h7]; rfl))
    clear F hz hw0
    cases nb
    · go_enter Tryd.func23, Tryd.ntmps23
      go_wp2
      go_ret
      exact ⟨rfl, G.out⟩
    · go_enter Tryd.func23, Tryd.ntmps23
      go_wp2
      go_ret
      exact ⟨rfl, G.out⟩
  · have hz1 : z ≠ 0 := by omega
    cases nb
    · have G := hid' (F.out false (by rw [hs]; simp))
      clear F hz hw0
      go_enter Tryd.func23, Tryd.ntmps23
      go_wp2
      go_ret
      exact ⟨rfl, G.out⟩
    · have G := hid' (F.out true (by rw [hs]; simp [hz1]))
      clear F hz hw0
      go_enter Tryd.func23, Tryd.ntmps23
      go_wp2
      go_ret
      exact ⟨rfl, G.out⟩
set_option maxHeartbeats 800000 in
theorem setInt_s (zb : Nat) (z z0 : Int) (w : World) (hz : IntS w zb z0) (hb : z.natAbs < 4294967296) :
    Calls Tryd.prog 36 #[.pointer (some ⟨zb, 0, none⟩), .int .i64 z] w fun e w' => e = .returned (.pointer (some ⟨zb, 0, none⟩)) ∧ IntS w' zb z ∧ Save (fun k => k = zb) w w' := by
  by_cases hn : z < 0
  · obtain ⟨k, rfl⟩ : ∃ k : Nat, z = -(k : Int) := ⟨z.natAbs, by omega⟩
    have hk : 0 < k := by omega
    have e1 : IntKind.u64.wrap (-(k : Int)) = 18446744073709551616 - (k : Int) := by
      simp [IntKind.wrap, IntKind.bits, IntKind.signed]; omega
    have e2 : IntKind.u64.wrap (-(18446744073709551616 - (k : Int))) = (k : Int) := by
      simp [IntKind.wrap, IntKind.bits, IntKind.signed]; omega
    have W := hid' (words_any k w (by omega))
    have GV : Hid (∀ v w1, Wd w1 v k → Below w.heap.size w w1 → Calls Tryd.prog 23 #[.pointer (some ⟨zb, 0, none⟩), .bool true, v] w1 fun e w' => e = .returned (.pointer (some ⟨zb, 0, none⟩)) ∧ IntS w' zb (-(k : Int)) ∧ Save (fun k => k = zb) w w') := fun v w1 hv hb1 => (give_s zb true _ z0 v w1 (hz.below hb1) (by rw [show (-(k : Int)).natAbs = k by omega]; exact hv) (by rw [decide_eq_true (show -(k : Int) < 0 by omega), decide_eq_true (show -(k : Int) ≠ 0 by omega)]; rfl)).mono fun e w' h9 => ⟨h9.1, h9.2.1, (Save.of_below hb1).trans h9.2.2⟩
    have hlt : (-(k : Int) < 0) = True := by simp; omega
    clear hz hb hn
    go_enter Tryd.func36, Tryd.ntmps36
    go_wp2_with fail
    refine W.out.mono ?_
    rintro e w1 ⟨v, rfl, hv, hb1⟩
    have G := hid' (GV.out v w1 hv hb1)
    clear hv hb1 GV W
    go_wp2_with fail
    refine G.out.mono ?_
    rintro e w2 ⟨rfl, h2, h3⟩
    have H2 := hid' h2
    have H3 := hid' h3
    clear h2 h3 G
    go_wp2_with fail
    go_ret
    exact ⟨rfl, H2.out, H3.out⟩
  · obtain ⟨k, rfl⟩ : ∃ k : Nat, z = (k : Int) := ⟨z.natAbs, by omega⟩
    have e1 : IntKind.u64.wrap (k : Int) = (k : Int) := by
      simp [IntKind.wrap, IntKind.bits, IntKind.signed]; omega
    have W := hid' (words_any k w (by omega))
    have GV : Hid (∀ v w1, Wd w1 v k → Below w.heap.size w w1 → Calls Tryd.prog 23 #[.pointer (some ⟨zb, 0, none⟩), .bool false, v] w1 fun e w' => e = .returned (.pointer (some ⟨zb, 0, none⟩)) ∧ IntS w' zb (k : Int) ∧ Save (fun k => k = zb) w w') := fun v w1 hv hb1 => (give_s zb false _ z0 v w1 (hz.below hb1) (by rw [show (k : Int).natAbs = k by omega]; exact hv) (by simp)).mono fun e w' h9 => ⟨h9.1, h9.2.1, (Save.of_below hb1).trans h9.2.2⟩
    have hlt : ¬ ((k : Int) < 0) := by omega
    clear hz hb hn
    go_enter Tryd.func36, Tryd.ntmps36
    go_wp2_with fail
    refine W.out.mono ?_
    rintro e w1 ⟨v, rfl, hv, hb1⟩
    have G := hid' (GV.out v w1 hv hb1)
    clear hv hb1 GV W
    go_wp2_with fail
    refine G.out.mono ?_
    rintro e w2 ⟨rfl, h2, h3⟩
    have H2 := hid' h2
    have H3 := hid' h3
    clear h2 h3 G
    go_wp2_with fail
    go_ret
    exact ⟨rfl, H2.out, H3.out⟩
/-- A new number. -/
theorem new_s (w : World) : IntS (w.alloc (.cells #[.bool false, .slice none 0 0] 53)) w.heap.size 0 := by
  have h := World.alloc_heap_new w (.cells #[.bool false, .slice none 0 0] 53)
  generalize w.alloc (.cells #[.bool false, .slice none 0 0] 53) = W at h ⊢
  refine ⟨by simp [World.cell?, h], ⟨.slice none 0 0, by simp [World.cell?, h], .inl ⟨rfl, _, _, rfl⟩⟩, by simp [World.frozen?, h], by simp [World.frozen?, h]⟩
set_option maxHeartbeats 400000 in
theorem NewInt_s (z : Int) (w : World) (hb : z.natAbs < 4294967296) :
    Calls Tryd.prog 21 #[.int .i64 z] w fun e w' => ∃ zb, e = .returned (.pointer (some ⟨zb, 0, none⟩)) ∧ w.heap.size ≤ zb ∧ IntS w' zb z ∧ Below w.heap.size w w' := by
  have S := hid' (setInt_s w.heap.size z 0 _ (new_s w) hb)
  have hb0 := (Below.refl _ w).alloc (Nat.le_refl _) (.cells #[.bool false, .slice none 0 0] 53)
  have HB0 := hid' hb0
  clear hb0
  go_enter Tryd.func21, Tryd.ntmps21
  go_wp2_with fail
  refine S.out.mono ?_
  rintro e w1 ⟨rfl, h1, h2⟩
  have H1 := hid' h1
  have H2 := hid' (h2.below HB0.out HB0.out.size (fun k e => by omega))
  clear h1 h2 S
  go_wp2_with fail
  go_ret
  exact ⟨_, rfl, Nat.le_refl _, H1.out, H2.out⟩
end Go.Proofs.YtfajbmcdkhgipaaDoor

namespace Go.Proofs.YtfajbmcdkhgipaaDoor
open Go.RowKit

theorem sgn_neg (x : Int) : decide (-x < 0) = ((!decide (x < 0)) && decide (-x ≠ 0)) := by
  rcases Int.lt_trichotomy x 0 with h | h | h
  · simp [h]; omega
  · subst h; simp
  · have h1 : ¬ x < 0 := by omega
    have h2 : -x < 0 := by omega
    have h3 : -x ≠ 0 := by omega
    simp [h1, h3]
    omega
set_option maxRecDepth 20000 in
set_option maxHeartbeats 2000000 in
theorem Neg_s (zb xb : Nat) (x z0 : Int) (w : World) (hz : IntS w zb z0) (hx : IntS w xb x) :
    Calls Tryd.prog 11 #[.pointer (some ⟨zb, 0, none⟩), .pointer (some ⟨xb, 0, none⟩)] w fun e w' => e = .returned (.pointer (some ⟨zb, 0, none⟩)) ∧ IntS w' zb (-x) ∧ Save (fun k => k = zb) w w' := by
  obtain ⟨v, v1, v2⟩ := hx.abs
  have n1 := hx.neg
  have hxl : xb < w.heap.size := hx.lt
  have hna : (-x).natAbs = x.natAbs := Int.natAbs_neg x
  have TW : Hid (∀ w1, Below w.heap.size w w1 → Calls Tryd.prog 24 #[v] w1 fun e w' => ∃ t, e = .returned t ∧ Wd w' t (-x).natAbs ∧ Below w.heap.size w w') := fun w1 hb1 => (twin_any _ v w1 (v2.below hb1)).mono fun e w' ⟨t, h1, h2, h3⟩ => ⟨t, h1, by rw [hna]; exact h2, hb1.trans (h3.mono hb1.size)⟩
  have GV : Hid (∀ t w1, Wd w1 t (-x).natAbs → Below w.heap.size w w1 → Calls Tryd.prog 23 #[.pointer (some ⟨zb, 0, none⟩), .bool (!decide (x < 0)), t] w1 fun e w' => e = .returned (.pointer (some ⟨zb, 0, none⟩)) ∧ IntS w' zb (-x) ∧ Save (fun k => k = zb) w w') := fun t w1 ht hb1 => (give_s zb _ _ z0 t w1 (hz.below hb1) ht (sgn_neg x)).mono fun e w' h => ⟨h.1, h.2.1, (Save.of_below hb1).trans h.2.2⟩
  obtain ⟨va, vn, vc, rfl⟩ := v2.form
  generalize decide (x < 0) = bx at *
  clear hz hx v2 hna
  go_enter Tryd.func11, Tryd.ntmps11
  go_wp2_with fail
  go_region_with (first
    | (go_at_call 24; refine (TW.out _ (by first | exact (Below.refl _ _).drew | exact Below.refl _ _)).mono ?_; rintro e w4 ⟨t, rfl, ht, hb4⟩; have T4 := hid' ht; have K4 := hid' hb4; obtain ⟨ta, tn, tc, rfl⟩ := ht.form; have m1 := (hb4.cell (p := ⟨xb, 0, none⟩) hxl).trans n1; clear hb4 ht)
    | (go_at_call 23; refine (GV.out _ _ T4.out K4.out).mono ?_; rintro e w5 ⟨rfl, h5, h6⟩; have H5 := hid' h5; have H6 := hid' h6; clear h5 h6))
  all_goals go_wp2_with fail
  all_goals go_ret
  all_goals exact ⟨rfl, H5.out, H6.out⟩
theorem one_fresh (w : World) (z : Nat) (hz : z < 4294967296) :
    Calls Tryd.prog 45 #[.slice (some ⟨w.heap.size, 0, none⟩) 1 1] (w.alloc (.cells #[.int .u32 z] 71)) fun e w' => ∃ v, e = .returned v ∧ Hid (Wd w' v z) ∧ Hid (Below w.heap.size w w') := by
  by_cases h0 : z = 0
  · subst h0
    exact one_trim w
  · have c0 : (w.alloc (.cells #[.int .u32 z] 71)).cell? ⟨w.heap.size, 0, none⟩ = some (.int .u32 z) := by rw [World.cell?_alloc_at _ _ _ _ rfl]; rfl
    have hxz : ((z : Int) == 0) = false := by rw [beq_eq_false_iff_ne]; omega
    have hb := (Below.refl _ w).alloc (Nat.le_refl _) (.cells #[.int .u32 z] 71)
    have hs := World.size_alloc w (.cells #[.int .u32 z] 71)
    revert c0 hb hs
    generalize w.alloc (.cells #[.int .u32 z] 71) = W
    intro c0 hb hs
    have HB := hid' hb
    go_enter Tryd.func45, Tryd.ntmps45
    go_wp2
    refine wp_loop_rounds 1 ?_
    rw [rounds_succ]
    go_wp2
    go_ret
    exact ⟨_, rfl, .inr ⟨by omega, hz, _, _, _, rfl, Nat.le_refl _, by omega, c0⟩, HB.out⟩
theorem trim0 (a : Option Addr) (cap : Nat) (w : World) :
    Calls Tryd.prog 45 #[.slice a 0 cap] w fun e w' => ∃ v, e = .returned v ∧ Wd w' v 0 ∧ w' = w := by
  go_enter Tryd.func45, Tryd.ntmps45
  go_wp2
  refine wp_loop_rounds 1 ?_
  rw [rounds_succ]
  go_wp2
  go_ret
  exact ⟨_, rfl, .inl ⟨rfl, _, _, rfl⟩, rfl⟩
set_option maxRecDepth 20000 in
set_option maxHeartbeats 2000000 in
theorem sub_any (x y : Nat) (v u : Value) (w : World) (hv : Wd w v x) (hu : Wd w u y) (hxy : y ≤ x) :
    Calls Tryd.prog 49 #[v, u] w fun e w' => ∃ u, e = .returned u ∧ Wd w' u (x - y) ∧ Below w.heap.size w w' := by
  have hmk1 : ∀ w, (Instr.makeSlice 51 (.int .i64 1) (.int .i64 1)).run Tryd.prog w = .ok (.slice (some ⟨w.heap.size, 0, none⟩) 1 1) (w.alloc (.cells #[.int .u32 0] 71)) := fun _ => by kernel_rfl
  have hmk0 : ∀ w, (Instr.makeSlice 51 (.int .i64 0) (.int .i64 0)).run Tryd.prog w = .ok (.slice (some ⟨w.heap.size, 0, none⟩) 0 0) (w.alloc (.cells #[] 71)) := fun _ => by kernel_rfl
  rcases hv with ⟨rfl, a, cap, rfl⟩ | ⟨h1, h2, b, off, cap, rfl, h4, h5, h6⟩
  · obtain rfl : y = 0 := by omega
    rcases hu with ⟨-, a', cap', rfl⟩ | ⟨k1, k2, b', off', cap', rfl, k4, k5, k6⟩
    · go_enter Tryd.func49, Tryd.ntmps49
      go_wp2_with fail
      refine wp_loop_rounds 1 ?_
      rw [rounds_succ]
      go_wp2_with fail
      refine (trim0 _ _ _).mono ?_
      rintro e w1 ⟨v, rfl, hv, rfl⟩
      have HV := hid' hv
      have HB := hid' ((Below.refl _ w).alloc (Nat.le_refl _) (.cells #[] 71))
      go_wp2_with fail
      go_ret
      exact ⟨v, rfl, HV.out, HB.out⟩
    · omega
  · rcases hu with ⟨rfl, a', cap', rfl⟩ | ⟨k1, k2, b', off', cap', rfl, k4, k5, k6⟩
    · go_enter Tryd.func49, Tryd.ntmps49
      go_wp2_with fail
      refine wp_loop_rounds 2 ?_
      rw [rounds_succ]
      go_wp2_with fail
      rw [rounds_succ]
      go_wp2_with fail
      refine (one_fresh w x h2).mono ?_
      rintro e w1 ⟨v, rfl, HV, HB⟩
      go_wp2_with fail
      go_ret
      exact ⟨v, rfl, HV.out, HB.out⟩
    · go_enter Tryd.func49, Tryd.ntmps49
      go_wp2_with fail
      refine wp_loop_rounds 2 ?_
      rw [rounds_succ]
      go_wp2_with fail
      rw [rounds_succ]
      go_wp2_with fail
      have OF := one_fresh w (x - y) (by omega)
      rw [show ((x - y : Nat) : Int) = (x : Int) - (y : Int) by omega] at OF
      refine OF.mono ?_
      rintro e w1 ⟨v, rfl, HV, HB⟩
      clear OF
      go_wp2_with fail
      go_ret
      exact ⟨v, rfl, HV.out, HB.out⟩
end Go.Proofs.YtfajbmcdkhgipaaDoor
