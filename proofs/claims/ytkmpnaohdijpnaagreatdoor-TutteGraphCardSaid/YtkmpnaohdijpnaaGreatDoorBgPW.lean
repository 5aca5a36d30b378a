/- Products of signed numbers. -/
import Derived.Test.YtkmpnaohdijpnaaGreatDoorBgNW
namespace Go.Proofs.YtkmpnaohdijpnaaGreatDoor
open Go.RowKit

set_option maxRecDepth 20000 in
set_option maxHeartbeats 20000000 in
theorem Mul_s (zb xb yb : Nat) (x y z0 : Int) (w : World) (hz : IntS w zb z0) (hx : IntS w xb x) (hy : IntS w yb y) (hb : (x * y).natAbs < 4294967296) :
    Calls Tryz.prog 31 #[.pointer (some ⟨zb, 0, none⟩), .pointer (some ⟨xb, 0, none⟩), .pointer (some ⟨yb, 0, none⟩)] w fun e w' => e = .returned (.pointer (some ⟨zb, 0, none⟩)) ∧ IntS w' zb (x * y) ∧ Save (fun k => k = zb) w w' := by
  obtain ⟨v, v1, v2⟩ := hx.abs
  obtain ⟨u, u1, u2⟩ := hy.abs
  have n1 := hx.neg
  have n2 := hy.neg
  have hxl : xb < w.heap.size := hx.lt
  have hyl : yb < w.heap.size := hy.lt
  have hna : x.natAbs * y.natAbs = (x * y).natAbs := (Int.natAbs_mul x y).symm
  have ML : Hid (∀ w1, Below w.heap.size w w1 → Calls Tryz.prog 56 #[v, u] w1 fun e w' => ∃ t, e = .returned t ∧ Wd w' t (x * y).natAbs ∧ Below w.heap.size w w') := fun w1 hb1 => (mul_any _ _ v u w1 (v2.below hb1) (u2.below hb1) (by rw [hna]; exact hb)).mono fun e w' ⟨t, h1, h2, h3⟩ => ⟨t, h1, by rw [← hna]; exact h2, hb1.trans (h3.mono hb1.size)⟩
  have GV : Hid (∀ t w1, Wd w1 t (x * y).natAbs → Below w.heap.size w w1 → Calls Tryz.prog 55 #[.pointer (some ⟨zb, 0, none⟩), .bool (decide (x < 0) != decide (y < 0)), t] w1 fun e w' => e = .returned (.pointer (some ⟨zb, 0, none⟩)) ∧ IntS w' zb (x * y) ∧ Save (fun k => k = zb) w w') := fun t w1 ht hb1 => (give_s zb _ _ z0 t w1 (hz.below hb1) ht (sgn_mul x y)).mono fun e w' h9 => ⟨h9.1, h9.2.1, (Save.of_below hb1).trans h9.2.2⟩
  obtain ⟨va, vn, vc, rfl⟩ := v2.form
  obtain ⟨ua, un, uc, rfl⟩ := u2.form
  generalize decide (x < 0) = bx at *
  generalize decide (y < 0) = bz at *
  clear hz hx hy v2 u2 hna
  go_enter Tryz.func31, Tryz.ntmps31
  go_wp2_with fail
  go_region_with (first
    | (go_at_call 56; refine (ML.out _ (by first | exact (Below.refl _ _).drew | exact Below.refl _ _)).mono ?_; rintro e w4 ⟨t, rfl, ht, hb4⟩; have T4 := hid' ht; have K4 := hid' hb4; obtain ⟨ta, tn, tc, rfl⟩ := ht.form; have m1 := (hb4.cell (p := ⟨xb, 0, none⟩) hxl).trans n1; have m2 := (hb4.cell (p := ⟨yb, 0, none⟩) hyl).trans n2; clear hb4 ht)
    | (go_at_call 55; refine (GV.out _ _ T4.out K4.out).mono ?_; rintro e w5 ⟨rfl, h5, h6⟩; have H5 := hid' h5; have H6 := hid' h6; clear h5 h6))
  all_goals go_wp2_with fail
  all_goals go_ret
  all_goals exact ⟨rfl, H5.out, H6.out⟩
end Go.Proofs.YtkmpnaohdijpnaaGreatDoor

namespace Go.Proofs.YtkmpnaohdijpnaaGreatDoor
open Go.RowKit

theorem wd_form2 {w : World} {v : Value} {x : Nat} (h : Wd w v x) : ∃ a n c, v = .slice a n c := h.form
set_option maxRecDepth 20000 in
set_option maxHeartbeats 2000000 in
theorem sum_s (x y : Int) (v u : Value) (w : World) (hv : Wd w v x.natAbs) (hu : Wd w u y.natAbs) (hb : x.natAbs + y.natAbs < 4294967296) :
    Calls Tryz.prog 58 #[.bool (decide (x < 0)), v, .bool (decide (y < 0)), u] w fun e w' => ∃ nb a n c, e = .returned (.tuple #[.bool nb, .slice a n c]) ∧ Wd w' (.slice a n c) (x + y).natAbs ∧ decide (x + y < 0) = (nb && decide (x + y ≠ 0)) ∧ Below w.heap.size w w' := by
  have AD := hid' (add_any _ _ v u w hv hu hb)
  have CP := hid' (cmp_any _ _ v u w hv hu)
  have S1 : Hid (y.natAbs ≤ x.natAbs → ∀ W, Below w.heap.size w W → Calls Tryz.prog 83 #[v, u] W fun e w' => ∃ t, e = .returned t ∧ Wd w' t (x.natAbs - y.natAbs) ∧ Below w.heap.size w w') := fun h W hW => (sub_any _ _ v u W (hv.below hW) (hu.below hW) h).mono fun e w' ⟨t, h1, h2, h3⟩ => ⟨t, h1, h2, hW.trans (h3.mono hW.size)⟩
  have S2 : Hid (x.natAbs ≤ y.natAbs → ∀ W, Below w.heap.size w W → Calls Tryz.prog 83 #[u, v] W fun e w' => ∃ t, e = .returned t ∧ Wd w' t (y.natAbs - x.natAbs) ∧ Below w.heap.size w w') := fun h W hW => (sub_any _ _ u v W (hu.below hW) (hv.below hW) h).mono fun e w' ⟨t, h1, h2, h3⟩ => ⟨t, h1, h2, hW.trans (h3.mono hW.size)⟩
  obtain ⟨va, vn, vc, rfl⟩ := hv.form
  obtain ⟨ua, un, uc, rfl⟩ := hu.form
  clear hv hu
  by_cases hx : x < 0
  · have hxd : decide (x < 0) = true := by simpa using hx
    rw [hxd]
    by_cases hy : y < 0
    · have hyd : decide (y < 0) = true := by simpa using hy
      rw [hyd]
      have e1 : x.natAbs + y.natAbs = (x + y).natAbs := by omega
      have e2 : decide (x + y < 0) = (true && decide (x + y ≠ 0)) := by
        have h1 : x + y < 0 := by omega
        have h2 : x + y ≠ 0 := by omega
        simp [h1, h2]
      rw [e1] at AD
      have E2 := hid' e2
      clear hx hy hxd hyd e1 e2 S1 S2 CP hb
      go_enter Tryz.func58, Tryz.ntmps58
      go_wp2_with fail
      refine AD.out.mono ?_
      rintro e w1 ⟨t, rfl, ht, hb1⟩
      obtain ⟨ta, tn, tc, rfl⟩ := ht.form
      have T := hid' ht
      have B := hid' hb1
      clear ht hb1 AD
      go_wp2_with fail
      exact bodyPost_ret (results_tmp2 rfl _ _ _) rfl ⟨_, _, _, _, rfl, T.out, E2.out, B.out⟩
    · have hyd : decide (y < 0) = false := by simpa using hy
      rw [hyd]
      by_cases hc : y.natAbs ≤ x.natAbs
      · have hcr : 0 ≤ cmpR x.natAbs y.natAbs := by unfold cmpR; split <;> (try split) <;> omega
        have e1 : x.natAbs - y.natAbs = (x + y).natAbs := by omega
        have e2 : decide (x + y < 0) = (true && decide (x + y ≠ 0)) := by rw [Bool.eq_iff_iff]; simp; omega
        have C := hid' (S1.out hc)
        rw [e1] at C
        have E2 := hid' e2
        generalize cmpR x.natAbs y.natAbs = q at *
        have hq : decide (0 ≤ q) = true := by simpa using hcr
        clear hx hy hxd hyd e1 e2 S1 S2 AD hb hc
        go_enter Tryz.func58, Tryz.ntmps58
        go_wp2_with fail
        refine CP.out.mono ?_
        rintro e w0 ⟨rfl, hb0⟩
        have C0 := hid' (C.out _ hb0)
        clear C hb0 CP
        go_wp2_with fail
        refine C0.out.mono ?_
        rintro e w1 ⟨t, rfl, ht, hb1⟩
        obtain ⟨ta, tn, tc, rfl⟩ := ht.form
        have T := hid' ht
        have B := hid' hb1
        clear ht hb1 C0
        go_wp2_with fail
        exact bodyPost_ret (results_tmp2 rfl _ _ _) rfl ⟨_, _, _, _, rfl, T.out, E2.out, B.out⟩
      · have hcr : ¬ 0 ≤ cmpR x.natAbs y.natAbs := by unfold cmpR; split <;> (try split) <;> omega
        have e1 : y.natAbs - x.natAbs = (x + y).natAbs := by omega
        have e2 : decide (x + y < 0) = (false && decide (x + y ≠ 0)) := by rw [Bool.eq_iff_iff]; simp; omega
        have C := hid' (S2.out (by omega))
        rw [e1] at C
        have E2 := hid' e2
        generalize cmpR x.natAbs y.natAbs = q at *
        have hq : decide (0 ≤ q) = false := by simpa using hcr
        clear hx hy hxd hyd e1 e2 S1 S2 AD hb hc
        go_enter Tryz.func58, Tryz.ntmps58
        go_wp2_with fail
        refine CP.out.mono ?_
        rintro e w0 ⟨rfl, hb0⟩
        have C0 := hid' (C.out _ hb0)
        clear C hb0 CP
        go_wp2_with fail
        refine C0.out.mono ?_
        rintro e w1 ⟨t, rfl, ht, hb1⟩
        obtain ⟨ta, tn, tc, rfl⟩ := ht.form
        have T := hid' ht
        have B := hid' hb1
        clear ht hb1 C0
        go_wp2_with fail
        exact bodyPost_ret (results_tmp2 rfl _ _ _) rfl ⟨_, _, _, _, rfl, T.out, E2.out, B.out⟩
  · have hxd : decide (x < 0) = false := by simpa using hx
    rw [hxd]
    by_cases hy : y < 0
    · have hyd : decide (y < 0) = true := by simpa using hy
      rw [hyd]
      by_cases hc : y.natAbs ≤ x.natAbs
      · have hcr : 0 ≤ cmpR x.natAbs y.natAbs := by unfold cmpR; split <;> (try split) <;> omega
        have e1 : x.natAbs - y.natAbs = (x + y).natAbs := by omega
        have e2 : decide (x + y < 0) = (false && decide (x + y ≠ 0)) := by rw [Bool.eq_iff_iff]; simp; omega
        have C := hid' (S1.out hc)
        rw [e1] at C
        have E2 := hid' e2
        generalize cmpR x.natAbs y.natAbs = q at *
        have hq : decide (0 ≤ q) = true := by simpa using hcr
        clear hx hy hxd hyd e1 e2 S1 S2 AD hb hc
        go_enter Tryz.func58, Tryz.ntmps58
        go_wp2_with fail
        refine CP.out.mono ?_
        rintro e w0 ⟨rfl, hb0⟩
        have C0 := hid' (C.out _ hb0)
        clear C hb0 CP
        go_wp2_with fail
        refine C0.out.mono ?_
        rintro e w1 ⟨t, rfl, ht, hb1⟩
        obtain ⟨ta, tn, tc, rfl⟩ := ht.form
        have T := hid' ht
        have B := hid' hb1
        clear ht hb1 C0
        go_wp2_with fail
        exact bodyPost_ret (results_tmp2 rfl _ _ _) rfl ⟨_, _, _, _, rfl, T.out, E2.out, B.out⟩
      · have hcr : ¬ 0 ≤ cmpR x.natAbs y.natAbs := by unfold cmpR; split <;> (try split) <;> omega
        have e1 : y.natAbs - x.natAbs = (x + y).natAbs := by omega
        have e2 : decide (x + y < 0) = (true && decide (x + y ≠ 0)) := by rw [Bool.eq_iff_iff]; simp; omega
        have C := hid' (S2.out (by omega))
        rw [e1] at C
        have E2 := hid' e2
        generalize cmpR x.natAbs y.natAbs = q at *
        have hq : decide (0 ≤ q) = false := by simpa using hcr
        clear hx hy hxd hyd e1 e2 S1 S2 AD hb hc
        go_enter Tryz.func58, Tryz.ntmps58
        go_wp2_with fail
        refine CP.out.mono ?_
        rintro e w0 ⟨rfl, hb0⟩
        have C0 := hid' (C.out _ hb0)
        clear C hb0 CP
        go_wp2_with fail
        refine C0.out.mono ?_
        rintro e w1 ⟨t, rfl, ht, hb1⟩
        obtain ⟨ta, tn, tc, rfl⟩ := ht.form
        have T := hid' ht
        have B := hid' hb1
        clear ht hb1 C0
        go_wp2_with fail
        exact bodyPost_ret (results_tmp2 rfl _ _ _) rfl ⟨_, _, _, _, rfl, T.out, E2.out, B.out⟩
    · have hyd : decide (y < 0) = false := by simpa using hy
      rw [hyd]
      have e1 : x.natAbs + y.natAbs = (x + y).natAbs := by omega
      have e2 : decide (x + y < 0) = (false && decide (x + y ≠ 0)) := by
        have h1 : ¬ x + y < 0 := by omega
        simp [h1]
      rw [e1] at AD
      have E2 := hid' e2
      clear hx hy hxd hyd e1 e2 S1 S2 CP hb
      go_enter Tryz.func58, Tryz.ntmps58
      go_wp2_with fail
      refine AD.out.mono ?_
      rintro e w1 ⟨t, rfl, ht, hb1⟩
      obtain ⟨ta, tn, tc, rfl⟩ := ht.form
      have T := hid' ht
      have B := hid' hb1
      clear ht hb1 AD
      go_wp2_with fail
      exact bodyPost_ret (results_tmp2 rfl _ _ _) rfl ⟨_, _, _, _, rfl, T.out, E2.out, B.out⟩
end Go.Proofs.YtkmpnaohdijpnaaGreatDoor

namespace Go.Proofs.YtkmpnaohdijpnaaGreatDoor
open Go.RowKit

set_option maxRecDepth 20000 in
set_option maxHeartbeats 20000000 in
theorem Add_s (zb xb yb : Nat) (x y z0 : Int) (w : World) (hz : IntS w zb z0) (hx : IntS w xb x) (hy : IntS w yb y) (hb : x.natAbs + y.natAbs < 4294967296) :
    Calls Tryz.prog 33 #[.pointer (some ⟨zb, 0, none⟩), .pointer (some ⟨xb, 0, none⟩), .pointer (some ⟨yb, 0, none⟩)] w fun e w' => e = .returned (.pointer (some ⟨zb, 0, none⟩)) ∧ IntS w' zb (x + y) ∧ Save (fun k => k = zb) w w' := by
  obtain ⟨v, v1, v2⟩ := hx.abs
  obtain ⟨u, u1, u2⟩ := hy.abs
  have n1 := hx.neg
  have n2 := hy.neg
  have SU : Hid (∀ w1, Below w.heap.size w w1 → Calls Tryz.prog 58 #[.bool (decide (x < 0)), v, .bool (decide (y < 0)), u] w1 fun e w' => ∃ nb a n c, e = .returned (.tuple #[.bool nb, .slice a n c]) ∧ Wd w' (.slice a n c) (x + y).natAbs ∧ decide (x + y < 0) = (nb && decide (x + y ≠ 0)) ∧ Below w.heap.size w w') := fun w1 hb1 => (sum_s x y v u w1 (v2.below hb1) (u2.below hb1) hb).mono fun e w' ⟨nb, a, n, c, h1, h2, h3, h4⟩ => ⟨nb, a, n, c, h1, h2, h3, hb1.trans (h4.mono hb1.size)⟩
  have GV : Hid (∀ nb t w1, Wd w1 t (x + y).natAbs → decide (x + y < 0) = (nb && decide (x + y ≠ 0)) → Below w.heap.size w w1 → Calls Tryz.prog 55 #[.pointer (some ⟨zb, 0, none⟩), .bool nb, t] w1 fun e w' => e = .returned (.pointer (some ⟨zb, 0, none⟩)) ∧ IntS w' zb (x + y) ∧ Save (fun k => k = zb) w w') := fun nb t w1 ht hs hb1 => (give_s zb nb _ z0 t w1 (hz.below hb1) ht hs).mono fun e w' h => ⟨h.1, h.2.1, (Save.of_below hb1).trans h.2.2⟩
  obtain ⟨va, vn, vc, rfl⟩ := v2.form
  obtain ⟨ua, un, uc, rfl⟩ := u2.form
  generalize decide (x < 0) = bx at *
  generalize decide (y < 0) = bz at *
  clear hz hx hy v2 u2 hb
  go_enter Tryz.func33, Tryz.ntmps33
  go_wp2_with fail
  go_region_with (first
    | (go_at_call 58; refine (SU.out _ (by first | exact (Below.refl _ _).drew | exact Below.refl _ _)).mono ?_; rintro e w4 ⟨nb, ta, tn, tc, rfl, ht, hs, hb4⟩; have T4 := hid' ht; have S4 := hid' hs; have K4 := hid' hb4; clear hb4 ht hs)
    | (go_at_call 55; refine (GV.out _ _ _ T4.out S4.out K4.out).mono ?_; rintro e w5 ⟨rfl, h5, h6⟩; have H5 := hid' h5; have H6 := hid' h6; clear h5 h6))
  all_goals go_wp2_with fail
  all_goals go_ret
  all_goals exact ⟨rfl, H5.out, H6.out⟩
end Go.Proofs.YtkmpnaohdijpnaaGreatDoor
