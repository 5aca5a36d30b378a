/- Products of signed numbers. -/
import Derived.Test.YtfajbmcdkhgipaaDoorBgNW
namespace Go.Proofs.YtfajbmcdkhgipaaDoor
open Go.RowKit

set_option maxRecDepth 20000 in
set_option maxHeartbeats 20000000 in
theorem Mul_s (zb xb yb : Nat) (x y z0 : Int) (w : World) (hz : IntS w zb z0) (hx : IntS w xb x) (hy : IntS w yb y) (hb : (x * y).natAbs < 4294967296) :
    Calls Tryd.prog 20 #[.pointer (some ⟨zb, 0, none⟩), .pointer (some ⟨xb, 0, none⟩), .pointer (some ⟨yb, 0, none⟩)] w fun e w' => e = .returned (.pointer (some ⟨zb, 0, none⟩)) ∧ IntS w' zb (x * y) ∧ Save (fun k => k = zb) w w' := by
  obtain ⟨v, v1, v2⟩ := hx.abs
  obtain ⟨u, u1, u2⟩ := hy.abs
  have n1 := hx.neg
  have n2 := hy.neg
  have hxl : xb < w.heap.size := hx.lt
  have hyl : yb < w.heap.size := hy.lt
  have hna : x.natAbs * y.natAbs = (x * y).natAbs := (Int.natAbs_mul x y).symm
  have ML : Hid (∀ w1, Below w.heap.size w w1 → Calls Tryd.prog 35 #[v, u] w1 fun e w' => ∃ t, e = .returned t ∧ Wd w' t (x * y).natAbs ∧ Below w.heap.size w w') := fun w1 hb1 => (mul_any _ _ v u w1 (v2.below hb1) (u2.below hb1) (by rw [hna]; exact hb)).mono fun e w' ⟨t, h1, h2, h3⟩ => ⟨t, h1, by rw [← hna]; exact h2, hb1.trans (h3.mono hb1.size)⟩
  have GV : Hid (∀ t w1, Wd w1 t (x * y).natAbs → Below w.heap.size w w1 → Calls Tryd.prog 23 #[.pointer (some ⟨zb, 0, none⟩), .bool (decide (x < 0) != decide (y < 0)), t] w1 fun e w' => e = .returned (.pointer (some ⟨zb, 0, none⟩)) ∧ IntS w' zb (x * y) ∧ Save (fun k => k = zb) w w') := fun t w1 ht hb1 => (give_s zb _ _ z0 t w1 (hz.below hb1) ht (sgn_mul x y)).mono fun e w' h9 => ⟨h9.1, h9.2.1, (Save.of_below hb1).trans h9.2.2⟩
  obtain ⟨va, vn, vc, rfl⟩ := v2.form
  obtain ⟨ua, un, uc, rfl⟩ := u2.form
  generalize decide (x < 0) = bx at *
  generalize decide (y < 0) = bz at *
  clear hz hx hy v2 u2 hna
  go_enter Tryd.func20, Tryd.ntmps20
  go_wp2_with fail
  go_region_with (first
    | (go_at_call 35; refine (ML.out _ (by first | exact (Below.refl _ _).drew | exact Below.refl _ _)).mono ?_; rintro e w4 ⟨t, rfl, ht, hb4⟩; have T4 := hid' ht; have K4 := hid' hb4; obtain ⟨ta, tn, tc, rfl⟩ := ht.form; have m1 := (hb4.cell (p := ⟨xb, 0, none⟩) hxl).trans n1; have m2 := (hb4.cell (p := ⟨yb, 0, none⟩) hyl).trans n2; clear hb4 ht)
    | (go_at_call 23; refine (GV.out _ _ T4.out K4.out).mono ?_; rintro e w5 ⟨rfl, h5, h6⟩; have H5 := hid' h5; have H6 := hid' h6; clear h5 h6))
  all_goals go_wp2_with fail
  all_goals go_ret
  all_goals exact ⟨rfl, H5.out, H6.out⟩
end Go.Proofs.YtfajbmcdkhgipaaDoor
