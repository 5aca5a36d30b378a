/- Sums of signed numbers. -/
import Derived.Test.YtfajbmcdkhgipaaDoorBgOQ
namespace Go.Proofs.YtfajbmcdkhgipaaDoor
open Go.RowKit

set_option maxRecDepth 20000 in
set_option maxHeartbeats 20000000 in
theorem Add_s (zb xb yb : Nat) (x y z0 : Int) (w : World) (hz : IntS w zb z0) (hx : IntS w xb x) (hy : IntS w yb y) (hb : x.natAbs + y.natAbs < 4294967296) :
    Calls Tryd.prog 22 #[.pointer (some ⟨zb, 0, none⟩), .pointer (some ⟨xb, 0, none⟩), .pointer (some ⟨yb, 0, none⟩)] w fun e w' => e = .returned (.pointer (some ⟨zb, 0, none⟩)) ∧ IntS w' zb (x + y) ∧ Save (fun k => k = zb) w w' := by
  obtain ⟨v, v1, v2⟩ := hx.abs
  obtain ⟨u, u1, u2⟩ := hy.abs
  have n1 := hx.neg
  have n2 := hy.neg
  have SU : Hid (∀ w1, Below w.heap.size w w1 → Calls Tryd.prog 37 #[.bool (decide (x < 0)), v, .bool (decide (y < 0)), u] w1 fun e w' => ∃ nb a n c, e = .returned (.tuple #[.bool nb, .slice a n c]) ∧ Wd w' (.slice a n c) (x + y).natAbs ∧ decide (x + y < 0) = (nb && decide (x + y ≠ 0)) ∧ Below w.heap.size w w') := fun w1 hb1 => (sum_s x y v u w1 (v2.below hb1) (u2.below hb1) hb).mono fun e w' ⟨nb, a, n, c, h1, h2, h3, h4⟩ => ⟨nb, a, n, c, h1, h2, h3, hb1.trans (h4.mono hb1.size)⟩
  have GV : Hid (∀ nb t w1, Wd w1 t (x + y).natAbs → decide (x + y < 0) = (nb && decide (x + y ≠ 0)) → Below w.heap.size w w1 → Calls Tryd.prog 23 #[.pointer (some ⟨zb, 0, none⟩), .bool nb, t] w1 fun e w' => e = .returned (.pointer (some ⟨zb, 0, none⟩)) ∧ IntS w' zb (x + y) ∧ Save (fun k => k = zb) w w') := fun nb t w1 ht hs hb1 => (give_s zb nb _ z0 t w1 (hz.below hb1) ht hs).mono fun e w' h => ⟨h.1, h.2.1, (Save.of_below hb1).trans h.2.2⟩
  obtain ⟨va, vn, vc, rfl⟩ := v2.form
  obtain ⟨ua, un, uc, rfl⟩ := u2.form
  generalize decide (x < 0) = bx at *
  generalize decide (y < 0) = bz at *
  clear hz hx hy v2 u2 hb
  go_enter Tryd.func22, Tryd.ntmps22
  go_wp2_with fail
  go_region_with (first
    | (go_at_call 37; refine (SU.out _ (by first | exact (Below.refl _ _).drew | exact Below.refl _ _)).mono ?_; rintro e w4 ⟨nb, ta, tn, tc, rfl, ht, hs, hb4⟩; have T4 := hid' ht; have S4 := hid' hs; have K4 := hid' hb4; clear hb4 ht hs)
    | (go_at_call 23; refine (GV.out _ _ _ T4.out S4.out K4.out).mono ?_; rintro e w5 ⟨rfl, h5, h6⟩; have H5 := hid' h5; have H6 := hid' h6; clear h5 h6))
  all_goals go_wp2_with fail
  all_goals go_ret
  all_goals exact ⟨rfl, H5.out, H6.out⟩
end Go.Proofs.YtfajbmcdkhgipaaDoor
