/- minors.Dual. -/
import Derived.Test.YtgkkemlemnlchaaEqQ
import Derived.Test.YtgkkemlemnlchaaCplQ
import Derived.Test.YtgkkemlemnlchaaAxQ
import Derived.Test.YtgkkemlemnlchaaWithoutQ
import Derived.Deep.RegionHeld3
namespace Go.Proofs.Ytgkkemlemnlchaa
open Go.RowKit

set_option maxHeartbeats 800000 in
theorem Dual_ok (m : Nat) (v : Value) (l : List Nat) (w : World) (hm : m ≤ 8) (hf : Fam m l) (hb : Bas l) (h : Ints w v (N l)) :
    Calls Try.prog 7 #[.agg #[.int .i64 m, v]] w (GivesO w m (cmp m l)) := by
  have HI := hid h
  obtain ⟨a, cap, hv, _, _⟩ := h.nats
  subst hv
  have HB0 := hid (boxM_below w m (.slice a l.length cap))
  have HC := hid (check_any m _ (N l) _ (HI.out.below HB0.out))
  rw [chk_mk hm hf hb] at HC
  have HX : Hid (∀ w2, Below (boxM w m (.slice a l.length cap)).heap.size (boxM w m (.slice a l.length cap)) w2 → _) := fun w2 h => boxM_blocks h
  have HS := hid (boxM_size w m (.slice a l.length cap))
  have HCP := hid (fun w' (hb' : Below w.heap.size w w') => Cpl_any m _ l w' hm hf (fam_len hm hf) (HI.out.below hb'))
  have HLL := hid (cmp_len m l)
  generalize cmp m l = acc at *
  go_enter Try.func7, Try.ntmps7
  go_wp2_with fail
  refine HC.out.mono ?_
  rintro e w2 ⟨rfl, hb2⟩
  obtain ⟨hx0, hx1⟩ := HX.out w2 hb2
  obtain ⟨x0, x1, _, _⟩ := two_cells hx0
  have HB2 := hid (HB0.out.trans (hb2.mono HB0.out.size))
  have hs2 : w.heap.size + 2 ≤ w2.heap.size := by have := hb2.size; have := HS.out; omega
  have HY := hid hx1
  clear hb2 hx0 hx1
  go_wp2_with fail
  have HB2d : Hid (Below w.heap.size w w2.drew) := HB2.out.drew
  have hsd : w2.drew.heap.size = w2.heap.size := rfl
  go_region_held3 (fun w' => w'.cell? ⟨w.heap.size, 0, none⟩ = some (.int .i64 m) ∧ w'.cell? ⟨w.heap.size, 1, none⟩ = some (.slice a l.length cap)) (go_keep)
   (first
    | (go_at_call 19; refine (HCP.out _ HB2d.out).mono ?_; rintro e w4 ⟨r4, rfl, hr4, hb4⟩; obtain ⟨q0, q1⟩ := (show w4.cell? ⟨w.heap.size, 0, none⟩ = some (.int .i64 m) ∧ w4.cell? ⟨w.heap.size, 1, none⟩ = some (.slice a l.length cap) from ⟨(hb4.cell (p := ⟨w.heap.size, 0, none⟩) (by show w.heap.size < _; omega)).trans x0, (hb4.cell (p := ⟨w.heap.size, 1, none⟩) (by show w.heap.size < _; omega)).trans x1⟩); obtain ⟨ra, rc, hr⟩ := ownsRow_form' hr4; subst hr; have hx1 := (hb4.block (w.heap.size + 1) (by omega)).trans (show w2.drew.heap[w.heap.size + 1]? = _ from HY.out); obtain ⟨y2, y3, g2, g3⟩ := two_cells hx1; have HC := hid (set_two (x := .int .i64 m) (y := .slice ra acc.length rc) hx1); have HB4 := hid (HB2d.out.trans (hb4.mono HB2d.out.size)); have HD := hid (below_two (b := w.heap.size + 1) (x := .int .i64 m) (y := .slice ra acc.length rc) HB4.out (by omega)); have HII := hid ((hr4.set2 (b := w.heap.size + 1) (x := .int .i64 m) (y := .slice ra acc.length rc) (by omega)).mono (by omega : w.heap.size ≤ _)); clear hb4 hr4 hx1))
  go_wp2_with fail
  obtain ⟨c0, c1⟩ := HC.out
  refine bodyPost_ret (v := .tuple #[.agg #[.int .i64 m, .slice ra _ rc], .int .i64 0]) ?_ rfl ⟨_, rfl, HII.out, HD.out⟩
  simp [results, Try.f7, go_sem, c0, c1]
set_option maxHeartbeats 800000 in
theorem Dual_bad (n : Int) (v : Value) (zs : List Int) (w : World) (h : Ints w v zs) (hc : chkR n zs ≠ 0) :
    Calls Try.prog 7 #[.agg #[.int .i64 n, v]] w (BadM w (chkR n zs)) := by
  have HI := hid h
  obtain ⟨a, cap, rfl, _, _⟩ := h
  have HB0 := hid (boxM_below w n (.slice a zs.length cap))
  have HC := hid (check_any n _ zs _ (HI.out.below HB0.out))
  have HX : Hid (∀ w2, Below (boxM w n (.slice a zs.length cap)).heap.size (boxM w n (.slice a zs.length cap)) w2 → _) := fun w2 h => boxM_blocks h
  generalize chkR n zs = q at *
  have hc' : (q == 0) = false := by rw [beq_eq_false_iff_ne]; exact hc
  go_enter Try.func7, Try.ntmps7
  go_wp2_with fail
  refine HC.out.mono ?_
  rintro e w4 ⟨rfl, hb4⟩
  obtain ⟨_, hx1⟩ := HX.out w4 hb4
  have HB4 := hid (HB0.out.trans (hb4.mono HB0.out.size))
  have HC := hid (set_two (x := .int .i64 0) (y := .slice none 0 0) hx1)
  have HD := hid (below_two (b := w.heap.size + 1) (x := .int .i64 0) (y := .slice none 0 0) HB4.out (by omega))
  obtain ⟨y2, y3, g2, g3⟩ := two_cells hx1
  clear hb4 hx1
  go_wp2_with fail
  obtain ⟨c0, c1⟩ := HC.out
  refine bodyPost_ret (v := .tuple #[.agg #[.int .i64 0, .slice none 0 0], .int .i64 q]) ?_ rfl ⟨rfl, HD.out⟩
  simp [results, Try.f7, go_sem, c0, c1]
end Go.Proofs.Ytgkkemlemnlchaa
