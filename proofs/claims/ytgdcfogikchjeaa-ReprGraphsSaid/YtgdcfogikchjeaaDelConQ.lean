/- minors.Delete, minors.Contract. -/
import Derived.Test.YtgdcfogikchjeaaWithoutQ
namespace Go.Proofs.Ytgdcfogikchjeaa
open Go.RowKit

set_option maxHeartbeats 800000 in
theorem Delete_ok (m s : Nat) (v : Value) (l : List Nat) (w : World) (hm : m ≤ 8) (hf : Fam m l) (hb : Bas l) (h : Ints w v (N l)) (hs : s < 2 ^ m) :
    Calls Try.prog 31 #[.agg #[.int .i64 m, v], .int .i64 s] w (GivesO w (pop (dif (2 ^ m - 1) s) : Nat) (minL m l s 0)) := by
  have HI := hid h
  obtain ⟨a, cap, hv, _, _⟩ := h.nats
  subst hv
  have HB0 := hid (boxM_below w m (.slice a l.length cap))
  have HC := hid (without_ok m s 0 _ l _ hm hf hb (HI.out.below HB0.out) hs (Nat.two_pow_pos m))
  have HX : Hid (∀ w2, Below (boxM w m (.slice a l.length cap)).heap.size (boxM w m (.slice a l.length cap)) w2 → _) := fun w2 h => boxM_blocks h
  have HS := hid (boxM_size w m (.slice a l.length cap))
  generalize pop (dif (2 ^ m - 1) s) = n2 at *
  generalize minL m l s 0 = acc at *
  go_enter Try.func31, Try.ntmps31
  go_wp2_with fail
  refine HC.out.mono ?_
  rintro e w4 ⟨r4, rfl, hr4, hb4⟩
  obtain ⟨_, hx1⟩ := HX.out w4 hb4
  have HB4 := hid (HB0.out.trans (hb4.mono HB0.out.size))
  have HF := hid (ownsRow_form' hr4)
  obtain ⟨ra, rc, hr⟩ := HF.out
  subst hr
  have HC := hid (set_two (x := .int .i64 n2) (y := .slice ra acc.length rc) hx1)
  have HD := hid (below_two (b := w.heap.size + 1) (x := .int .i64 n2) (y := .slice ra acc.length rc) HB4.out (by omega))
  have HII := hid ((hr4.set2 (b := w.heap.size + 1) (x := .int .i64 n2) (y := .slice ra acc.length rc) (by have := HS.out; omega)).mono (by have := HS.out; omega : w.heap.size ≤ _))
  obtain ⟨y2, y3, g2, g3⟩ := two_cells hx1
  clear hb4 hr4 hx1
  go_wp2_with fail
  obtain ⟨c0, c1⟩ := HC.out
  refine bodyPost_ret (v := .tuple #[.agg #[.int .i64 n2, .slice ra _ rc], .int .i64 0]) ?_ rfl ⟨_, rfl, HII.out, HD.out⟩
  simp [results, Try.f31, go_sem, c0, c1]
set_option maxHeartbeats 800000 in
theorem Delete_bad (n s : Int) (v : Value) (zs : List Int) (w : World) (h : Ints w v zs) (hc : chkR n zs ≠ 0) :
    Calls Try.prog 31 #[.agg #[.int .i64 n, v], .int .i64 s] w (BadM w (chkR n zs)) := by
  have HI := hid h
  obtain ⟨a, cap, rfl, _, _⟩ := h
  have HB0 := hid (boxM_below w n (.slice a zs.length cap))
  have HC := hid (without_bad n s 0 _ zs _ (HI.out.below HB0.out) hc)
  have HX : Hid (∀ w2, Below (boxM w n (.slice a zs.length cap)).heap.size (boxM w n (.slice a zs.length cap)) w2 → _) := fun w2 h => boxM_blocks h
  generalize chkR n zs = q at *
  go_enter Try.func31, Try.ntmps31
  go_wp2_with fail
  refine HC.out.mono ?_
  rintro e w4 ⟨rfl, hb4⟩
  obtain ⟨_, hx1⟩ := HX.out w4 hb4
  have HB4 := hid (HB0.out.trans (hb4.mono HB0.out.size))
  have HC := hid (set_two (x := .int .i64 0) (y := .slice none 0 0) hx1)
  have HD := hid (below_two (b := w.heap.size + 1) (x := .int .i64 0) (y := .slice none 0 0) HB4.out (by omega))
  obtain ⟨y2, y3, g2, g3⟩ := two_cells hx1
  clear hb4 hx1
  go_wp2_with fail
  obtain ⟨c0, c1⟩ := HC.out
  refine bodyPost_ret (v := .tuple #[.agg #[.int .i64 0, .slice none 0 0], .int .i64 q]) ?_ rfl ⟨rfl, HD.out⟩
  simp [results, Try.f31, go_sem, c0, c1]
set_option maxHeartbeats 800000 in
theorem Delete_arg (m : Nat) (s : Int) (v : Value) (l : List Nat) (w : World) (hm : m ≤ 8) (hf : Fam m l) (hb : Bas l) (h : Ints w v (N l)) (hs : setR m s = 1) :
    Calls Try.prog 31 #[.agg #[.int .i64 m, v], .int .i64 s] w (BadM w 1) := by
  have HI := hid h
  obtain ⟨a, cap, hv, _, _⟩ := h.nats
  subst hv
  have HB0 := hid (boxM_below w m (.slice a l.length cap))
  have HC := hid (without_arg m s 0 _ l _ hm hf hb (HI.out.below HB0.out) hs)
  have HX : Hid (∀ w2, Below (boxM w m (.slice a l.length cap)).heap.size (boxM w m (.slice a l.length cap)) w2 → _) := fun w2 h => boxM_blocks h
  go_enter Try.func31, Try.ntmps31
  go_wp2_with fail
  refine HC.out.mono ?_
  rintro e w4 ⟨rfl, hb4⟩
  obtain ⟨_, hx1⟩ := HX.out w4 hb4
  have HB4 := hid (HB0.out.trans (hb4.mono HB0.out.size))
  have HC := hid (set_two (x := .int .i64 0) (y := .slice none 0 0) hx1)
  have HD := hid (below_two (b := w.heap.size + 1) (x := .int .i64 0) (y := .slice none 0 0) HB4.out (by omega))
  obtain ⟨y2, y3, g2, g3⟩ := two_cells hx1
  clear hb4 hx1
  go_wp2_with fail
  obtain ⟨c0, c1⟩ := HC.out
  refine bodyPost_ret (v := .tuple #[.agg #[.int .i64 0, .slice none 0 0], .int .i64 1]) ?_ rfl ⟨rfl, HD.out⟩
  simp [results, Try.f31, go_sem, c0, c1]
set_option maxHeartbeats 800000 in
theorem Contract_ok (m s : Nat) (v : Value) (l : List Nat) (w : World) (hm : m ≤ 8) (hf : Fam m l) (hb : Bas l) (h : Ints w v (N l)) (hs : s < 2 ^ m) :
    Calls Try.prog 73 #[.agg #[.int .i64 m, v], .int .i64 s] w (GivesO w (pop (dif (2 ^ m - 1) s) : Nat) (minL m l s s)) := by
  have HI := hid h
  obtain ⟨a, cap, hv, _, _⟩ := h.nats
  subst hv
  have HB0 := hid (boxM_below w m (.slice a l.length cap))
  have HC := hid (without_ok m s s _ l _ hm hf hb (HI.out.below HB0.out) hs hs)
  have HX : Hid (∀ w2, Below (boxM w m (.slice a l.length cap)).heap.size (boxM w m (.slice a l.length cap)) w2 → _) := fun w2 h => boxM_blocks h
  have HS := hid (boxM_size w m (.slice a l.length cap))
  generalize pop (dif (2 ^ m - 1) s) = n2 at *
  generalize minL m l s s = acc at *
  go_enter Try.func73, Try.ntmps73
  go_wp2_with fail
  refine HC.out.mono ?_
  rintro e w4 ⟨r4, rfl, hr4, hb4⟩
  obtain ⟨_, hx1⟩ := HX.out w4 hb4
  have HB4 := hid (HB0.out.trans (hb4.mono HB0.out.size))
  have HF := hid (ownsRow_form' hr4)
  obtain ⟨ra, rc, hr⟩ := HF.out
  subst hr
  have HC := hid (set_two (x := .int .i64 n2) (y := .slice ra acc.length rc) hx1)
  have HD := hid (below_two (b := w.heap.size + 1) (x := .int .i64 n2) (y := .slice ra acc.length rc) HB4.out (by omega))
  have HII := hid ((hr4.set2 (b := w.heap.size + 1) (x := .int .i64 n2) (y := .slice ra acc.length rc) (by have := HS.out; omega)).mono (by have := HS.out; omega : w.heap.size ≤ _))
  obtain ⟨y2, y3, g2, g3⟩ := two_cells hx1
  clear hb4 hr4 hx1
  go_wp2_with fail
  obtain ⟨c0, c1⟩ := HC.out
  refine bodyPost_ret (v := .tuple #[.agg #[.int .i64 n2, .slice ra _ rc], .int .i64 0]) ?_ rfl ⟨_, rfl, HII.out, HD.out⟩
  simp [results, Try.f73, go_sem, c0, c1]
set_option maxHeartbeats 800000 in
theorem Contract_bad (n s : Int) (v : Value) (zs : List Int) (w : World) (h : Ints w v zs) (hc : chkR n zs ≠ 0) :
    Calls Try.prog 73 #[.agg #[.int .i64 n, v], .int .i64 s] w (BadM w (chkR n zs)) := by
  have HI := hid h
  obtain ⟨a, cap, rfl, _, _⟩ := h
  have HB0 := hid (boxM_below w n (.slice a zs.length cap))
  have HC := hid (without_bad n s s _ zs _ (HI.out.below HB0.out) hc)
  have HX : Hid (∀ w2, Below (boxM w n (.slice a zs.length cap)).heap.size (boxM w n (.slice a zs.length cap)) w2 → _) := fun w2 h => boxM_blocks h
  generalize chkR n zs = q at *
  go_enter Try.func73, Try.ntmps73
  go_wp2_with fail
  refine HC.out.mono ?_
  rintro e w4 ⟨rfl, hb4⟩
  obtain ⟨_, hx1⟩ := HX.out w4 hb4
  have HB4 := hid (HB0.out.trans (hb4.mono HB0.out.size))
  have HC := hid (set_two (x := .int .i64 0) (y := .slice none 0 0) hx1)
  have HD := hid (below_two (b := w.heap.size + 1) (x := .int .i64 0) (y := .slice none 0 0) HB4.out (by omega))
  obtain ⟨y2, y3, g2, g3⟩ := two_cells hx1
  clear hb4 hx1
  go_wp2_with fail
  obtain ⟨c0, c1⟩ := HC.out
  refine bodyPost_ret (v := .tuple #[.agg #[.int .i64 0, .slice none 0 0], .int .i64 q]) ?_ rfl ⟨rfl, HD.out⟩
  simp [results, Try.f73, go_sem, c0, c1]
set_option maxHeartbeats 800000 in
theorem Contract_arg (m : Nat) (s : Int) (v : Value) (l : List Nat) (w : World) (hm : m ≤ 8) (hf : Fam m l) (hb : Bas l) (h : Ints w v (N l)) (hs : setR m s = 1) :
    Calls Try.prog 73 #[.agg #[.int .i64 m, v], .int .i64 s] w (BadM w 1) := by
  have HI := hid h
  obtain ⟨a, cap, hv, _, _⟩ := h.nats
  subst hv
  have HB0 := hid (boxM_below w m (.slice a l.length cap))
  have HC := hid (without_arg m s s _ l _ hm hf hb (HI.out.below HB0.out) hs)
  have HX : Hid (∀ w2, Below (boxM w m (.slice a l.length cap)).heap.size (boxM w m (.slice a l.length cap)) w2 → _) := fun w2 h => boxM_blocks h
  go_enter Try.func73, Try.ntmps73
  go_wp2_with fail
  refine HC.out.mono ?_
  rintro e w4 ⟨rfl, hb4⟩
  obtain ⟨_, hx1⟩ := HX.out w4 hb4
  have HB4 := hid (HB0.out.trans (hb4.mono HB0.out.size))
  have HC := hid (set_two (x := .int .i64 0) (y := .slice none 0 0) hx1)
  have HD := hid (below_two (b := w.heap.size + 1) (x := .int .i64 0) (y := .slice none 0 0) HB4.out (by omega))
  obtain ⟨y2, y3, g2, g3⟩ := two_cells hx1
  clear hb4 hx1
  go_wp2_with fail
  obtain ⟨c0, c1⟩ := HC.out
  refine bodyPost_ret (v := .tuple #[.agg #[.int .i64 0, .slice none 0 0], .int .i64 1]) ?_ rfl ⟨rfl, HD.out⟩
  simp [results, Try.f73, go_sem, c0, c1]
end Go.Proofs.Ytgdcfogikchjeaa
