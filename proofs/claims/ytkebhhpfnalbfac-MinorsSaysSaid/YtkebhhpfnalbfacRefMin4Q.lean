/- The document's minors: rotaref.Dual, Cut. -/
import Derived.Test.YtkebhhpfnalbfacRefMin3Q
namespace Go.Proofs.Ytkebhhpfnalbfac
open Go.RowKit

set_option maxRecDepth 20000 in
set_option maxHeartbeats 3200000 in
theorem Dual_ref (m : Nat) (v : Value) (l : List Nat) (w : World) (hm : m ≤ 8) (hf : Fam m l) (hb : Bas l) (h : Ints w v (N l)) :
    Calls Try.prog 42 #[.agg #[.int .i64 m, v]] w fun e w' => ∃ r, e = .returned (.agg #[.int .i64 m, r]) ∧ Own w.heap.size w' r (cmp m l) ∧ Below w.heap.size w w' := by
  have HI := hid h
  obtain ⟨a, cap, hv, _, _⟩ := h.nats
  subst hv
  have HB0 := hid (boxM_below w m (.slice a l.length cap))
  have HRK := hid (Ranks_ref m _ l _ hm (hf.lt256 hm) (HI.out.below HB0.out))
  have HX : Hid (∀ w2, Below (boxM w m (.slice a l.length cap)).heap.size (boxM w m (.slice a l.length cap)) w2 → _) := fun w2 h => boxM_blocks h
  have HSZ := hid (boxM_size w m (.slice a l.length cap))
  obtain ⟨acc, HACC⟩ : ∃ acc : List Nat, Hid (cmp m l = acc) := ⟨_, rfl⟩
  rw [HACC.out]
  go_enter Try.func42, Try.ntmps42
  go_wp2_with fail
  refine HRK.out.mono ?_
  rintro e w1 ⟨r1, rfl, hr1, hb1⟩
  obtain ⟨hx0, hx2⟩ := HX.out w1 hb1
  have HR1 := hid hr1
  obtain ⟨rb, roff, rcap, rfl, _, _⟩ := hr1
  have HY0 := hid hx0
  have HY2 := hid hx2
  have HB1 := hid (HB0.out.trans (hb1.mono HB0.out.size))
  have hsz1 : w.heap.size + 1 + 1 ≤ w1.heap.size := by have := hb1.size; have := HSZ.out; omega
  obtain ⟨x00, _, _, _⟩ := two_cells hx0
  have z0 := fun o => cellA (W := w1) o x00
  clear hb1 hx0 hx2 x00
  go_wp2_with fail
  clear z0
  have bR := Boxed.new w1 22 (.slice (some ⟨rb, roff, none⟩) (2 ^ m) rcap)
  have hBK : Below w1.heap.size w1 (w1.alloc (.cells #[.slice (some ⟨rb, roff, none⟩) (2 ^ m) rcap] 22)) := (Below.refl _ _).alloc (Nat.le_refl _) _
  have hszK : (w1.alloc (.cells #[.slice (some ⟨rb, roff, none⟩) (2 ^ m) rcap] 22)).heap.size = w1.heap.size + 1 := by simp
  have HbR := hid bR
  have HBK := hid hBK
  clear bR hBK
  revert hszK HbR HBK
  generalize (w1.alloc (.cells #[.slice (some ⟨rb, roff, none⟩) (2 ^ m) rcap] 22)) = W2
  intro hszK HbR HBK
  have HW2 := hid (HB1.out.trans (HBK.out.mono HB1.out.size))
  have HZ0 : Hid (W2.heap[w.heap.size]? = some (.cells #[.int .i64 m, .slice a l.length cap] 24 (0, 0))) := (HBK.out.block _ (by omega)).trans HY0.out
  have HZ2 : Hid (W2.heap[w.heap.size + 1]? = some (.cells #[.int .i64 0, .slice none 0 0] 24 (0, 0))) := (HBK.out.block _ (by omega)).trans HY2.out
  obtain ⟨x0, _, _, _⟩ := two_cells HZ0.out
  have HRA := hid (HR1.out.below HBK.out)
  have ORK := hid (fun w' (hb' : Below W2.heap.size W2 w') => OfRank_any m 90 #[.pointer (some ⟨w1.heap.size, 0, none⟩), .pointer (some ⟨w.heap.size, 0, none⟩)] (dualR m (rk l)) w' hm (fun args w => enters_of Try.func90 (by kernel_rfl) rfl args w)
    (fun x hx w3 hb3 _ => by
      have hbb := hb'.trans (hb3.mono hb'.size)
      have c1 := (hbb.cell (p := ⟨w1.heap.size, 0, none⟩) (by show w1.heap.size < _; omega)).trans HbR.out.cell
      have c2 := (hbb.cell (p := ⟨w.heap.size, 0, none⟩) (by show w.heap.size < _; omega)).trans x0
      exact DualQ_ok x w1.heap.size w.heap.size m _ (rk l) w3 hm hx (rk_small hm hf) (dual_ge (hb.rkOn m) hx) c1 c2 (HRA.out.below hbb)))
  rw [show basR m (dualR m (rk l)) = acc by rw [← HACC.out]; exact basR_cmp hm hf hb] at ORK
  have ne1 : ¬ w.heap.size + 1 = w.heap.size := by omega
  have ne2 : ¬ w.heap.size = w.heap.size + 1 := by omega
  have HBd : Hid (Below W2.heap.size W2 W2.drew) := (Below.refl _ _).drew
  refine (ORK.out _ (Below.refl _ _)).mono ?_
  rintro e w4 ⟨r4, rfl, hr4, hb4⟩
  obtain ⟨ra, rc, hr⟩ := ownsRow_form' hr4
  subst hr
  have hxx := (hb4.block (w.heap.size + 1) (by omega)).trans HZ2.out
  obtain ⟨y2, y3, g2, g3⟩ := two_cells hxx
  have HC := hid (set_two (x := .int .i64 m) (y := .slice ra acc.length rc) hxx)
  have HB4 := hid (HW2.out.trans (hb4.mono HW2.out.size))
  have HD := hid (below_two (b := w.heap.size + 1) (x := .int .i64 m) (y := .slice ra acc.length rc) HB4.out (by omega))
  have HII := hid ((hr4.set2 (b := w.heap.size + 1) (x := .int .i64 m) (y := .slice ra acc.length rc) (by omega)).mono (by omega : w.heap.size ≤ _))
  clear hb4 hr4 hxx
  all_goals go_wp2_with fail
  all_goals obtain ⟨c0, c1⟩ := HC.out
  all_goals refine bodyPost_ret (v := .agg #[.int .i64 m, .slice ra _ rc]) ?_ rfl ⟨_, rfl, HII.out, HD.out⟩
  all_goals simp [results, Try.f42, go_sem, c0, c1]
set_option maxRecDepth 20000 in
set_option maxHeartbeats 3200000 in
theorem Cut_ref (m k : Nat) (v : Value) (l : List Nat) (w : World) (hm : m ≤ 8) (hf : Fam m l) (_ : Bas l) (h : Ints w v (N l)) :
    Calls Try.prog 46 #[.agg #[.int .i64 m, v], .int .i64 k] w fun e w' => ∃ r, e = .returned (.agg #[.int .i64 m, r]) ∧ Own w.heap.size w' r (cutL m l k) ∧ Below w.heap.size w w' := by
  have HI := hid h
  obtain ⟨a, cap, hv, _, _⟩ := h.nats
  subst hv
  have HB0 := hid (boxW_below w m (.slice a l.length cap) k)
  have HRK := hid (Ranks_ref m _ l _ hm (hf.lt256 hm) (HI.out.below HB0.out))
  have HX : Hid (∀ w2, Below (boxW w m (.slice a l.length cap) k).heap.size (boxW w m (.slice a l.length cap) k) w2 → _) := fun w2 h => boxW_blocks h
  have HSZ := hid (boxW_size w m (.slice a l.length cap) k)
  obtain ⟨acc, HACC⟩ : ∃ acc : List Nat, Hid (cutL m l k = acc) := ⟨_, rfl⟩
  rw [HACC.out]
  go_enter Try.func46, Try.ntmps46
  go_wp2_with fail
  refine HRK.out.mono ?_
  rintro e w1 ⟨r1, rfl, hr1, hb1⟩
  obtain ⟨hx0, hx1, hx2⟩ := HX.out w1 hb1
  have HR1 := hid hr1
  obtain ⟨rb, roff, rcap, rfl, _, _⟩ := hr1
  have HY0 := hid hx0
  have HY1 := hid hx1
  have HY2 := hid hx2
  have HB1 := hid (HB0.out.trans (hb1.mono HB0.out.size))
  have hsz1 : w.heap.size + 1 + 1 + 1 ≤ w1.heap.size := by have := hb1.size; have := HSZ.out; omega
  obtain ⟨x00, _, _, _⟩ := two_cells hx0
  have z0 := fun o => cellA (W := w1) o x00
  clear hb1 hx0 hx2 hx1 x00
  go_wp2_with fail
  clear z0
  have bR := Boxed.new w1 22 (.slice (some ⟨rb, roff, none⟩) (2 ^ m) rcap)
  have hBK : Below w1.heap.size w1 (w1.alloc (.cells #[.slice (some ⟨rb, roff, none⟩) (2 ^ m) rcap] 22)) := (Below.refl _ _).alloc (Nat.le_refl _) _
  have hszK : (w1.alloc (.cells #[.slice (some ⟨rb, roff, none⟩) (2 ^ m) rcap] 22)).heap.size = w1.heap.size + 1 := by simp
  have HbR := hid bR
  have HBK := hid hBK
  clear bR hBK
  revert hszK HbR HBK
  generalize (w1.alloc (.cells #[.slice (some ⟨rb, roff, none⟩) (2 ^ m) rcap] 22)) = W2
  intro hszK HbR HBK
  have HW2 := hid (HB1.out.trans (HBK.out.mono HB1.out.size))
  have HZ0 : Hid (W2.heap[w.heap.size]? = some (.cells #[.int .i64 m, .slice a l.length cap] 24 (0, 0))) := (HBK.out.block _ (by omega)).trans HY0.out
  have HZ1 : Hid (Boxed W2 (w.heap.size + 1) 3 (.int .i64 k)) := (HBK.out.block _ (by omega)).trans HY1.out
  have HZ2 : Hid (W2.heap[w.heap.size + 1 + 1]? = some (.cells #[.int .i64 0, .slice none 0 0] 24 (0, 0))) := (HBK.out.block _ (by omega)).trans HY2.out
  obtain ⟨x0, _, _, _⟩ := two_cells HZ0.out
  have HRA := hid (HR1.out.below HBK.out)
  have ORK := hid (fun w' (hb' : Below W2.heap.size W2 w') => OfRank_any m 95 #[.pointer (some ⟨w1.heap.size, 0, none⟩), .pointer (some ⟨w.heap.size + 1, 0, none⟩)] (cutR (rk l) k) w' hm (fun args w => enters_of Try.func95 (by kernel_rfl) rfl args w)
    (fun x hx w3 hb3 _ => by
      have hbb := hb'.trans (hb3.mono hb'.size)
      have c1 := (hbb.cell (p := ⟨w1.heap.size, 0, none⟩) (by show w1.heap.size < _; omega)).trans HbR.out.cell
      have c2 := (hbb.cell (p := ⟨w.heap.size + 1, 0, none⟩) (by show w.heap.size + 1 < _; omega)).trans HZ1.out.cell
      exact CutQ_ok x w1.heap.size (w.heap.size + 1) k (2 ^ m) _ (rk l) w3 hx c1 c2 (HRA.out.below hbb)))
  rw [show basR m (cutR (rk l) k) = acc by rw [← HACC.out]; rfl] at ORK
  have ne1 : ¬ w.heap.size + 1 + 1 = w.heap.size := by omega
  have ne2 : ¬ w.heap.size = w.heap.size + 1 + 1 := by omega
  have HBd : Hid (Below W2.heap.size W2 W2.drew) := (Below.refl _ _).drew
  refine (ORK.out _ (Below.refl _ _)).mono ?_
  rintro e w4 ⟨r4, rfl, hr4, hb4⟩
  obtain ⟨ra, rc, hr⟩ := ownsRow_form' hr4
  subst hr
  have hxx := (hb4.block (w.heap.size + 1 + 1) (by omega)).trans HZ2.out
  obtain ⟨y2, y3, g2, g3⟩ := two_cells hxx
  have HC := hid (set_two (x := .int .i64 m) (y := .slice ra acc.length rc) hxx)
  have HB4 := hid (HW2.out.trans (hb4.mono HW2.out.size))
  have HD := hid (below_two (b := w.heap.size + 1 + 1) (x := .int .i64 m) (y := .slice ra acc.length rc) HB4.out (by omega))
  have HII := hid ((hr4.set2 (b := w.heap.size + 1 + 1) (x := .int .i64 m) (y := .slice ra acc.length rc) (by omega)).mono (by omega : w.heap.size ≤ _))
  clear hb4 hr4 hxx
  all_goals go_wp2_with fail
  all_goals obtain ⟨c0, c1⟩ := HC.out
  all_goals refine bodyPost_ret (v := .agg #[.int .i64 m, .slice ra _ rc]) ?_ rfl ⟨_, rfl, HII.out, HD.out⟩
  all_goals simp [results, Try.f46, go_sem, c0, c1]
end Go.Proofs.Ytkebhhpfnalbfac
