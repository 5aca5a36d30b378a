/- field.Reduced, field.Rank: the walks. -/
import Derived.Test.YteeliinmpbleoaaFdHQ
namespace Go.Proofs.Yteeliinmpbleoaa
open Go.RowKit

set_option maxRecDepth 20000 in
set_option maxHeartbeats 1000000 in
theorem Reduced_ok (p : Int) (c : Nat) (v : Value) (R : List (List Int)) (w : World) (h : RowsI w v R) (hm : MatOK p c R) :
    Calls Try.prog 8 #[.agg #[.int .i64 p, .int .i64 c, v]] w fun e w' => ∃ u, e = .returned (.tuple #[.agg #[.int .i64 p, .int .i64 c, u], .int .i64 0]) ∧ RowsN w.heap.size w' u (redL p c R) ∧ Below w.heap.size w w' := by
  obtain ⟨q1, q2, q3, q4⟩ := bxM_ok w p c v
  have CM := hid (CheckMatrix_any p c v R _ (h.below q2))
  rw [MatOK.iff.2 hm] at CM
  have RD : Hid (∀ w2, Below (bxM w p c v).heap.size (bxM w p c v) w2 → Calls Try.prog 32 #[.agg #[.int .i64 p, .int .i64 c, v]] w2 fun e w' => ∃ u, e = .returned (.agg #[.int .i64 p, .int .i64 c, u]) ∧ RowsN w2.heap.size w' u (redL p c R) ∧ Below w2.heap.size w2 w') := fun w2 hb => reduced_any p c v R w2 ((h.below q2).below hb) hm
  have HX : Hid (∀ w2, Below (bxM w p c v).heap.size (bxM w p c v) w2 → w2.heap[w.heap.size]? = some (.cells #[.int .i64 p, .int .i64 c, v] 24 (0, 0)) ∧ w2.heap[w.heap.size + 1]? = some (.cells #[.int .i64 0, .int .i64 0, .slice none 0 0] 24 (0, 0))) := fun w2 hb => ⟨(hb.block _ (by omega)).trans q3, (hb.block _ (by omega)).trans q4⟩
  have Q1 := hid q1
  have Q2 := hid q2
  obtain ⟨x0, x1, x2⟩ := three_cells q3
  clear h hm q1 q2 q3 q4
  unfold bxM at CM RD HX Q1 Q2 x0 x1 x2
  go_enter Try.func8, Try.ntmps8
  go_wp2_with fail
  generalize (w.alloc (.cells #[.int .i64 p, .int .i64 c, v] 24)).alloc (.cells #[.int .i64 0, .int .i64 0, .slice none 0 0] 24) = W0 at CM RD HX Q1 Q2 x0 x1 x2 ⊢
  refine CM.out.mono ?_
  rintro e w2 ⟨rfl, hb2⟩
  have HB2 := hid hb2
  clear CM x0 x1 x2 hb2
  obtain ⟨x0, x1, x2⟩ := three_cells (HX.out _ HB2.out).1
  go_wp2_with fail
  refine (RD.out w2 HB2.out).mono ?_
  rintro e w3 ⟨u, rfl, h3, h4⟩
  have B3 : Hid (Below W0.heap.size W0 w3) := HB2.out.trans (h4.mono HB2.out.size)
  have hX3 := HX.out _ B3.out
  obtain ⟨y0, y1, y2⟩ := three_cells hX3.2
  obtain ⟨z0, z1, z2⟩ := three_frozen hX3.2
  have HR3 := hid (set_three (x' := .int .i64 p) (y' := .int .i64 c) (z' := u) hX3.2)
  have SV := save_three w3 (w.heap.size + 1) (.int .i64 p) (.int .i64 c) u
  have hs2 := HB2.out.size
  have hs0 := Q1.out
  have HRW := hid ((h3.save SV (fun b hb => by omega)).mono (show w.heap.size ≤ w2.heap.size by omega))
  have HBW := hid (SV.below (Q2.out.trans (B3.out.mono (by omega))) (by have := B3.out.size; omega) (fun b e => by omega))
  clear RD HX h3 h4 B3 hX3 SV hs2 hs0
  obtain ⟨n0, n1, n2⟩ := three_cells HR3.out
  obtain ⟨ua, ucap, rfl⟩ := HRW.out.form
  clear HR3
  go_wp2_with fail
  refine bodyPost_ret (v := .tuple #[.agg #[.int .i64 p, .int .i64 c, .slice ua (redL p c R).length ucap], .int .i64 0]) ?_ rfl ⟨_, rfl, HRW.out, HBW.out⟩
  simp [results, Try.f8, go_sem, n0, n1, n2]
set_option maxRecDepth 20000 in
set_option maxHeartbeats 1000000 in
theorem Reduced_bad (p c : Int) (v : Value) (R : List (List Int)) (w : World) (h : RowsI w v R) (hm : matR p c R = 1) :
    Calls Try.prog 8 #[.agg #[.int .i64 p, .int .i64 c, v]] w fun e w' => e = .returned (.tuple #[.agg #[.int .i64 0, .int .i64 0, .slice none 0 0], .int .i64 1]) ∧ Below w.heap.size w w' := by
  obtain ⟨q1, q2, q3, q4⟩ := bxM_ok w p c v
  have CM := hid (CheckMatrix_any p c v R _ (h.below q2))
  rw [hm] at CM
  have HX : Hid (∀ w2, Below (bxM w p c v).heap.size (bxM w p c v) w2 → w2.heap[w.heap.size + 1]? = some (.cells #[.int .i64 0, .int .i64 0, .slice none 0 0] 24 (0, 0))) := fun w2 hb => (hb.block _ (by omega)).trans q4
  have Q1 := hid q1
  have Q2 := hid q2
  obtain ⟨x0, x1, x2⟩ := three_cells q3
  clear h hm q1 q2 q3 q4
  unfold bxM at CM HX Q1 Q2 x0 x1 x2
  go_enter Try.func8, Try.ntmps8
  go_wp2_with fail
  generalize (w.alloc (.cells #[.int .i64 p, .int .i64 c, v] 24)).alloc (.cells #[.int .i64 0, .int .i64 0, .slice none 0 0] 24) = W0 at CM HX Q1 Q2 x0 x1 x2 ⊢
  refine CM.out.mono ?_
  rintro e w2 ⟨rfl, hb2⟩
  have HB2 := hid hb2
  clear CM x0 x1 x2 hb2
  have hX3 := HX.out _ HB2.out
  obtain ⟨y0, y1, y2⟩ := three_cells hX3
  obtain ⟨z0, z1, z2⟩ := three_frozen hX3
  have HR3 := hid (set_three (x' := .int .i64 0) (y' := .int .i64 0) (z' := .slice none 0 0) hX3)
  have SV := save_three w2 (w.heap.size + 1) (.int .i64 0) (.int .i64 0) (.slice none 0 0)
  have hs2 := HB2.out.size
  have hs0 := Q1.out
  have HBW := hid (SV.below (Q2.out.trans (HB2.out.mono (by omega))) (by omega) (fun b e => by omega))
  clear HX hX3 SV hs2 hs0
  obtain ⟨n0, n1, n2⟩ := three_cells HR3.out
  clear HR3
  go_wp2_with fail
  refine bodyPost_ret (v := .tuple #[.agg #[.int .i64 0, .int .i64 0, .slice none 0 0], .int .i64 1]) ?_ rfl ⟨rfl, HBW.out⟩
  simp [results, Try.f8, go_sem, n0, n1, n2]
end Go.Proofs.Yteeliinmpbleoaa
