/- field.Reduced, field.Rank. -/
import Derived.Test.YtcncaaeofcmefaaFdGQ
import Derived.Test.YtcncaaeofcmefaaKLlQ
namespace Go.Proofs.Ytcncaaeofcmefaa
open Go.RowKit

/-- The boxes of a matrix that comes in and of one that goes out. -/
def bxM (w : World) (p c : Int) (v : Value) : World := (w.alloc (.cells #[.int .i64 p, .int .i64 c, v] 24)).alloc (.cells #[.int .i64 0, .int .i64 0, .slice none 0 0] 24)
theorem bxM_ok (w : World) (p c : Int) (v : Value) : (bxM w p c v).heap.size = w.heap.size + 1 + 1 ∧ Below w.heap.size w (bxM w p c v) ∧ (bxM w p c v).heap[w.heap.size]? = some (.cells #[.int .i64 p, .int .i64 c, v] 24 (0, 0)) ∧ (bxM w p c v).heap[w.heap.size + 1]? = some (.cells #[.int .i64 0, .int .i64 0, .slice none 0 0] 24 (0, 0)) := by
  have e1 : (w.alloc (.cells #[.int .i64 p, .int .i64 c, v] 24)).heap.size = w.heap.size + 1 := by simp
  have b1 : Below (w.heap.size + 1) (w.alloc (.cells #[.int .i64 p, .int .i64 c, v] 24)) (bxM w p c v) := (Below.refl _ _).alloc (by omega) _
  refine ⟨by simp [bxM], ((Below.refl _ _).alloc (Nat.le_refl _) _).alloc (by simp) _, (b1.block _ (by omega)).trans (World.alloc_heap_new w _), ?_⟩
  have := World.alloc_heap_new (w.alloc (.cells #[.int .i64 p, .int .i64 c, v] 24)) (.cells #[.int .i64 0, .int .i64 0, .slice none 0 0] 24)
  rw [e1] at this
  exact this
/-- What a matrix without a fault is. -/
structure MatOK (p c : Int) (R : List (List Int)) : Prop where
  pr : isP p
  c0 : 0 ≤ c
  c8 : c ≤ 8
  rl : R.length ≤ 6
  len : ∀ k, k < R.length → ((R.getD k []).length : Int) = c
  rng : ∀ k, k < R.length → ∀ r : Nat, (r : Int) < c → 0 ≤ rowF R k r ∧ rowF R k r < p
theorem MatOK.of {p c : Int} {R : List (List Int)} (h : matR p c R = 0) : MatOK p c R := by
  unfold matR at h
  split at h
  · rename_i g
    obtain ⟨g1, g2, g3, g4, g5⟩ := g
    refine ⟨(mduB_iff p).1 g1, g2, g3, g4, fun k hk => (row_len g5 hk).1, fun k hk r hr => ?_⟩
    obtain ⟨e1, e2⟩ := row_len g5 hk
    have hl : r < (R.getD k []).length := by omega
    refine e2 _ ?_
    unfold rowF
    rw [show (R.getD k []).getD r 0 = (R.getD k [])[r] from by rw [List.getD_eq_getElem?_getD, List.getElem?_eq_getElem hl]; rfl]
    exact List.getElem_mem _
  · cases h
theorem MatOK.iff {p c : Int} {R : List (List Int)} : matR p c R = 0 ↔ MatOK p c R := by
  refine ⟨MatOK.of, fun h => ?_⟩
  unfold matR
  rw [if_pos]
  refine ⟨(mduB_iff p).2 h.pr, h.c0, h.c8, h.rl, List.all_eq_true.2 fun r hr => ?_⟩
  obtain ⟨k, hk, rfl⟩ := List.getElem_of_mem hr
  have e : R.getD k [] = R[k] := by simp [List.getD, hk]
  have h1 := h.len k hk
  have h2 := h.rng k hk
  unfold rowF at h2
  rw [e] at h1 h2
  unfold rowB
  rw [Bool.and_eq_true]
  refine ⟨by simpa using h1, List.all_eq_true.2 fun x hx => ?_⟩
  obtain ⟨r, hr, rfl⟩ := List.getElem_of_mem hx
  have h3 := h2 r (by omega)
  rw [show R[k].getD r 0 = R[k][r] by simp [List.getD, hr]] at h3
  unfold inB
  simp
  exact h3
theorem matR_01 (p c : Int) (R : List (List Int)) : matR p c R = 0 ∨ matR p c R = 1 := by unfold matR; split <;> simp
/-- The reduced rows. -/
def redL (p : Int) (c : Nat) (R : List (List Int)) : List (List Int) := matL (redN p c R.length (rowF R)) c (redF p c R.length (rowF R))
theorem redL_len (p : Int) (c : Nat) (R : List (List Int)) : (redL p c R).length = redN p c R.length (rowF R) := matL_len _ _ _
theorem RowsI.nil (w : World) : RowsI w (.slice none 0 0) [] := ⟨none, 0, rfl, by simp, fun h => absurd h (Nat.lt_irrefl 0)⟩
theorem RowsI.drew {w : World} {v : Value} {R : List (List Int)} (h : RowsI w v R) : RowsI w.drew v R := h.below ((Below.refl _ _).drew)
theorem reduced_any (p : Int) (c : Nat) (v : Value) (R : List (List Int)) (w : World) (h : RowsI w v R) (hm : MatOK p c R) :
    Calls Try.prog 11 #[.agg #[.int .i64 p, .int .i64 c, v]] w fun e w' => ∃ u, e = .returned (.agg #[.int .i64 p, .int .i64 c, u]) ∧ RowsN w.heap.size w' u (redL p c R) ∧ Below w.heap.size w w' :=
  reduced_ok p c v R w h hm.pr (by have := hm.c8; omega) (by have := hm.rl; omega) (fun k hk => by have := hm.len k hk; omega) fun k hk r hr => hm.rng k hk r (by omega)
end Go.Proofs.Ytcncaaeofcmefaa

namespace Go.Proofs.Ytcncaaeofcmefaa
open Go.RowKit

set_option maxRecDepth 20000 in
set_option maxHeartbeats 1000000 in
theorem Reduced_ok (p : Int) (c : Nat) (v : Value) (R : List (List Int)) (w : World) (h : RowsI w v R) (hm : MatOK p c R) :
    Calls Try.prog 26 #[.agg #[.int .i64 p, .int .i64 c, v]] w fun e w' => ∃ u, e = .returned (.tuple #[.agg #[.int .i64 p, .int .i64 c, u], .int .i64 0]) ∧ RowsN w.heap.size w' u (redL p c R) ∧ Below w.heap.size w w' := by
  obtain ⟨q1, q2, q3, q4⟩ := bxM_ok w p c v
  have CM := hid (CheckMatrix_any p c v R _ (h.below q2))
  rw [MatOK.iff.2 hm] at CM
  have RD : Hid (∀ w2, Below (bxM w p c v).heap.size (bxM w p c v) w2 → Calls Try.prog 11 #[.agg #[.int .i64 p, .int .i64 c, v]] w2 fun e w' => ∃ u, e = .returned (.agg #[.int .i64 p, .int .i64 c, u]) ∧ RowsN w2.heap.size w' u (redL p c R) ∧ Below w2.heap.size w2 w') := fun w2 hb => reduced_any p c v R w2 ((h.below q2).below hb) hm
  have HX : Hid (∀ w2, Below (bxM w p c v).heap.size (bxM w p c v) w2 → w2.heap[w.heap.size]? = some (.cells #[.int .i64 p, .int .i64 c, v] 24 (0, 0)) ∧ w2.heap[w.heap.size + 1]? = some (.cells #[.int .i64 0, .int .i64 0, .slice none 0 0] 24 (0, 0))) := fun w2 hb => ⟨(hb.block _ (by omega)).trans q3, (hb.block _ (by omega)).trans q4⟩
  have Q1 := hid q1
  have Q2 := hid q2
  obtain ⟨x0, x1, x2⟩ := three_cells q3
  clear h hm q1 q2 q3 q4
  unfold bxM at CM RD HX Q1 Q2 x0 x1 x2
  go_enter Try.func26, Try.ntmps26
  go_wp2_with fail
  generalize (w.alloc (.cells #[.int .i64 p, .int .i64 c, v] 24)).alloc (.cells #[.int .i64 0, .int .i64 0, .slice none 0 0] 24) = W0 at CM RD HX Q1 Q2 x0 x1 x2 ⊢
  refine CM.out.mono ?_
  rintro e w2 ⟨rfl, hb2⟩
  have HB2 := hid hb2
  clear CM x0 x1 x2 hb2
  obtain ⟨x0, x1, x2⟩ := three_cells (HX.out _ HB2.out).1
  go_wp2_with fail
  refine (RD.out w2 HB2.out).mono ?_
  rintro e w3 ⟨u, rfl, h3, h4⟩
  have B3 : Hid (Below W0.heap.size W0 w3) := HB2.out.trans (h4.mono HB2.out.size)
  have hX3 := HX.out _ B3.out
  obtain ⟨y0, y1, y2⟩ := three_cells hX3.2
  obtain ⟨z0, z1, z2⟩ := three_frozen hX3.2
  have HR3 := hid (set_three (x' := .int .i64 p) (y' := .int .i64 c) (z' := u) hX3.2)
  have SV := save_three w3 (w.heap.size + 1) (.int .i64 p) (.int .i64 c) u
  have hs2 := HB2.out.size
  have hs0 := Q1.out
  have HRW := hid ((h3.save SV (fun b hb => by omega)).mono (show w.heap.size ≤ w2.heap.size by omega))
  have HBW := hid (SV.below (Q2.out.trans (B3.out.mono (by omega))) (by have := B3.out.size; omega) (fun b e => by omega))
  clear RD HX h3 h4 B3 hX3 SV hs2 hs0
  obtain ⟨n0, n1, n2⟩ := three_cells HR3.out
  obtain ⟨ua, ucap, rfl⟩ := HRW.out.form
  clear HR3
  go_wp2_with fail
  refine bodyPost_ret (v := .tuple #[.agg #[.int .i64 p, .int .i64 c, .slice ua (redL p c R).length ucap], .int .i64 0]) ?_ rfl ⟨_, rfl, HRW.out, HBW.out⟩
  simp [results, Try.f26, go_sem, n0, n1, n2]
set_option maxRecDepth 20000 in
set_option maxHeartbeats 1000000 in
theorem Reduced_bad (p c : Int) (v : Value) (R : List (List Int)) (w : World) (h : RowsI w v R) (hm : matR p c R = 1) :
    Calls Try.prog 26 #[.agg #[.int .i64 p, .int .i64 c, v]] w fun e w' => e = .returned (.tuple #[.agg #[.int .i64 0, .int .i64 0, .slice none 0 0], .int .i64 1]) ∧ Below w.heap.size w w' := by
  obtain ⟨q1, q2, q3, q4⟩ := bxM_ok w p c v
  have CM := hid (CheckMatrix_any p c v R _ (h.below q2))
  rw [hm] at CM
  have HX : Hid (∀ w2, Below (bxM w p c v).heap.size (bxM w p c v) w2 → w2.heap[w.heap.size + 1]? = some (.cells #[.int .i64 0, .int .i64 0, .slice none 0 0] 24 (0, 0))) := fun w2 hb => (hb.block _ (by omega)).trans q4
  have Q1 := hid q1
  have Q2 := hid q2
  obtain ⟨x0, x1, x2⟩ := three_cells q3
  clear h hm q1 q2 q3 q4
  unfold bxM at CM HX Q1 Q2 x0 x1 x2
  go_enter Try.func26, Try.ntmps26
  go_wp2_with fail
  generalize (w.alloc (.cells #[.int .i64 p, .int .i64 c, v] 24)).alloc (.cells #[.int .i64 0, .int .i64 0, .slice none 0 0] 24) = W0 at CM HX Q1 Q2 x0 x1 x2 ⊢
  refine CM.out.mono ?_
  rintro e w2 ⟨rfl, hb2⟩
  have HB2 := hid hb2
  clear CM x0 x1 x2 hb2
  have hX3 := HX.out _ HB2.out
  obtain ⟨y0, y1, y2⟩ := three_cells hX3
  obtain ⟨z0, z1, z2⟩ := three_frozen hX3
  have HR3 := hid (set_three (x' := .int .i64 0) (y' := .int .i64 0) (z' := .slice none 0 0) hX3)
  have SV := save_three w2 (w.heap.size + 1) (.int .i64 0) (.int .i64 0) (.slice none 0 0)
  have hs2 := HB2.out.size
  have hs0 := Q1.out
  have HBW := hid (SV.below (Q2.out.trans (HB2.out.mono (by omega))) (by omega) (fun b e => by omega))
  clear HX hX3 SV hs2 hs0
  obtain ⟨n0, n1, n2⟩ := three_cells HR3.out
  clear HR3
  go_wp2_with fail
  refine bodyPost_ret (v := .tuple #[.agg #[.int .i64 0, .int .i64 0, .slice none 0 0], .int .i64 1]) ?_ rfl ⟨rfl, HBW.out⟩
  simp [results, Try.f26, go_sem, n0, n1, n2]
end Go.Proofs.Ytcncaaeofcmefaa
