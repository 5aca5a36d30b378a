/- field.Determinant. -/
import Derived.Test.YtboiciflkihlgaaFdVQ
import Derived.Deep.RegionHeld3
namespace Go.Proofs.Ytboiciflkihlgaa
open Go.RowKit

theorem MatOK.rowsOK {p : Int} {c : Nat} {R : List (List Int)} (hm : MatOK p c R) : ∀ r ∈ R, r.length = c ∧ ∀ j, j < c → 0 ≤ r.getD j 0 ∧ r.getD j 0 < p := fun r hr => by
  obtain ⟨k, hk, rfl⟩ := List.getElem_of_mem hr
  have e : R.getD k [] = R[k] := by simp [List.getD, hk]
  refine ⟨by rw [← e]; exact hm.lens k hk, fun j hj => ?_⟩
  have := hm.rowc k hk j hj
  unfold rowF at this
  rwa [e] at this
set_option maxRecDepth 20000 in
set_option maxHeartbeats 2000000 in
theorem Determinant_ok (p : Int) (c : Nat) (v : Value) (R : List (List Int)) (w : World) (h : RowsI w v R) (hcp : ∀ a L c, v = .slice a L c → L ≤ c) (hm : MatOK p c R) (hl : R.length = c) :
    Calls Try.prog 16 #[.agg #[.int .i64 p, .int .i64 c, v]] w fun e w' => e = .returned (.tuple #[.int .i64 (detL p c R (2 ^ c - 1)), .int .i64 0]) ∧ Below w.heap.size w w' := by
  have hb0 := below_boxMx w #[.int .i64 p, .int .i64 c, v]
  have hn0 := World.alloc_heap_new w (.cells #[.int .i64 p, .int .i64 c, v] 24)
  have CM := hid (CheckMatrix_any p c v R _ (h.below hb0))
  rw [MatOK.iff.2 hm] at CM
  have Q2 := hid hb0
  have HN := hid hn0
  have RH := hid (h.below hb0)
  obtain ⟨x0, x1, x2⟩ := three_cells hn0
  obtain ⟨a, cap, rfl⟩ := h.form
  have hc8 := hm.c8'
  have hr6 := hm.rl
  have HM := hid hm
  have HCP := hid hcp
  have hli : ((R.length : Int) != (c : Int)) = false := by rw [hl]; simp
  have DT : Hid (∀ wx, Below (w.alloc (.cells #[.int .i64 p, .int .i64 c, .slice a R.length cap] 24)).heap.size (w.alloc (.cells #[.int .i64 p, .int .i64 c, .slice a R.length cap] 24)) wx → Calls Try.prog 36 #[.int .i64 p, .slice a R.length cap, .int .i64 ((2 ^ c - 1 : Nat) : Int)] wx fun e w' => e = .returned (.int .i64 (detL p c R (2 ^ c - 1))) ∧ Below (w.alloc (.cells #[.int .i64 p, .int .i64 c, .slice a R.length cap] 24)).heap.size (w.alloc (.cells #[.int .i64 p, .int .i64 c, .slice a R.length cap] 24)) w') := fun wx hb => (determinant_ok p c hm.pr hm.c8' R _ (2 ^ c - 1) wx (RH.out.below hb) hcp hm.rl (Nat.lt_of_lt_of_le (Nat.sub_lt (Nat.two_pow_pos c) (by decide)) (Nat.pow_le_pow_right (by omega) hm.c8')) hm.rowsOK).mono fun e w' h9 => ⟨h9.1, hb.trans (h9.2.mono hb.size)⟩
  have WH := hid (fun wx => wholeSet_any c wx hm.c8')
  have KX : Hid (∀ wx, Below (w.alloc (.cells #[.int .i64 p, .int .i64 c, .slice a R.length cap] 24)).heap.size (w.alloc (.cells #[.int .i64 p, .int .i64 c, .slice a R.length cap] 24)) wx → wx.heap[w.heap.size]? = some (.cells #[.int .i64 p, .int .i64 c, .slice a R.length cap] 24 (0, 0))) := fun wx hb => box_keep HN.out hb
  have HL := hid hl
  clear hl hm hcp h hb0 hn0
  go_enter Try.func16, Try.ntmps16
  go_wp2_with fail
  refine CM.out.mono ?_
  rintro e w2 ⟨rfl, hb2⟩
  have HB2 := hid hb2
  have H4 := hid (Q2.out.trans (hb2.mono Q2.out.size))
  clear CM hb2 x0 x1 x2
  obtain ⟨x0, x1, x2⟩ := three_cells (KX.out _ HB2.out)
  go_wp2_with fail
  go_region_held3 (fun w' => w'.cell? ⟨w.heap.size, 0, none⟩ = some (.int .i64 p) ∧ w'.cell? ⟨w.heap.size, 1, none⟩ = some (.int .i64 c) ∧ w'.cell? ⟨w.heap.size, 2, none⟩ = some (.slice a R.length cap)) (go_keep) (first
    | (go_at_call 37; (refine (WH.out _).mono ?_); rintro e w3 ⟨rfl, h3⟩; obtain rfl := h3.symm)
    | (go_at_call 36; (refine (DT.out _ (by first | exact HB2.out.drew | exact HB2.out)).mono ?_); rintro e w4 ⟨rfl, hb4⟩; have K4 := hid hb4; obtain ⟨k0, k1, k2⟩ := three_cells (KX.out _ hb4); clear hb4))
  have H5 := hid (Q2.out.trans (K4.out.mono Q2.out.size))
  go_wp2_with fail
  exact bodyPost_ret (results_tmp2 rfl _ _ _) rfl ⟨rfl, H5.out⟩
set_option maxRecDepth 20000 in
set_option maxHeartbeats 2000000 in
theorem Determinant_shape (p : Int) (c : Nat) (v : Value) (R : List (List Int)) (w : World) (h : RowsI w v R) (hm : MatOK p c R) (hl : R.length ≠ c) :
    Calls Try.prog 16 #[.agg #[.int .i64 p, .int .i64 c, v]] w fun e w' => e = .returned (.tuple #[.int .i64 0, .int .i64 3]) ∧ Below w.heap.size w w' := by
  have hb0 := below_boxMx w #[.int .i64 p, .int .i64 c, v]
  have hn0 := World.alloc_heap_new w (.cells #[.int .i64 p, .int .i64 c, v] 24)
  have CM := hid (CheckMatrix_any p c v R _ (h.below hb0))
  rw [MatOK.iff.2 hm] at CM
  have Q2 := hid hb0
  have HN := hid hn0
  have RH := hid (h.below hb0)
  obtain ⟨x0, x1, x2⟩ := three_cells hn0
  obtain ⟨a, cap, rfl⟩ := h.form
  have hc8 := hm.c8'
  have hr6 := hm.rl
  have hli : ((R.length : Int) != (c : Int)) = true := by rw [bne_iff_ne]; omega
  have KX : Hid (∀ wx, Below (w.alloc (.cells #[.int .i64 p, .int .i64 c, .slice a R.length cap] 24)).heap.size (w.alloc (.cells #[.int .i64 p, .int .i64 c, .slice a R.length cap] 24)) wx → wx.heap[w.heap.size]? = some (.cells #[.int .i64 p, .int .i64 c, .slice a R.length cap] 24 (0, 0))) := fun wx hb => box_keep HN.out hb
  clear hm h hb0 hn0
  go_enter Try.func16, Try.ntmps16
  go_wp2_with fail
  refine CM.out.mono ?_
  rintro e w2 ⟨rfl, hb2⟩
  have HB2 := hid hb2
  have H4 := hid (Q2.out.trans (hb2.mono Q2.out.size))
  clear CM hb2 x0 x1 x2
  obtain ⟨x0, x1, x2⟩ := three_cells (KX.out _ HB2.out)
  go_wp2_with fail
  exact bodyPost_ret (results_tmp2 rfl _ _ _) rfl ⟨rfl, H4.out⟩
set_option maxRecDepth 20000 in
set_option maxHeartbeats 2000000 in
theorem Determinant_bad (p c : Int) (v : Value) (R : List (List Int)) (w : World) (h : RowsI w v R) (hm : matR p c R = 1) :
    Calls Try.prog 16 #[.agg #[.int .i64 p, .int .i64 c, v]] w fun e w' => e = .returned (.tuple #[.int .i64 0, .int .i64 1]) ∧ Below w.heap.size w w' := by
  have hb0 := below_boxMx w #[.int .i64 p, .int .i64 c, v]
  have hn0 := World.alloc_heap_new w (.cells #[.int .i64 p, .int .i64 c, v] 24)
  have CM := hid (CheckMatrix_any p c v R _ (h.below hb0))
  rw [hm] at CM
  have Q2 := hid hb0
  have HN := hid hn0
  have RH := hid (h.below hb0)
  obtain ⟨x0, x1, x2⟩ := three_cells hn0
  clear h hm hb0 hn0
  go_enter Try.func16, Try.ntmps16
  go_wp2_with fail
  refine CM.out.mono ?_
  rintro e w2 ⟨rfl, hb2⟩
  have HB2 := hid hb2
  have H4 := hid (Q2.out.trans (hb2.mono Q2.out.size))
  clear CM hb2 x0 x1 x2
  go_wp2_with fail
  exact bodyPost_ret (results_tmp2 rfl _ _ _) rfl ⟨rfl, H4.out⟩
end Go.Proofs.Ytboiciflkihlgaa
