/- field.Determinant. -/
import Derived.Test.YtpdfaenjmjphpaaVdAQ
import Derived.Deep.RegionHeld3
namespace Go.Proofs.Ytpdfaenjmjphpaa
open Go.RowKit

theorem MatOK.rowsOK {p : Int} {c : Nat} {R : List (List Int)} (hm : MatOK p c R) : ∀ r ∈ R, r.length = c ∧ ∀ j, j < c → 0 ≤ r.getD j 0 ∧ r.getD j 0 < p := fun r hr => by
  obtain ⟨k, hk, rfl⟩ := List.getElem_of_mem hr
  have e : R.getD k [] = R[k] := by simp [List.getD, hk]
  refine ⟨by rw [← e]; exact hm.lens k hk, fun j hj => ?_⟩
  have := hm.rowc k hk j hj
  unfold rowF at this
  rwa [e] at this
set_option maxRecDepth 20000 in
set_option maxHeartbeats 2000000 in
theorem Determinant_ok (p : Int) (c : Nat) (v : Value) (R : List (List Int)) (w : World) (h : RowsI w v R) (hcp : ∀ a L c, v = .slice a L c → L ≤ c) (hm : MatOK p c R) (hl : R.length = c) :
    Calls Try.prog 5 #[.agg #[.int .i64 p, .int .i64 c, v]] w fun e w' => e = .returned (.tuple #[.int .i64 (detL p c R (2 ^ c - 1)), .int .i64 0]) ∧ Below w.heap.size w w' := by
  have hb0 := below_boxMx w #[.int .i64 p, .int .i64 c, v]
  have hn0 := World.alloc_heap_new w (.cells #[.int .i64 p, .int .i64 c, v] 24)
  have CM := hid (CheckMatrix_any p c v R _ (h.below hb0))
  rw [MatOK.iff.2 hm] at CM
  have Q2 := hid hb0
  have HN := hid hn0
  have RH := hid (h.below hb0)
  obtain ⟨x0, x1, x2⟩ := three_cells hn0
  obtain ⟨a, cap, rfl⟩ := h.form
  have hc8 := hm.c8'
  have hr6 := hm.rl
  have HM := hid hm
  have HCP := hid hcp
  have hli : ((R.length : Int) != (c : Int)) = false := by rw [hl]; simp
  have hbig : (7 * c + 1) ^ R.length ≤ 4611686018427387904 := by
    have h1 : (7 * c + 1) ^ R.length ≤ 57 ^ R.length := Nat.pow_le_pow_left (by have := hm.c8'; omega) _
    have h2 : 57 ^ R.length ≤ 57 ^ 6 := Nat.pow_le_pow_right (by decide) hm.rl
    exact Nat.le_trans h1 (Nat.le_trans h2 (by decide))
  have hp2 := isP_pos hm.pr
  have hro : ∀ r ∈ R, r.length = c ∧ ∀ j, j < c → (r.getD j 0).natAbs ≤ 7 := fun r hr => ⟨(hm.rowsOK r hr).1, fun j hj => by have := (hm.rowsOK r hr).2 j hj; omega⟩
  have hX1 := detX_le (c := c) (M := 7) R (fun r hr => (hro r hr).2) (2 ^ c - 1)
  have EX := hid (detL_X hm.pr c R (2 ^ c - 1))
  obtain ⟨X, hX⟩ : ∃ X, detX c R (2 ^ c - 1) = X := ⟨_, rfl⟩
  have DT : Hid (∀ wx, Below (w.alloc (.cells #[.int .i64 p, .int .i64 c, .slice a R.length cap] 24)).heap.size (w.alloc (.cells #[.int .i64 p, .int .i64 c, .slice a R.length cap] 24)) wx → Calls Try.prog 19 #[.slice a R.length cap, .int .i64 ((2 ^ c - 1 : Nat) : Int)] wx fun e w' => e = .returned (.int .i64 X) ∧ Below (w.alloc (.cells #[.int .i64 p, .int .i64 c, .slice a R.length cap] 24)).heap.size (w.alloc (.cells #[.int .i64 p, .int .i64 c, .slice a R.length cap] 24)) w') := fun wx hb => by
    rw [← hX]
    exact (vdet_ok c 7 hm.c8' R _ (2 ^ c - 1) wx (RH.out.below hb) hcp (Nat.le_trans hm.rl (by decide)) (Nat.lt_of_lt_of_le (Nat.sub_lt (Nat.two_pow_pos c) (by decide)) (Nat.pow_le_pow_right (by omega) hm.c8')) hro hbig).mono fun e w' h9 => ⟨h9.1, hb.trans (h9.2.mono hb.size)⟩
  rw [hX] at hX1 EX
  have hXb := Nat.le_trans hX1 hbig
  rw [EX.out]
  clear EX hX hX1 hbig hro
  have hp0 : (p == 0) = false := by rw [beq_eq_false_iff_ne]; omega
  have hp0' : ¬ p = 0 := by omega
  obtain ⟨m1, hm1⟩ : ∃ m1, Int.tmod X p = m1 := ⟨_, rfl⟩
  have b1 : -7 < m1 ∧ m1 < 7 := by
    rw [← hm1]
    have h1 := Int.tmod_lt_of_pos X (show 0 < p by omega)
    have h2 := Int.lt_tmod_of_pos X (show 0 < p by omega)
    omega
  obtain ⟨m2, hm2⟩ : ∃ m2, m1 + p = m2 := ⟨_, rfl⟩
  have b2 : 0 ≤ m2 := by
    have h2 := Int.lt_tmod_of_pos X (show 0 < p by omega)
    omega
  obtain ⟨m3, hm3⟩ : ∃ m3, Int.tmod m2 p = m3 := ⟨_, rfl⟩
  have b3 : 0 ≤ m3 ∧ m3 < p := by rw [← hm3, Int.tmod_eq_emod_of_nonneg b2]; exact ⟨Int.emod_nonneg _ (by omega), Int.emod_lt_of_pos _ (by omega)⟩
  have FIN : Hid (m3 = X % p) := by
    show _ = _
    rw [← hm3, Int.tmod_eq_emod_of_nonneg b2, ← hm2, ← hm1]
    refine Em.eq (p := p) ?_ ⟨Int.emod_nonneg _ (by omega), Int.emod_lt_of_pos _ (by omega)⟩ ⟨Int.emod_nonneg _ (by omega), Int.emod_lt_of_pos _ (by omega)⟩
    refine (Em.mod _).trans (Em.trans ?_ (Em.mod _).symm)
    have h5 := Int.mul_tdiv_add_tmod X p
    exact ⟨1 - X.tdiv p, by rw [Int.mul_sub, Int.mul_one]; omega⟩
  have hw1 : IntKind.i64.wrap m1 = m1 := IntWalk.i64_in _ (by omega)
  have hw2 : IntKind.i64.wrap m2 = m2 := IntWalk.i64_in _ (by omega)
  have hw3 : IntKind.i64.wrap m3 = m3 := IntWalk.i64_in _ (by omega)
  rw [← FIN.out]
  clear FIN hXb
  have WH := hid (fun wx => wholeSet_any c wx hm.c8')
  have KX : Hid (∀ wx, Below (w.alloc (.cells #[.int .i64 p, .int .i64 c, .slice a R.length cap] 24)).heap.size (w.alloc (.cells #[.int .i64 p, .int .i64 c, .slice a R.length cap] 24)) wx → wx.heap[w.heap.size]? = some (.cells #[.int .i64 p, .int .i64 c, .slice a R.length cap] 24 (0, 0))) := fun wx hb => box_keep HN.out hb
  have HL := hid hl
  clear hl hm hcp h hb0 hn0
  go_enter Try.func5, Try.ntmps5
  go_wp2_with fail
  refine CM.out.mono ?_
  rintro e w2 ⟨rfl, hb2⟩
  have HB2 := hid hb2
  have H4 := hid (Q2.out.trans (hb2.mono Q2.out.size))
  clear CM hb2 x0 x1 x2
  obtain ⟨x0, x1, x2⟩ := three_cells (KX.out _ HB2.out)
  go_wp2_with fail
  go_region_held3 (fun w' => w'.cell? ⟨w.heap.size, 0, none⟩ = some (.int .i64 p) ∧ w'.cell? ⟨w.heap.size, 1, none⟩ = some (.int .i64 c) ∧ w'.cell? ⟨w.heap.size, 2, none⟩ = some (.slice a R.length cap)) (go_keep) (first
    | (go_at_call 20; (refine (WH.out _).mono ?_); rintro e w3 ⟨rfl, h3⟩; obtain rfl := h3.symm)
    | (go_at_call 19; (refine (DT.out _ (by first | exact HB2.out.drew | exact HB2.out)).mono ?_); rintro e w4 ⟨rfl, hb4⟩; have K4 := hid hb4; obtain ⟨k0, k1, k2⟩ := three_cells (KX.out _ hb4); clear hb4))
  have H5 := hid (Q2.out.trans (K4.out.mono Q2.out.size))
  go_wp2_with fail
  exact bodyPost_ret (results_tmp2 rfl _ _ _) rfl ⟨rfl, H5.out⟩
set_option maxRecDepth 20000 in
set_option maxHeartbeats 2000000 in
theorem Determinant_shape (p : Int) (c : Nat) (v : Value) (R : List (List Int)) (w : World) (h : RowsI w v R) (hm : MatOK p c R) (hl : R.length ≠ c) :
    Calls Try.prog 5 #[.agg #[.int .i64 p, .int .i64 c, v]] w fun e w' => e = .returned (.tuple #[.int .i64 0, .int .i64 3]) ∧ Below w.heap.size w w' := by
  have hb0 := below_boxMx w #[.int .i64 p, .int .i64 c, v]
  have hn0 := World.alloc_heap_new w (.cells #[.int .i64 p, .int .i64 c, v] 24)
  have CM := hid (CheckMatrix_any p c v R _ (h.below hb0))
  rw [MatOK.iff.2 hm] at CM
  have Q2 := hid hb0
  have HN := hid hn0
  have RH := hid (h.below hb0)
  obtain ⟨x0, x1, x2⟩ := three_cells hn0
  obtain ⟨a, cap, rfl⟩ := h.form
  have hc8 := hm.c8'
  have hr6 := hm.rl
  have hli : ((R.length : Int) != (c : Int)) = true := by rw [bne_iff_ne]; omega
  have KX : Hid (∀ wx, Below (w.alloc (.cells #[.int .i64 p, .int .i64 c, .slice a R.length cap] 24)).heap.size (w.alloc (.cells #[.int .i64 p, .int .i64 c, .slice a R.length cap] 24)) wx → wx.heap[w.heap.size]? = some (.cells #[.int .i64 p, .int .i64 c, .slice a R.length cap] 24 (0, 0))) := fun wx hb => box_keep HN.out hb
  clear hm h hb0 hn0
  go_enter Try.func5, Try.ntmps5
  go_wp2_with fail
  refine CM.out.mono ?_
  rintro e w2 ⟨rfl, hb2⟩
  have HB2 := hid hb2
  have H4 := hid (Q2.out.trans (hb2.mono Q2.out.size))
  clear CM hb2 x0 x1 x2
  obtain ⟨x0, x1, x2⟩ := three_cells (KX.out _ HB2.out)
  go_wp2_with fail
  exact bodyPost_ret (results_tmp2 rfl _ _ _) rfl ⟨rfl, H4.out⟩
set_option maxRecDepth 20000 in
set_option maxHeartbeats 2000000 in
theorem Determinant_bad (p c : Int) (v : Value) (R : List (List Int)) (w : World) (h : RowsI w v R) (hm : matR p c R = 1) :
    Calls Try.prog 5 #[.agg #[.int .i64 p, .int .i64 c, v]] w fun e w' => e = .returned (.tuple #[.int .i64 0, .int .i64 1]) ∧ Below w.heap.size w w' := by
  have hb0 := below_boxMx w #[.int .i64 p, .int .i64 c, v]
  have hn0 := World.alloc_heap_new w (.cells #[.int .i64 p, .int .i64 c, v] 24)
  have CM := hid (CheckMatrix_any p c v R _ (h.below hb0))
  rw [hm] at CM
  have Q2 := hid hb0
  have HN := hid hn0
  have RH := hid (h.below hb0)
  obtain ⟨x0, x1, x2⟩ := three_cells hn0
  clear h hm hb0 hn0
  go_enter Try.func5, Try.ntmps5
  go_wp2_with fail
  refine CM.out.mono ?_
  rintro e w2 ⟨rfl, hb2⟩
  have HB2 := hid hb2
  have H4 := hid (Q2.out.trans (hb2.mono Q2.out.size))
  clear CM hb2 x0 x1 x2
  go_wp2_with fail
  exact bodyPost_ret (results_tmp2 rfl _ _ _) rfl ⟨rfl, H4.out⟩
end Go.Proofs.Ytpdfaenjmjphpaa
