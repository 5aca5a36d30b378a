/- field.Times. -/
import Derived.Test.YtpdfaenjmjphpaaFdJQ
namespace Go.Proofs.Ytpdfaenjmjphpaa
open Go.RowKit

/-- The products, added one by one. -/
def timF (p : Int) (F G : Nat → Nat → Int) : Nat → Nat → Nat → Int
  | 0, _, _ => 0
  | m + 1, i, r => (timF p F G m i r + F i m * G m r) % p
theorem timF_in {p : Int} (hp : isP p) (F G : Nat → Nat → Int) (m i r : Nat) : 0 ≤ timF p F G m i r ∧ timF p F G m i r < p := by
  have := isP_pos hp
  cases m with
  | zero => exact ⟨Int.le_refl 0, by show 0 < p; omega⟩
  | succ m => exact ⟨Int.emod_nonneg _ (by omega), Int.emod_lt_of_pos _ (by omega)⟩
theorem timF_em {p : Int} (F G : Nat → Nat → Int) (i r : Nat) : ∀ m, Em p (timF p F G m i r) (sm m fun j => F i j * G j r)
  | 0 => Em.refl _
  | m + 1 => (Em.mod _).trans ((timF_em F G i r m).add (Em.refl _))
/-- The product. -/
def timL (p : Int) (c c2 : Nat) (R R2 : List (List Int)) : List (List Int) := matL R.length c2 (timF p (rowF R) (rowF R2) c)
/-- The boxes of two matrices that come in, of one that goes out, and both in a row. -/
def tiW (w : World) (p c p2 c2 : Int) (v v2 : Value) : World := (((w.alloc (.cells #[.int .i64 p, .int .i64 c, v] 24)).alloc (.cells #[.int .i64 p2, .int .i64 c2, v2] 24)).alloc (.cells #[.int .i64 0, .int .i64 0, .slice none 0 0] 24)).alloc (.cells #[.int .i64 p, .int .i64 c, v, .int .i64 p2, .int .i64 c2, v2] 24)
theorem tiW_ok (w : World) (p c p2 c2 : Int) (v v2 : Value) : (tiW w p c p2 c2 v v2).heap.size = w.heap.size + 4 ∧ Below w.heap.size w (tiW w p c p2 c2 v v2) ∧ (tiW w p c p2 c2 v v2).heap[w.heap.size]? = some (.cells #[.int .i64 p, .int .i64 c, v] 24 (0, 0)) ∧ (tiW w p c p2 c2 v v2).heap[w.heap.size + 1]? = some (.cells #[.int .i64 p2, .int .i64 c2, v2] 24 (0, 0)) ∧ (tiW w p c p2 c2 v v2).heap[w.heap.size + 1 + 1]? = some (.cells #[.int .i64 0, .int .i64 0, .slice none 0 0] 24 (0, 0)) ∧ (tiW w p c p2 c2 v v2).heap[w.heap.size + 1 + 1 + 1]? = some (.cells #[.int .i64 p, .int .i64 c, v, .int .i64 p2, .int .i64 c2, v2] 24 (0, 0)) := by
  have hb : ∀ (W : World) (o : Obj), Below W.heap.size W (W.alloc o) := fun W o => (Below.refl _ _).alloc (Nat.le_refl _) _
  unfold tiW
  obtain ⟨w1, h1⟩ : ∃ w1, w.alloc (.cells #[.int .i64 p, .int .i64 c, v] 24) = w1 := ⟨_, rfl⟩
  have s1 : w1.heap.size = w.heap.size + 1 := by rw [← h1]; simp
  have b1 := hb w (.cells #[.int .i64 p, .int .i64 c, v] 24)
  have n1 := World.alloc_heap_new w (.cells #[.int .i64 p, .int .i64 c, v] 24)
  rw [h1] at b1 n1 ⊢
  obtain ⟨w2, h2⟩ : ∃ w2, w1.alloc (.cells #[.int .i64 p2, .int .i64 c2, v2] 24) = w2 := ⟨_, rfl⟩
  have s2 : w2.heap.size = w.heap.size + 1 + 1 := by rw [← h2]; simp [s1]
  have b2 := hb w1 (.cells #[.int .i64 p2, .int .i64 c2, v2] 24)
  have n2 := World.alloc_heap_new w1 (.cells #[.int .i64 p2, .int .i64 c2, v2] 24)
  rw [h2] at b2 n2 ⊢
  obtain ⟨w3, h3⟩ : ∃ w3, w2.alloc (.cells #[.int .i64 0, .int .i64 0, .slice none 0 0] 24) = w3 := ⟨_, rfl⟩
  have s3 : w3.heap.size = w.heap.size + 1 + 1 + 1 := by rw [← h3]; simp [s2]
  have b3 := hb w2 (.cells #[.int .i64 0, .int .i64 0, .slice none 0 0] 24)
  have n3 := World.alloc_heap_new w2 (.cells #[.int .i64 0, .int .i64 0, .slice none 0 0] 24)
  rw [h3] at b3 n3 ⊢
  obtain ⟨w4, h4⟩ : ∃ w4, w3.alloc (.cells #[.int .i64 p, .int .i64 c, v, .int .i64 p2, .int .i64 c2, v2] 24) = w4 := ⟨_, rfl⟩
  have s4 : w4.heap.size = w.heap.size + 4 := by rw [← h4]; simp [s3]
  have b4 := hb w3 (.cells #[.int .i64 p, .int .i64 c, v, .int .i64 p2, .int .i64 c2, v2] 24)
  have n4 := World.alloc_heap_new w3 (.cells #[.int .i64 p, .int .i64 c, v, .int .i64 p2, .int .i64 c2, v2] 24)
  rw [h4] at b4 n4 ⊢
  rw [s1] at n2
  rw [s2] at n3
  rw [s3] at n4
  have b34 := (b3.trans (b4.mono (by omega)))
  have b24 := (b2.trans (b34.mono (by omega)))
  exact ⟨s4, b1.trans (b24.mono (by omega)), (b24.block _ (by omega)).trans n1, (b34.block _ (by omega)).trans n2, (b4.block _ (by omega)).trans n3, n4⟩
theorem six_at {W : World} {b : Nat} {x y z x' y' z' : Value} {t : TypeId} (h : W.heap[b]? = some (.cells #[x, y, z, x', y', z'] t (0, 0))) : (W.cell? ⟨b, 0, none⟩ = some x ∧ W.cell? ⟨b, 1, none⟩ = some y ∧ W.cell? ⟨b, 2, none⟩ = some z) ∧ W.cell? ⟨b, 3, none⟩ = some x' ∧ W.cell? ⟨b, 4, none⟩ = some y' ∧ W.cell? ⟨b, 5, none⟩ = some z' := by
  refine ⟨⟨?_, ?_, ?_⟩, ?_, ?_, ?_⟩ <;> simp [World.cell?, h]
set_option maxRecDepth 20000 in
set_option maxHeartbeats 4000000 in
theorem Times_bad1 (p c p2 c2 : Int) (v v2 : Value) (R R2 : List (List Int)) (w : World) (h : RowsI w v R) (h2 : RowsI w v2 R2) (hm : matR p c R = 1) :
    Calls Try.prog 6 #[.agg #[.int .i64 p, .int .i64 c, v], .agg #[.int .i64 p2, .int .i64 c2, v2]] w fun e w' => e = .returned (.tuple #[.agg #[.int .i64 0, .int .i64 0, .slice none 0 0], .int .i64 1]) ∧ Below w.heap.size w w' := by
  obtain ⟨q1, q2, q3, q4, q5, q6⟩ := tiW_ok w p c p2 c2 v v2
  have C1 : Hid (∀ wr, Below (tiW w p c p2 c2 v v2).heap.size (tiW w p c p2 c2 v v2) wr → Calls Try.prog 18 #[.agg #[.int .i64 p, .int .i64 c, v]] (wr.alloc (.cells #[.int .i64 p, .int .i64 c, v] 24)) fun e w' => e = .returned (.int .i64 1) ∧ Below (tiW w p c p2 c2 v v2).heap.size (tiW w p c p2 c2 v v2) w') := fun wr hb => ((CheckMatrix_any p c v R _ (((h.below q2).below (hb.mono (Nat.le_refl _))).below ((Below.refl _ _).alloc (Nat.le_refl _) _))).mono fun e w' h9 => ⟨by rw [h9.1, hm], (hb.alloc hb.size _).trans (h9.2.mono (by have := hb.size; simp; omega))⟩)
  have HX : Hid (∀ wr, Below (tiW w p c p2 c2 v v2).heap.size (tiW w p c p2 c2 v v2) wr → wr.heap[w.heap.size]? = some (.cells #[.int .i64 p, .int .i64 c, v] 24 (0, 0)) ∧ wr.heap[w.heap.size + 1]? = some (.cells #[.int .i64 p2, .int .i64 c2, v2] 24 (0, 0)) ∧ wr.heap[w.heap.size + 1 + 1]? = some (.cells #[.int .i64 0, .int .i64 0, .slice none 0 0] 24 (0, 0)) ∧ wr.heap[w.heap.size + 1 + 1 + 1]? = some (.cells #[.int .i64 p, .int .i64 c, v, .int .i64 p2, .int .i64 c2, v2] 24 (0, 0))) := fun wr hb => ⟨(hb.block _ (by omega)).trans q3, (hb.block _ (by omega)).trans q4, (hb.block _ (by omega)).trans q5, (hb.block _ (by omega)).trans q6⟩
  have Q1 := hid q1
  have Q2 := hid q2
  obtain ⟨x0, x1, x2⟩ := three_cells q3
  obtain ⟨y0, y1, y2⟩ := three_cells q4
  obtain ⟨a, cap, rfl, -, -⟩ := h
  obtain ⟨a2, cap2, rfl, -, -⟩ := h2
  clear hm q1 q2 q3 q4 q5 q6
  unfold tiW at C1 HX Q1 Q2 x0 x1 x2 y0 y1 y2
  go_enter Try.func6, Try.ntmps6
  go_wp2_with fail
  generalize (((w.alloc (.cells #[.int .i64 p, .int .i64 c, .slice a R.length cap] 24)).alloc (.cells #[.int .i64 p2, .int .i64 c2, .slice a2 R2.length cap2] 24)).alloc (.cells #[.int .i64 0, .int .i64 0, .slice none 0 0] 24)).alloc (.cells #[.int .i64 p, .int .i64 c, .slice a R.length cap, .int .i64 p2, .int .i64 c2, .slice a2 R2.length cap2] 24) = W0 at C1 HX Q1 Q2 x0 x1 x2 y0 y1 y2 ⊢
  clear x0 x1 x2 y0 y1 y2
  go_loopw [7, 8, 18] (fun _ _ i wr => ∃ k : Nat, k ≤ 2 ∧ k = 0 ∧ i = .int .i64 k ∧ Hid (Below W0.heap.size W0 wr)) (fun _ _ i _ => 2 - (intOf i).toNat)
  case atStart => exact ⟨0, by omega, rfl, rfl, Below.refl _ _⟩
  case round =>
    obtain ⟨k, hk, hk2, rfl, HB⟩ := hrel
    obtain ⟨g1, g2, g3, g4⟩ := HX.out _ HB.out
    obtain ⟨⟨s0, s1, s2⟩, s3, s4, s5⟩ := six_at g4
    have hsz := HB.out.size
    have hq := Q1.out
    subst hk2
    have CK := hid (C1.out _ HB.out)
    clear g1 g2 g3 g4 hsz hq
    go_wp2_with fail
    refine CK.out.mono ?_
    rintro e w2 ⟨rfl, hb2⟩
    have HB2 := hid hb2
    clear hb2 CK s0 s1 s2 s3 s4 s5
    obtain ⟨u1, u2, u3, u4⟩ := HX.out _ HB2.out
    obtain ⟨m0, m1, m2⟩ := three_cells u3
    obtain ⟨f0, f1, f2⟩ := three_frozen u3
    have HR4 := hid (set_three (x' := .int .i64 0) (y' := .int .i64 0) (z' := .slice none 0 0) u3)
    have SV := save_three w2 (w.heap.size + 1 + 1) (.int .i64 0) (.int .i64 0) (.slice none 0 0)
    have hs9 := (HB2.out).size
    have hq9 := Q1.out
    have HBW := hid (SV.below (Q2.out.trans ((HB2.out).mono (by omega))) (by omega) (fun b e => by omega))
    obtain ⟨n0, n1, n2⟩ := three_cells HR4.out
    clear HX u1 u2 u3 u4 SV hs9 hq9 HR4
    go_wp2_with fail
    refine bodyPost_ret (v := .tuple #[.agg #[.int .i64 0, .int .i64 0, .slice none 0 0], .int .i64 1]) ?_ rfl ⟨rfl, HBW.out⟩
    simp [results, Try.f6, go_sem, n0, n1, n2]
set_option maxRecDepth 20000 in
set_option maxHeartbeats 4000000 in
theorem Times_bad2 (p c p2 c2 : Int) (v v2 : Value) (R R2 : List (List Int)) (w : World) (h : RowsI w v R) (h2 : RowsI w v2 R2) (hm : matR p c R = 0) (hm2 : matR p2 c2 R2 = 1) :
    Calls Try.prog 6 #[.agg #[.int .i64 p, .int .i64 c, v], .agg #[.int .i64 p2, .int .i64 c2, v2]] w fun e w' => e = .returned (.tuple #[.agg #[.int .i64 0, .int .i64 0, .slice none 0 0], .int .i64 1]) ∧ Below w.heap.size w w' := by
  obtain ⟨q1, q2, q3, q4, q5, q6⟩ := tiW_ok w p c p2 c2 v v2
  have C1 : Hid (∀ wr, Below (tiW w p c p2 c2 v v2).heap.size (tiW w p c p2 c2 v v2) wr → Calls Try.prog 18 #[.agg #[.int .i64 p, .int .i64 c, v]] (wr.alloc (.cells #[.int .i64 p, .int .i64 c, v] 24)) fun e w' => e = .returned (.int .i64 0) ∧ Below (tiW w p c p2 c2 v v2).heap.size (tiW w p c p2 c2 v v2) w') := fun wr hb => ((CheckMatrix_any p c v R _ (((h.below q2).below (hb.mono (Nat.le_refl _))).below ((Below.refl _ _).alloc (Nat.le_refl _) _))).mono fun e w' h9 => ⟨by rw [h9.1, hm], (hb.alloc hb.size _).trans (h9.2.mono (by have := hb.size; simp; omega))⟩)
  have C2 : Hid (∀ wr, Below (tiW w p c p2 c2 v v2).heap.size (tiW w p c p2 c2 v v2) wr → Calls Try.prog 18 #[.agg #[.int .i64 p2, .int .i64 c2, v2]] (wr.alloc (.cells #[.int .i64 p2, .int .i64 c2, v2] 24)) fun e w' => e = .returned (.int .i64 1) ∧ Below (tiW w p c p2 c2 v v2).heap.size (tiW w p c p2 c2 v v2) w') := fun wr hb => ((CheckMatrix_any p2 c2 v2 R2 _ (((h2.below q2).below (hb.mono (Nat.le_refl _))).below ((Below.refl _ _).alloc (Nat.le_refl _) _))).mono fun e w' h9 => ⟨by rw [h9.1, hm2], (hb.alloc hb.size _).trans (h9.2.mono (by have := hb.size; simp; omega))⟩)
  have HX : Hid (∀ wr, Below (tiW w p c p2 c2 v v2).heap.size (tiW w p c p2 c2 v v2) wr → wr.heap[w.heap.size]? = some (.cells #[.int .i64 p, .int .i64 c, v] 24 (0, 0)) ∧ wr.heap[w.heap.size + 1]? = some (.cells #[.int .i64 p2, .int .i64 c2, v2] 24 (0, 0)) ∧ wr.heap[w.heap.size + 1 + 1]? = some (.cells #[.int .i64 0, .int .i64 0, .slice none 0 0] 24 (0, 0)) ∧ wr.heap[w.heap.size + 1 + 1 + 1]? = some (.cells #[.int .i64 p, .int .i64 c, v, .int .i64 p2, .int .i64 c2, v2] 24 (0, 0))) := fun wr hb => ⟨(hb.block _ (by omega)).trans q3, (hb.block _ (by omega)).trans q4, (hb.block _ (by omega)).trans q5, (hb.block _ (by omega)).trans q6⟩
  have Q1 := hid q1
  have Q2 := hid q2
  obtain ⟨x0, x1, x2⟩ := three_cells q3
  obtain ⟨y0, y1, y2⟩ := three_cells q4
  obtain ⟨a, cap, rfl, -, -⟩ := h
  obtain ⟨a2, cap2, rfl, -, -⟩ := h2
  clear hm q1 q2 q3 q4 q5 q6
  unfold tiW at C1 HX Q1 Q2 x0 x1 x2 y0 y1 y2 C2
  go_enter Try.func6, Try.ntmps6
  go_wp2_with fail
  generalize (((w.alloc (.cells #[.int .i64 p, .int .i64 c, .slice a R.length cap] 24)).alloc (.cells #[.int .i64 p2, .int .i64 c2, .slice a2 R2.length cap2] 24)).alloc (.cells #[.int .i64 0, .int .i64 0, .slice none 0 0] 24)).alloc (.cells #[.int .i64 p, .int .i64 c, .slice a R.length cap, .int .i64 p2, .int .i64 c2, .slice a2 R2.length cap2] 24) = W0 at C1 HX Q1 Q2 x0 x1 x2 y0 y1 y2 C2 ⊢
  clear x0 x1 x2 y0 y1 y2
  go_loopw [7, 8, 18] (fun _ _ i wr => ∃ k : Nat, k ≤ 2 ∧ k ≤ 1 ∧ i = .int .i64 k ∧ Hid (Below W0.heap.size W0 wr)) (fun _ _ i _ => 2 - (intOf i).toNat)
  case atStart => exact ⟨0, by omega, by omega, rfl, Below.refl _ _⟩
  case round =>
    obtain ⟨k, hk, hk2, rfl, HB⟩ := hrel
    obtain ⟨g1, g2, g3, g4⟩ := HX.out _ HB.out
    obtain ⟨⟨s0, s1, s2⟩, s3, s4, s5⟩ := six_at g4
    have hsz := HB.out.size
    have hq := Q1.out
    have hk3 : k = 0 ∨ k = 1 ∨ k = 2 := by omega
    rcases hk3 with rfl | rfl | rfl
    · have CK := hid (C1.out _ HB.out)
      clear g1 g2 g3 g4 hsz hq
      go_wp2_with fail
      refine CK.out.mono ?_
      rintro e w2 ⟨rfl, hb2⟩
      have HB2 := hid hb2
      clear hb2 CK s0 s1 s2 s3 s4 s5
      go_wp2_with fail
      exact ⟨⟨1, by omega, by omega, rfl, HB2.out⟩, by simp [intOf]⟩
    · have CK := hid (C2.out _ HB.out)
      clear g1 g2 g3 g4 hsz hq
      go_wp2_with fail
      refine CK.out.mono ?_
      rintro e w2 ⟨rfl, hb2⟩
      have HB2 := hid hb2
      clear hb2 CK s0 s1 s2 s3 s4 s5
      obtain ⟨u1, u2, u3, u4⟩ := HX.out _ HB2.out
      obtain ⟨m0, m1, m2⟩ := three_cells u3
      obtain ⟨f0, f1, f2⟩ := three_frozen u3
      have HR4 := hid (set_three (x' := .int .i64 0) (y' := .int .i64 0) (z' := .slice none 0 0) u3)
      have SV := save_three w2 (w.heap.size + 1 + 1) (.int .i64 0) (.int .i64 0) (.slice none 0 0)
      have hs9 := (HB2.out).size
      have hq9 := Q1.out
      have HBW := hid (SV.below (Q2.out.trans ((HB2.out).mono (by omega))) (by omega) (fun b e => by omega))
      obtain ⟨n0, n1, n2⟩ := three_cells HR4.out
      clear HX u1 u2 u3 u4 SV hs9 hq9 HR4
      go_wp2_with fail
      refine bodyPost_ret (v := .tuple #[.agg #[.int .i64 0, .int .i64 0, .slice none 0 0], .int .i64 1]) ?_ rfl ⟨rfl, HBW.out⟩
      simp [results, Try.f6, go_sem, n0, n1, n2]
    · omega
set_option maxRecDepth 20000 in
set_option maxHeartbeats 4000000 in
theorem Times_shape1 (p : Int) (c : Nat) (p2 : Int) (c2 : Nat) (v v2 : Value) (R R2 : List (List Int)) (w : World) (h : RowsI w v R) (h2 : RowsI w v2 R2) (hm : MatOK p c R) (hm2 : MatOK p2 c2 R2) (hne : p ≠ p2) :
    Calls Try.prog 6 #[.agg #[.int .i64 p, .int .i64 c, v], .agg #[.int .i64 p2, .int .i64 c2, v2]] w fun e w' => e = .returned (.tuple #[.agg #[.int .i64 0, .int .i64 0, .slice none 0 0], .int .i64 3]) ∧ Below w.heap.size w w' := by
  obtain ⟨q1, q2, q3, q4, q5, q6⟩ := tiW_ok w p c p2 c2 v v2
  have C1 : Hid (∀ wr, Below (tiW w p c p2 c2 v v2).heap.size (tiW w p c p2 c2 v v2) wr → Calls Try.prog 18 #[.agg #[.int .i64 p, .int .i64 c, v]] (wr.alloc (.cells #[.int .i64 p, .int .i64 c, v] 24)) fun e w' => e = .returned (.int .i64 0) ∧ Below (tiW w p c p2 c2 v v2).heap.size (tiW w p c p2 c2 v v2) w') := fun wr hb => ((CheckMatrix_any p c v R _ (((h.below q2).below (hb.mono (Nat.le_refl _))).below ((Below.refl _ _).alloc (Nat.le_refl _) _))).mono fun e w' h9 => ⟨by rw [h9.1, MatOK.iff.2 hm], (hb.alloc hb.size _).trans (h9.2.mono (by have := hb.size; simp; omega))⟩)
  have C2 : Hid (∀ wr, Below (tiW w p c p2 c2 v v2).heap.size (tiW w p c p2 c2 v v2) wr → Calls Try.prog 18 #[.agg #[.int .i64 p2, .int .i64 c2, v2]] (wr.alloc (.cells #[.int .i64 p2, .int .i64 c2, v2] 24)) fun e w' => e = .returned (.int .i64 0) ∧ Below (tiW w p c p2 c2 v v2).heap.size (tiW w p c p2 c2 v v2) w') := fun wr hb => ((CheckMatrix_any p2 c2 v2 R2 _ (((h2.below q2).below (hb.mono (Nat.le_refl _))).below ((Below.refl _ _).alloc (Nat.le_refl _) _))).mono fun e w' h9 => ⟨by rw [h9.1, MatOK.iff.2 hm2], (hb.alloc hb.size _).trans (h9.2.mono (by have := hb.size; simp; omega))⟩)
  have HX : Hid (∀ wr, Below (tiW w p c p2 c2 v v2).heap.size (tiW w p c p2 c2 v v2) wr → wr.heap[w.heap.size]? = some (.cells #[.int .i64 p, .int .i64 c, v] 24 (0, 0)) ∧ wr.heap[w.heap.size + 1]? = some (.cells #[.int .i64 p2, .int .i64 c2, v2] 24 (0, 0)) ∧ wr.heap[w.heap.size + 1 + 1]? = some (.cells #[.int .i64 0, .int .i64 0, .slice none 0 0] 24 (0, 0)) ∧ wr.heap[w.heap.size + 1 + 1 + 1]? = some (.cells #[.int .i64 p, .int .i64 c, v, .int .i64 p2, .int .i64 c2, v2] 24 (0, 0))) := fun wr hb => ⟨(hb.block _ (by omega)).trans q3, (hb.block _ (by omega)).trans q4, (hb.block _ (by omega)).trans q5, (hb.block _ (by omega)).trans q6⟩
  have Q1 := hid q1
  have Q2 := hid q2
  obtain ⟨x0, x1, x2⟩ := three_cells q3
  obtain ⟨y0, y1, y2⟩ := three_cells q4
  obtain ⟨a, cap, rfl, -, -⟩ := h
  obtain ⟨a2, cap2, rfl, -, -⟩ := h2
  have hpp : (p != p2) = true := by simpa using hne
  have hpp2 : ¬ p = p2 := hne
  clear hm hm2 q1 q2 q3 q4 q5 q6 hne
  unfold tiW at C1 HX Q1 Q2 x0 x1 x2 y0 y1 y2 C2
  go_enter Try.func6, Try.ntmps6
  go_wp2_with fail
  generalize (((w.alloc (.cells #[.int .i64 p, .int .i64 c, .slice a R.length cap] 24)).alloc (.cells #[.int .i64 p2, .int .i64 c2, .slice a2 R2.length cap2] 24)).alloc (.cells #[.int .i64 0, .int .i64 0, .slice none 0 0] 24)).alloc (.cells #[.int .i64 p, .int .i64 c, .slice a R.length cap, .int .i64 p2, .int .i64 c2, .slice a2 R2.length cap2] 24) = W0 at C1 HX Q1 Q2 x0 x1 x2 y0 y1 y2 C2 ⊢
  clear x0 x1 x2 y0 y1 y2
  go_loopw [7, 8, 18] (fun _ _ i wr => ∃ k : Nat, k ≤ 2 ∧ i = .int .i64 k ∧ Hid (Below W0.heap.size W0 wr)) (fun _ _ i _ => 2 - (intOf i).toNat)
  case atStart => exact ⟨0, by omega, rfl, Below.refl _ _⟩
  case round =>
    obtain ⟨k, hk, rfl, HB⟩ := hrel
    obtain ⟨g1, g2, g3, g4⟩ := HX.out _ HB.out
    obtain ⟨⟨s0, s1, s2⟩, s3, s4, s5⟩ := six_at g4
    have hsz := HB.out.size
    have hq := Q1.out
    have hk3 : k = 0 ∨ k = 1 ∨ k = 2 := by omega
    rcases hk3 with rfl | rfl | rfl
    · have CK := hid (C1.out _ HB.out)
      clear g1 g2 g3 g4 hsz hq
      go_wp2_with fail
      refine CK.out.mono ?_
      rintro e w2 ⟨rfl, hb2⟩
      have HB2 := hid hb2
      clear hb2 CK s0 s1 s2 s3 s4 s5
      go_wp2_with fail
      exact ⟨⟨1, by omega, rfl, HB2.out⟩, by simp [intOf]⟩
    · have CK := hid (C2.out _ HB.out)
      clear g1 g2 g3 g4 hsz hq
      go_wp2_with fail
      refine CK.out.mono ?_
      rintro e w2 ⟨rfl, hb2⟩
      have HB2 := hid hb2
      clear hb2 CK s0 s1 s2 s3 s4 s5
      go_wp2_with fail
      exact ⟨⟨2, by omega, rfl, HB2.out⟩, by simp [intOf]⟩
    · obtain ⟨x0, x1, x2⟩ := three_cells g1
      obtain ⟨y0, y1, y2⟩ := three_cells g2
      clear s0 s1 s2 s3 s4 s5 C1 C2
      obtain ⟨u1, u2, u3, u4⟩ := HX.out _ HB.out
      obtain ⟨m0, m1, m2⟩ := three_cells u3
      obtain ⟨f0, f1, f2⟩ := three_frozen u3
      have HR4 := hid (set_three (x' := .int .i64 0) (y' := .int .i64 0) (z' := .slice none 0 0) u3)
      have SV := save_three wr (w.heap.size + 1 + 1) (.int .i64 0) (.int .i64 0) (.slice none 0 0)
      have hs9 := (HB.out).size
      have hq9 := Q1.out
      have HBW := hid (SV.below (Q2.out.trans ((HB.out).mono (by omega))) (by omega) (fun b e => by omega))
      obtain ⟨n0, n1, n2⟩ := three_cells HR4.out
      clear HX u1 u2 u3 u4 SV hs9 hq9 HR4
      go_wp2_with fail
      refine bodyPost_ret (v := .tuple #[.agg #[.int .i64 0, .int .i64 0, .slice none 0 0], .int .i64 3]) ?_ rfl ⟨rfl, HBW.out⟩
      simp [results, Try.f6, go_sem, n0, n1, n2]
set_option maxRecDepth 20000 in
set_option maxHeartbeats 4000000 in
theorem Times_shape2 (p : Int) (c : Nat) (p2 : Int) (c2 : Nat) (v v2 : Value) (R R2 : List (List Int)) (w : World) (h : RowsI w v R) (h2 : RowsI w v2 R2) (hm : MatOK p c R) (hm2 : MatOK p2 c2 R2) (he : p = p2) (hne : c ≠ R2.length) :
    Calls Try.prog 6 #[.agg #[.int .i64 p, .int .i64 c, v], .agg #[.int .i64 p2, .int .i64 c2, v2]] w fun e w' => e = .returned (.tuple #[.agg #[.int .i64 0, .int .i64 0, .slice none 0 0], .int .i64 3]) ∧ Below w.heap.size w w' := by
  subst he
  obtain ⟨q1, q2, q3, q4, q5, q6⟩ := tiW_ok w p c p c2 v v2
  have C1 : Hid (∀ wr, Below (tiW w p c p c2 v v2).heap.size (tiW w p c p c2 v v2) wr → Calls Try.prog 18 #[.agg #[.int .i64 p, .int .i64 c, v]] (wr.alloc (.cells #[.int .i64 p, .int .i64 c, v] 24)) fun e w' => e = .returned (.int .i64 0) ∧ Below (tiW w p c p c2 v v2).heap.size (tiW w p c p c2 v v2) w') := fun wr hb => ((CheckMatrix_any p c v R _ (((h.below q2).below (hb.mono (Nat.le_refl _))).below ((Below.refl _ _).alloc (Nat.le_refl _) _))).mono fun e w' h9 => ⟨by rw [h9.1, MatOK.iff.2 hm], (hb.alloc hb.size _).trans (h9.2.mono (by have := hb.size; simp; omega))⟩)
  have C2 : Hid (∀ wr, Below (tiW w p c p c2 v v2).heap.size (tiW w p c p c2 v v2) wr → Calls Try.prog 18 #[.agg #[.int .i64 p, .int .i64 c2, v2]] (wr.alloc (.cells #[.int .i64 p, .int .i64 c2, v2] 24)) fun e w' => e = .returned (.int .i64 0) ∧ Below (tiW w p c p c2 v v2).heap.size (tiW w p c p c2 v v2) w') := fun wr hb => ((CheckMatrix_any p c2 v2 R2 _ (((h2.below q2).below (hb.mono (Nat.le_refl _))).below ((Below.refl _ _).alloc (Nat.le_refl _) _))).mono fun e w' h9 => ⟨by rw [h9.1, MatOK.iff.2 hm2], (hb.alloc hb.size _).trans (h9.2.mono (by have := hb.size; simp; omega))⟩)
  have HX : Hid (∀ wr, Below (tiW w p c p c2 v v2).heap.size (tiW w p c p c2 v v2) wr → wr.heap[w.heap.size]? = some (.cells #[.int .i64 p, .int .i64 c, v] 24 (0, 0)) ∧ wr.heap[w.heap.size + 1]? = some (.cells #[.int .i64 p, .int .i64 c2, v2] 24 (0, 0)) ∧ wr.heap[w.heap.size + 1 + 1]? = some (.cells #[.int .i64 0, .int .i64 0, .slice none 0 0] 24 (0, 0)) ∧ wr.heap[w.heap.size + 1 + 1 + 1]? = some (.cells #[.int .i64 p, .int .i64 c, v, .int .i64 p, .int .i64 c2, v2] 24 (0, 0))) := fun wr hb => ⟨(hb.block _ (by omega)).trans q3, (hb.block _ (by omega)).trans q4, (hb.block _ (by omega)).trans q5, (hb.block _ (by omega)).trans q6⟩
  have Q1 := hid q1
  have Q2 := hid q2
  obtain ⟨x0, x1, x2⟩ := three_cells q3
  obtain ⟨y0, y1, y2⟩ := three_cells q4
  obtain ⟨a, cap, rfl, -, -⟩ := h
  obtain ⟨a2, cap2, rfl, -, -⟩ := h2
  have hcc : ((c : Int) != (R2.length : Int)) = true := by simp; omega
  have hcc2 : ¬ (c : Int) = (R2.length : Int) := by omega
  clear hm hm2 q1 q2 q3 q4 q5 q6 hne
  unfold tiW at C1 HX Q1 Q2 x0 x1 x2 y0 y1 y2 C2
  go_enter Try.func6, Try.ntmps6
  go_wp2_with fail
  generalize (((w.alloc (.cells #[.int .i64 p, .int .i64 c, .slice a R.length cap] 24)).alloc (.cells #[.int .i64 p, .int .i64 c2, .slice a2 R2.length cap2] 24)).alloc (.cells #[.int .i64 0, .int .i64 0, .slice none 0 0] 24)).alloc (.cells #[.int .i64 p, .int .i64 c, .slice a R.length cap, .int .i64 p, .int .i64 c2, .slice a2 R2.length cap2] 24) = W0 at C1 HX Q1 Q2 x0 x1 x2 y0 y1 y2 C2 ⊢
  clear x0 x1 x2 y0 y1 y2
  go_loopw [7, 8, 18] (fun _ _ i wr => ∃ k : Nat, k ≤ 2 ∧ i = .int .i64 k ∧ Hid (Below W0.heap.size W0 wr)) (fun _ _ i _ => 2 - (intOf i).toNat)
  case atStart => exact ⟨0, by omega, rfl, Below.refl _ _⟩
  case round =>
    obtain ⟨k, hk, rfl, HB⟩ := hrel
    obtain ⟨g1, g2, g3, g4⟩ := HX.out _ HB.out
    obtain ⟨⟨s0, s1, s2⟩, s3, s4, s5⟩ := six_at g4
    have hsz := HB.out.size
    have hq := Q1.out
    have hk3 : k = 0 ∨ k = 1 ∨ k = 2 := by omega
    rcases hk3 with rfl | rfl | rfl
    · have CK := hid (C1.out _ HB.out)
      clear g1 g2 g3 g4 hsz hq
      go_wp2_with fail
      refine CK.out.mono ?_
      rintro e w2 ⟨rfl, hb2⟩
      have HB2 := hid hb2
      clear hb2 CK s0 s1 s2 s3 s4 s5
      go_wp2_with fail
      exact ⟨⟨1, by omega, rfl, HB2.out⟩, by simp [intOf]⟩
    · have CK := hid (C2.out _ HB.out)
      clear g1 g2 g3 g4 hsz hq
      go_wp2_with fail
      refine CK.out.mono ?_
      rintro e w2 ⟨rfl, hb2⟩
      have HB2 := hid hb2
      clear hb2 CK s0 s1 s2 s3 s4 s5
      go_wp2_with fail
      exact ⟨⟨2, by omega, rfl, HB2.out⟩, by simp [intOf]⟩
    · obtain ⟨x0, x1, x2⟩ := three_cells g1
      obtain ⟨y0, y1, y2⟩ := three_cells g2
      clear s0 s1 s2 s3 s4 s5 C1 C2
      obtain ⟨u1, u2, u3, u4⟩ := HX.out _ HB.out
      obtain ⟨m0, m1, m2⟩ := three_cells u3
      obtain ⟨f0, f1, f2⟩ := three_frozen u3
      have HR4 := hid (set_three (x' := .int .i64 0) (y' := .int .i64 0) (z' := .slice none 0 0) u3)
      have SV := save_three wr (w.heap.size + 1 + 1) (.int .i64 0) (.int .i64 0) (.slice none 0 0)
      have hs9 := (HB.out).size
      have hq9 := Q1.out
      have HBW := hid (SV.below (Q2.out.trans ((HB.out).mono (by omega))) (by omega) (fun b e => by omega))
      obtain ⟨n0, n1, n2⟩ := three_cells HR4.out
      clear HX u1 u2 u3 u4 SV hs9 hq9 HR4
      go_wp2_with fail
      refine bodyPost_ret (v := .tuple #[.agg #[.int .i64 0, .int .i64 0, .slice none 0 0], .int .i64 3]) ?_ rfl ⟨rfl, HBW.out⟩
      simp [results, Try.f6, go_sem, n0, n1, n2]
set_option maxRecDepth 20000 in
set_option maxHeartbeats 4000000 in
theorem Times_ok (p : Int) (c : Nat) (p2 : Int) (c2 : Nat) (v v2 : Value) (R R2 : List (List Int)) (w : World) (h : RowsI w v R) (h2 : RowsI w v2 R2) (hm : MatOK p c R) (hm2 : MatOK p2 c2 R2) (he : p = p2) (he2 : c = R2.length) :
    Calls Try.prog 6 #[.agg #[.int .i64 p, .int .i64 c, v], .agg #[.int .i64 p2, .int .i64 c2, v2]] w fun e w' => ∃ u, e = .returned (.tuple #[.agg #[.int .i64 p, .int .i64 c2, u], .int .i64 0]) ∧ RowsN w.heap.size w' u (timL p c c2 R R2) ∧ Below w.heap.size w w' := by
  subst he
  obtain ⟨q1, q2, q3, q4, q5, q6⟩ := tiW_ok w p c p c2 v v2
  have C1 : Hid (∀ wr, Below (tiW w p c p c2 v v2).heap.size (tiW w p c p c2 v v2) wr → Calls Try.prog 18 #[.agg #[.int .i64 p, .int .i64 c, v]] (wr.alloc (.cells #[.int .i64 p, .int .i64 c, v] 24)) fun e w' => e = .returned (.int .i64 0) ∧ Below (tiW w p c p c2 v v2).heap.size (tiW w p c p c2 v v2) w') := fun wr hb => ((CheckMatrix_any p c v R _ (((h.below q2).below (hb.mono (Nat.le_refl _))).below ((Below.refl _ _).alloc (Nat.le_refl _) _))).mono fun e w' h9 => ⟨by rw [h9.1, MatOK.iff.2 hm], (hb.alloc hb.size _).trans (h9.2.mono (by have := hb.size; simp; omega))⟩)
  have C2 : Hid (∀ wr, Below (tiW w p c p c2 v v2).heap.size (tiW w p c p c2 v v2) wr → Calls Try.prog 18 #[.agg #[.int .i64 p, .int .i64 c2, v2]] (wr.alloc (.cells #[.int .i64 p, .int .i64 c2, v2] 24)) fun e w' => e = .returned (.int .i64 0) ∧ Below (tiW w p c p c2 v v2).heap.size (tiW w p c p c2 v v2) w') := fun wr hb => ((CheckMatrix_any p c2 v2 R2 _ (((h2.below q2).below (hb.mono (Nat.le_refl _))).below ((Below.refl _ _).alloc (Nat.le_refl _) _))).mono fun e w' h9 => ⟨by rw [h9.1, MatOK.iff.2 hm2], (hb.alloc hb.size _).trans (h9.2.mono (by have := hb.size; simp; omega))⟩)
  have HX : Hid (∀ wr, Below (tiW w p c p c2 v v2).heap.size (tiW w p c p c2 v v2) wr → wr.heap[w.heap.size]? = some (.cells #[.int .i64 p, .int .i64 c, v] 24 (0, 0)) ∧ wr.heap[w.heap.size + 1]? = some (.cells #[.int .i64 p, .int .i64 c2, v2] 24 (0, 0)) ∧ wr.heap[w.heap.size + 1 + 1]? = some (.cells #[.int .i64 0, .int .i64 0, .slice none 0 0] 24 (0, 0)) ∧ wr.heap[w.heap.size + 1 + 1 + 1]? = some (.cells #[.int .i64 p, .int .i64 c, v, .int .i64 p, .int .i64 c2, v2] 24 (0, 0))) := fun wr hb => ⟨(hb.block _ (by omega)).trans q3, (hb.block _ (by omega)).trans q4, (hb.block _ (by omega)).trans q5, (hb.block _ (by omega)).trans q6⟩
  have Q1 := hid q1
  have Q2 := hid q2
  obtain ⟨x0, x1, x2⟩ := three_cells q3
  obtain ⟨y0, y1, y2⟩ := three_cells q4
  have HP := hid hm.pr
  obtain ⟨a, cap, rfl, hlen, hcc⟩ := h
  have HC : Hid (∀ k, k < R.length → ∃ b off, a = some ⟨b, off, none⟩ ∧ ∃ ra rc, ∀ wr, Below w.heap.size w wr → wr.cell? ⟨b, off + k, none⟩ = some (.slice ra c rc) ∧ ∀ m, m < c → ∃ rb ro, ra = some ⟨rb, ro, none⟩ ∧ wr.cell? ⟨rb, ro + m, none⟩ = some (.int .i64 (rowF R k m))) := fun k hk => by
    obtain ⟨b, off, h1, h2, h3⟩ := hcc (by omega)
    obtain ⟨u, h4, h5⟩ := h3 k hk
    have hl := hm.len k hk
    have hl2 : (R.getD k []).length = c := by omega
    have h5' := h5
    obtain ⟨ra, rc, rfl, -, -⟩ := h5
    refine ⟨b, off, h1, ra, rc, fun wr hbw => ⟨?_, fun m hmc => ?_⟩⟩
    · rw [hbw.cell (p := ⟨b, off + k, none⟩) h2, h4, hl2]
    · obtain ⟨ra2, rc2, e1, -, e3⟩ := h5'.below hbw
      cases e1
      obtain ⟨rb, ro, e4, -, e6⟩ := e3 (by omega)
      exact ⟨rb, ro, e4, e6 m (by omega)⟩
  obtain ⟨a2, cap2, rfl, hlen2, hcc2⟩ := h2
  have HC2 : Hid (∀ k, k < R2.length → ∃ b off, a2 = some ⟨b, off, none⟩ ∧ ∃ u, ∀ wr, Below w.heap.size w wr → wr.cell? ⟨b, off + k, none⟩ = some u ∧ RdZ wr u c2 (rowF R2 k) fun b => b < w.heap.size) := fun k hk => by
    obtain ⟨b, off, h1, h2, h3⟩ := hcc2 (by omega)
    obtain ⟨u, h4, h5⟩ := h3 k hk
    have hl := hm2.len k hk
    have hl2 : (R2.getD k []).length = c2 := by omega
    refine ⟨b, off, h1, u, fun wr hbw => ⟨(hbw.cell (p := ⟨b, off + k, none⟩) h2).trans h4, ?_⟩⟩
    obtain ⟨ra, rc, e1, -, e3⟩ := h5
    rw [hl2] at e1 e3
    refine ⟨ra, rc, e1, fun h0 => ?_⟩
    obtain ⟨rb, ro, e4, e5, e6⟩ := e3 h0
    exact ⟨rb, ro, e4, e5, Nat.lt_of_lt_of_le e5 hbw.size, fun i hi => (hbw.cell (p := ⟨rb, ro + i, none⟩) e5).trans (e6 i hi)⟩
  have HR1 : Hid (∀ k m, k < R.length → m < c → 0 ≤ rowF R k m ∧ rowF R k m < p) := fun k m hk hm' => hm.rng k hk m (by omega)
  have HR2 : Hid (∀ k m, k < R2.length → m < c2 → 0 ≤ rowF R2 k m ∧ rowF R2 k m < p) := fun k m hk hm' => hm2.rng k hk m (by omega)
  have hN6 := hm.rl
  have hc8 := hm2.c8
  rw [← he2] at HC2 HR2 C1 C2 HX Q1 Q2 x0 x1 x2 y0 y1 y2 hlen2 ⊢
  unfold timL
  obtain ⟨F, HF⟩ : ∃ F, Hid (rowF R = F) := ⟨_, rfl⟩
  rw [HF.out] at HC HR1 ⊢
  obtain ⟨G, HG⟩ : ∃ G, Hid (rowF R2 = G) := ⟨_, rfl⟩
  rw [HG.out] at HC2 HR2 ⊢
  obtain ⟨N, HN⟩ : ∃ N, Hid (R.length = N) := ⟨_, rfl⟩
  rw [HN.out] at HC HR1 C1 C2 HX Q1 Q2 x0 x1 x2 y0 y1 y2 hlen hN6 ⊢
  clear hm hm2 hcc hcc2 he2 HF HG HN q1 q2 q3 q4 q5 q6
  unfold tiW at C1 HX Q1 Q2 x0 x1 x2 y0 y1 y2 C2
  go_enter Try.func6, Try.ntmps6
  go_wp2_with fail
  generalize (((w.alloc (.cells #[.int .i64 p, .int .i64 c, .slice a N cap] 24)).alloc (.cells #[.int .i64 p, .int .i64 c2, .slice a2 c cap2] 24)).alloc (.cells #[.int .i64 0, .int .i64 0, .slice none 0 0] 24)).alloc (.cells #[.int .i64 p, .int .i64 c, .slice a N cap, .int .i64 p, .int .i64 c2, .slice a2 c cap2] 24) = W0 at C1 HX Q1 Q2 x0 x1 x2 y0 y1 y2 C2 ⊢
  clear x0 x1 x2 y0 y1 y2
  go_loopw [7, 8, 18] (fun _ _ i wr => ∃ k : Nat, k ≤ 2 ∧ i = .int .i64 k ∧ Hid (Below W0.heap.size W0 wr)) (fun _ _ i _ => 2 - (intOf i).toNat)
  case atStart => exact ⟨0, by omega, rfl, Below.refl _ _⟩
  case round =>
    obtain ⟨k, hk, rfl, HB⟩ := hrel
    obtain ⟨g1, g2, g3, g4⟩ := HX.out _ HB.out
    obtain ⟨⟨s0, s1, s2⟩, s3, s4, s5⟩ := six_at g4
    have hsz := HB.out.size
    have hq := Q1.out
    have hk3 : k = 0 ∨ k = 1 ∨ k = 2 := by omega
    rcases hk3 with rfl | rfl | rfl
    · have CK := hid (C1.out _ HB.out)
      clear g1 g2 g3 g4 hsz hq
      go_wp2_with fail
      refine CK.out.mono ?_
      rintro e w2 ⟨rfl, hb2⟩
      have HB2 := hid hb2
      clear hb2 CK s0 s1 s2 s3 s4 s5
      go_wp2_with fail
      exact ⟨⟨1, by omega, rfl, HB2.out⟩, by simp [intOf]⟩
    · have CK := hid (C2.out _ HB.out)
      clear g1 g2 g3 g4 hsz hq
      go_wp2_with fail
      refine CK.out.mono ?_
      rintro e w2 ⟨rfl, hb2⟩
      have HB2 := hid hb2
      clear hb2 CK s0 s1 s2 s3 s4 s5
      go_wp2_with fail
      exact ⟨⟨2, by omega, rfl, HB2.out⟩, by simp [intOf]⟩
    · obtain ⟨x0, x1, x2⟩ := three_cells g1
      obtain ⟨y0, y1, y2⟩ := three_cells g2
      clear s0 s1 s2 s3 s4 s5 C1 C2
      have NO := hid (noughts_ok p N c2 wr (by omega) (by omega))
      clear g1 g2 g3 g4
      go_wp2_with fail
      refine NO.out.mono ?_
      rintro e w3 ⟨rfl, h3, h4⟩
      have hs3 := h4.size
      have B3 : Hid (Below W0.heap.size W0 w3) := HB.out.trans (h4.mono HB.out.size)
      have BZ := (Below.refl w3.heap.size w3).alloc (Nat.le_refl _) (.cells #[.int .i64 p, .int .i64 c2, .slice (some ⟨wr.heap.size + 1, 0, none⟩) N N] 24)
      have HM0 := hid (h3.below BZ)
      have BZ0 := hid (B3.out.trans (BZ.mono B3.out.size))
      have HZ := hid (World.alloc_heap_new w3 (.cells #[.int .i64 p, .int .i64 c2, .slice (some ⟨wr.heap.size + 1, 0, none⟩) N N] 24))
      have hszZ : w3.heap.size < (w3.alloc (.cells #[.int .i64 p, .int .i64 c2, .slice (some ⟨wr.heap.size + 1, 0, none⟩) N N] 24)).heap.size := by simp
      have hg3 := h3.size
      have hr3 : ∀ i, i < N → wr.heap.size + 3 + i < w3.heap.size := fun i hi => (h3.row i hi).size
      have HR3 := hid hr3
      clear x0 x1 x2 y0 y1 y2 h3 h4 NO BZ hr3
      obtain ⟨g1, g2, g3, g4⟩ := HX.out _ BZ0.out
      obtain ⟨x0, x1, x2⟩ := three_cells g1
      clear g1 g2 g3 g4
      go_wp2_with fail
      generalize w3.alloc (.cells #[.int .i64 p, .int .i64 c2, .slice (some ⟨wr.heap.size + 1, 0, none⟩) N N] 24) = WZ at HM0 BZ0 HZ hszZ x0 x1 x2 ⊢
      obtain ⟨S, hS⟩ : ∃ S, wr.heap.size = S := ⟨_, rfl⟩
      rw [hS] at hsz HM0 HZ HR3 hg3 hs3 ⊢
      clear hS
      have HST : Hid (∀ wr, Save (fun b => ∃ i, i < N ∧ b = S + 3 + i) WZ wr → Below w.heap.size w wr ∧ wr.heap[w.heap.size]? = some (.cells #[.int .i64 p, .int .i64 c, .slice a N cap] 24 (0, 0)) ∧ wr.heap[w.heap.size + 1]? = some (.cells #[.int .i64 p, .int .i64 c2, .slice a2 c cap2] 24 (0, 0)) ∧ wr.heap[w.heap.size + 1 + 1]? = some (.cells #[.int .i64 0, .int .i64 0, .slice none 0 0] 24 (0, 0)) ∧ wr.heap[w3.heap.size]? = some (.cells #[.int .i64 p, .int .i64 c2, .slice (some ⟨S + 1, 0, none⟩) N N] 24 (0, 0))) := fun wr hs => by
        obtain ⟨g1, g2, g3, g4⟩ := HX.out _ BZ0.out
        have hsw := BZ0.out.size
        refine ⟨hs.below (Q2.out.trans (BZ0.out.mono (by omega))) (by omega) (fun b ⟨i, _, e⟩ => by omega), (hs.block _ (by omega) fun ⟨i, _, e⟩ => by omega).trans g1, (hs.block _ (by omega) fun ⟨i, _, e⟩ => by omega).trans g2, (hs.block _ (by omega) fun ⟨i, _, e⟩ => by omega).trans g3, (hs.block _ hszZ fun ⟨i, hi, e⟩ => by have := HR3.out i hi; omega).trans HZ.out⟩
      clear HX HB B3 Q1 Q2
      go_loopw [10, 11, 54] (fun _ _ i wr => ∃ k : Nat, k ≤ N ∧ i = .int .i64 k ∧ Hid (MatB wr (S + 1) N c2 (fun i => S + 3 + i) (fun _ => c2) (fun i r => if i < k then timF p F G c i r else 0)) ∧ Hid (Save (fun b => ∃ i, i < N ∧ b = S + 3 + i) WZ wr)) (fun _ _ i _ => N - (intOf i).toNat)
      case atStart => exact ⟨0, Nat.zero_le _, rfl, HM0.out.congr fun i _ r _ => by rw [if_neg (by omega)], Save.refl _ _⟩
      case round =>
        obtain ⟨k, hk, rfl, HK, HS⟩ := hrel
        clear x0 x1 x2 HM0 BZ0 HZ
        by_cases hlt : k < N
        · have hki : (k : Int) < (N : Int) := by omega
          obtain ⟨b, off, rfl, ra, rc, hu⟩ := HC.out k hlt
          have HU := hid hu
          have c0 := (hu _ (HST.out _ HS.out).1).1
          clear hu
          go_wp2_with fail
          go_loopw [12, 13, 61] (fun _ _ i wr => ∃ m : Nat, m ≤ c ∧ i = .int .i64 m ∧ Hid (MatB wr (S + 1) N c2 (fun i => S + 3 + i) (fun _ => c2) (fun i r => if i < k then timF p F G c i r else if i = k then timF p F G m i r else 0)) ∧ Hid (Save (fun b => ∃ i, i < N ∧ b = S + 3 + i) WZ wr)) (fun _ _ i _ => c - (intOf i).toNat)
          case atStart => exact ⟨0, Nat.zero_le _, rfl, HK.out.congr fun i _ r _ => by
            by_cases e : i < k
            · rw [if_pos e, if_pos e]
            · rw [if_neg e, if_neg e]
              split
              · rfl
              · rfl, HS.out⟩
          case round =>
            obtain ⟨m, hm, rfl, HJ, HT⟩ := hrel
            clear HK HS c0
            by_cases hlm : m < c
            · have hmi : (m : Int) < (c : Int) := by omega
              obtain ⟨t1, t2, t3, t4, t5⟩ := HST.out _ HT.out
              obtain ⟨rb, ro, rfl, c1⟩ := (HU.out _ t1).2 m hlm
              obtain ⟨b2, off2, rfl, u, hu2⟩ := HC2.out m hlm
              have c3 := (hu2 _ t1).1
              obtain ⟨x0, x1, x2⟩ := three_cells t2
              obtain ⟨y0, y1, y2⟩ := three_cells t3
              obtain ⟨z0, z1, z2⟩ := three_cells t5
              have d0 := HJ.out.head k hlt
              have R1 := HJ.out.row k hlt
              have E1 : (fun r => if k < k then timF p F G c k r else if k = k then timF p F G m k r else 0) = timF p F G m k := by
                funext r; rw [if_neg (by omega), if_pos rfl]
              have R1' : TblZ (S + 3 + k) wr c2 (timF p F G m k) := by rw [← E1]; exact R1
              have ft := HR1.out k m hlt hlm
              have AD : Hid (∀ wx, Below wr.heap.size wr wx → Calls Try.prog 22 #[.int .i64 p, .slice (some ⟨S + 3 + k, 0, none⟩) c2 c2, u, .int .i64 (F k m)] wx fun e w' => e = .returned (.tuple #[]) ∧ TblZ (S + 3 + k) w' c2 (fun i => (timF p F G m k i + F k m * G m i) % p) ∧ Save (fun b => b = S + 3 + k) wx w') := fun wx hb =>
                add_ok p (F k m) (S + 3 + k) c2 c2 (timF p F G m k) (G m) u wx HP.out (by omega) (by omega) (R1'.below hb) (fun i hi => timF_in HP.out F G m k i) (by
                  obtain ⟨a3, cap3, e1, e2⟩ := (hu2 wx (t1.trans (hb.mono t1.size))).2
                  refine ⟨a3, cap3, e1, fun h0 => ?_⟩
                  obtain ⟨b3, off3, e3, e4, e5, e6⟩ := e2 h0
                  exact ⟨b3, off3, e3, by omega, e5, e6⟩) fun i hi => HR2.out m i hlm hi
              have G3 : Hid (∀ wx w', Below wr.heap.size wr wx → TblZ (S + 3 + k) w' c2 (fun i => (timF p F G m k i + F k m * G m i) % p) → Save (fun b => b = S + 3 + k) wx w' → MatB w' (S + 1) N c2 (fun i => S + 3 + i) (fun _ => c2) (fun i r => if i < k then timF p F G c i r else if i = k then timF p F G (m + 1) i r else 0) ∧ Save (fun b => ∃ i, i < N ∧ b = S + 3 + i) WZ w') := fun wx w' hb h1 h2 => by
                refine ⟨(HJ.out.below hb).put hlt h1 h2 fun i hi r hr => ?_, (HT.out.trans (Save.of_below hb)).trans (h2.mono fun b e => ⟨k, hlt, e⟩)⟩
                by_cases e : i = k
                · subst e
                  rw [if_neg (by omega), if_pos rfl, if_pos rfl]
                  rfl
                · simp only [if_neg e]
              clear HJ HT R1 R1' E1 HU hu2 t1 t2 t3 t4 t5
              generalize F k m = fkm at *
              go_wp2_with fail
              go_region_with (go_at_call 22; refine (AD.out _ (Below.refl _ _).drew).mono ?_; rintro e w4 ⟨rfl, h4, h5⟩; obtain ⟨h6, h7⟩ := G3.out _ _ (Below.refl _ _).drew h4 h5; have H6 := hid h6; have H7 := hid h7; clear h4 h5 h6 h7)
              all_goals go_wp2_with fail
              all_goals exact ⟨⟨m + 1, by omega, by go_num, H6.out, H7.out⟩, by simp [intOf]; omega⟩
            · obtain rfl : m = c := by omega
              have hne2 : ¬ (m : Int) < (m : Int) := by omega
              have G1 : Hid (MatB wr (S + 1) N c2 (fun i => S + 3 + i) (fun _ => c2) (fun i r => if i < k + 1 then timF p F G m i r else 0)) := HJ.out.congr fun i _ r _ => by
                by_cases e : i < k
                · rw [if_pos e, if_pos (by omega)]
                · rw [if_neg e]
                  by_cases e2 : i = k
                  · rw [if_pos e2, if_pos (by omega)]
                  · rw [if_neg e2, if_neg (by omega)]
              clear HJ
              go_wp2_with fail
              exact ⟨⟨k + 1, by omega, by go_num, G1.out, HT.out⟩, by simp [intOf]; omega⟩
        · obtain rfl : k = N := by omega
          have hne : ¬ (k : Int) < (k : Int) := by omega
          obtain ⟨t1, t2, t3, t4, t5⟩ := HST.out _ HS.out
          obtain ⟨z0, z1, z2⟩ := three_cells t5
          obtain ⟨y0, y1, y2⟩ := three_cells t4
          obtain ⟨f0, f1, f2⟩ := three_frozen t4
          have HR4 := hid (set_three (x' := .int .i64 p) (y' := .int .i64 c2) (z' := .slice (some ⟨S + 1, 0, none⟩) k k) t4)
          have SV := fun wr => save_three wr (w.heap.size + 1 + 1) (.int .i64 p) (.int .i64 c2) (.slice (some ⟨S + 1, 0, none⟩) k k)
          have hsw := HS.out.size
          have HRW := hid (((HK.out.congr (f' := fun i r => timF p F G c i r) fun i hi r _ => by rw [if_pos hi]).save (SV _) (by omega) (fun i hi => by omega)).rowsN (by omega) (by omega) k (Nat.le_refl _) (show w.heap.size ≤ S + 1 by omega) (fun i hi => by omega) (Nat.le_refl _))
          have HBW := hid ((SV _).below t1 (by omega) (fun b e => by omega))
          obtain ⟨n0, n1, n2⟩ := three_cells HR4.out
          clear HK HS HR4 SV t1 t2 t3 t4 t5 HC HC2 HST
          go_wp2_with fail
          refine bodyPost_ret (v := .tuple #[.agg #[.int .i64 p, .int .i64 c2, .slice (some ⟨S + 1, 0, none⟩) k k], .int .i64 0]) ?_ rfl ⟨_, rfl, HRW.out, HBW.out⟩
          simp [results, Try.f6, go_sem, n0, n1, n2]
end Go.Proofs.Ytpdfaenjmjphpaa
