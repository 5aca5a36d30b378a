/- field.Rank, field.Turned. -/
import Derived.Test.YtcncaaeofcmefaaFdIW
namespace Go.Proofs.Ytcncaaeofcmefaa
open Go.RowKit

theorem field_rows (p c : Int) (a : Option Addr) (l k : Nat) (w : World) : (Instr.field 24 (.agg #[.int .i64 p, .int .i64 c, .slice a l k]) 2).run Try.prog w = .ok (.slice a l k) w := by kernel_rfl
set_option maxRecDepth 20000 in
set_option maxHeartbeats 1000000 in
theorem Rank_ok (p : Int) (c : Nat) (v : Value) (R : List (List Int)) (w : World) (h : RowsI w v R) (hm : MatOK p c R) :
    Calls Try.prog 5 #[.agg #[.int .i64 p, .int .i64 c, v]] w fun e w' => e = .returned (.tuple #[.int .i64 ((redL p c R).length : Nat), .int .i64 0]) ∧ Below w.heap.size w w' := by
  have hb0 := below_boxMx w #[.int .i64 p, .int .i64 c, v]
  have hn0 := World.alloc_heap_new w (.cells #[.int .i64 p, .int .i64 c, v] 24)
  have CM := hid (CheckMatrix_any p c v R _ (h.below hb0))
  rw [MatOK.iff.2 hm] at CM
  have Q2 := hid hb0
  have HN := hid hn0
  have RH := hid (h.below hb0)
  have HM := hid hm
  obtain ⟨x0, x1, x2⟩ := three_cells hn0
  clear h hm hb0 hn0
  go_enter Try.func5, Try.ntmps5
  go_wp2_with fail
  have hsz : (w.alloc (.cells #[.int .i64 p, .int .i64 c, v] 24)).heap.size = w.heap.size + 1 := by simp
  have Q1 := hid hsz
  clear hsz
  generalize w.alloc (.cells #[.int .i64 p, .int .i64 c, v] 24) = W0 at CM HN RH Q1 Q2 x0 x1 x2 ⊢
  refine CM.out.mono ?_
  rintro e w2 ⟨rfl, hb2⟩
  have HB2 := hid hb2
  have hq := Q1.out
  have RD := hid (reduced_any p c v R w2 (RH.out.below hb2) HM.out)
  obtain ⟨x0, x1, x2⟩ := three_cells ((hb2.block _ (by omega)).trans HN.out)
  clear CM hb2 hq
  go_wp2_with fail
  refine RD.out.mono ?_
  rintro e w3 ⟨u, rfl, h3, h4⟩
  obtain ⟨ua, ucap, rfl⟩ := h3.form
  have H4 := hid (Q2.out.trans ((HB2.out.trans (h4.mono HB2.out.size)).mono Q2.out.size))
  clear h3 h4 RD
  have hfd := fun w => field_rows p c ua (redL p c R).length ucap w
  go_wp2_with fail
  exact bodyPost_ret (results_tmp2 rfl _ _ _) rfl ⟨rfl, H4.out⟩
set_option maxRecDepth 20000 in
set_option maxHeartbeats 1000000 in
theorem Rank_bad (p c : Int) (v : Value) (R : List (List Int)) (w : World) (h : RowsI w v R) (hm : matR p c R = 1) :
    Calls Try.prog 5 #[.agg #[.int .i64 p, .int .i64 c, v]] w fun e w' => e = .returned (.tuple #[.int .i64 0, .int .i64 1]) ∧ Below w.heap.size w w' := by
  have hb0 := below_boxMx w #[.int .i64 p, .int .i64 c, v]
  have hn0 := World.alloc_heap_new w (.cells #[.int .i64 p, .int .i64 c, v] 24)
  have CM := hid (CheckMatrix_any p c v R _ (h.below hb0))
  rw [hm] at CM
  have Q2 := hid hb0
  obtain ⟨x0, x1, x2⟩ := three_cells hn0
  clear h hm hb0 hn0
  go_enter Try.func5, Try.ntmps5
  go_wp2_with fail
  refine CM.out.mono ?_
  rintro e w2 ⟨rfl, hb2⟩
  have H4 := hid (Q2.out.trans (hb2.mono Q2.out.size))
  clear CM hb2
  go_wp2_with fail
  exact bodyPost_ret (results_tmp2 rfl _ _ _) rfl ⟨rfl, H4.out⟩
/-- Rows and columns change places. -/
def turL (c : Nat) (R : List (List Int)) : List (List Int) := matL c R.length fun j i => rowF R i j
end Go.Proofs.Ytcncaaeofcmefaa

namespace Go.Proofs.Ytcncaaeofcmefaa
open Go.RowKit

/-- The products, added one by one. -/
def timF (p : Int) (F G : Nat → Nat → Int) : Nat → Nat → Nat → Int
  | 0, _, _ => 0
  | m + 1, i, r => (timF p F G m i r + F i m * G m r) % p
theorem timF_in {p : Int} (hp : isP p) (F G : Nat → Nat → Int) (m i r : Nat) : 0 ≤ timF p F G m i r ∧ timF p F G m i r < p := by
  have := isP_pos hp
  cases m with
  | zero => exact ⟨Int.le_refl 0, by show 0 < p; omega⟩
  | succ m => exact ⟨Int.emod_nonneg _ (by omega), Int.emod_lt_of_pos _ (by omega)⟩
theorem timF_em {p : Int} (F G : Nat → Nat → Int) (i r : Nat) : ∀ m, Em p (timF p F G m i r) (sm m fun j => F i j * G j r)
  | 0 => Em.refl _
  | m + 1 => (Em.mod _).trans ((timF_em F G i r m).add (Em.refl _))
/-- The product. -/
def timL (p : Int) (c c2 : Nat) (R R2 : List (List Int)) : List (List Int) := matL R.length c2 (timF p (rowF R) (rowF R2) c)
/-- The boxes of two matrices that come in, of one that goes out, and both in a row. -/
def tiW (w : World) (p c p2 c2 : Int) (v v2 : Value) : World := (((w.alloc (.cells #[.int .i64 p, .int .i64 c, v] 24)).alloc (.cells #[.int .i64 p2, .int .i64 c2, v2] 24)).alloc (.cells #[.int .i64 0, .int .i64 0, .slice none 0 0] 24)).alloc (.cells #[.int .i64 p, .int .i64 c, v, .int .i64 p2, .int .i64 c2, v2] 24)
theorem tiW_ok (w : World) (p c p2 c2 : Int) (v v2 : Value) : (tiW w p c p2 c2 v v2).heap.size = w.heap.size + 4 ∧ Below w.heap.size w (tiW w p c p2 c2 v v2) ∧ (tiW w p c p2 c2 v v2).heap[w.heap.size]? = some (.cells #[.int .i64 p, .int .i64 c, v] 24 (0, 0)) ∧ (tiW w p c p2 c2 v v2).heap[w.heap.size + 1]? = some (.cells #[.int .i64 p2, .int .i64 c2, v2] 24 (0, 0)) ∧ (tiW w p c p2 c2 v v2).heap[w.heap.size + 1 + 1]? = some (.cells #[.int .i64 0, .int .i64 0, .slice none 0 0] 24 (0, 0)) ∧ (tiW w p c p2 c2 v v2).heap[w.heap.size + 1 + 1 + 1]? = some (.cells #[.int .i64 p, .int .i64 c, v, .int .i64 p2, .int .i64 c2, v2] 24 (0, 0)) := by
  have hb : ∀ (W : World) (o : Obj), Below W.heap.size W (W.alloc o) := fun W o => (Below.refl _ _).alloc (Nat.le_refl _) _
  unfold tiW
  obtain ⟨w1, h1⟩ : ∃ w1, w.alloc (.cells #[.int .i64 p, .int .i64 c, v] 24) = w1 := ⟨_, rfl⟩
  have s1 : w1.heap.size = w.heap.size + 1 := by rw [← h1]; simp
  have b1 := hb w (.cells #[.int .i64 p, .int .i64 c, v] 24)
  have n1 := World.alloc_heap_new w (.cells #[.int .i64 p, .int .i64 c, v] 24)
  rw [h1] at b1 n1 ⊢
  obtain ⟨w2, h2⟩ : ∃ w2, w1.alloc (.cells #[.int .i64 p2, .int .i64 c2, v2] 24) = w2 := ⟨_, rfl⟩
  have s2 : w2.heap.size = w.heap.size + 1 + 1 := by rw [← h2]; simp [s1]
  have b2 := hb w1 (.cells #[.int .i64 p2, .int .i64 c2, v2] 24)
  have n2 := World.alloc_heap_new w1 (.cells #[.int .i64 p2, .int .i64 c2, v2] 24)
  rw [h2] at b2 n2 ⊢
  obtain ⟨w3, h3⟩ : ∃ w3, w2.alloc (.cells #[.int .i64 0, .int .i64 0, .slice none 0 0] 24) = w3 := ⟨_, rfl⟩
  have s3 : w3.heap.size = w.heap.size + 1 + 1 + 1 := by rw [← h3]; simp [s2]
  have b3 := hb w2 (.cells #[.int .i64 0, .int .i64 0, .slice none 0 0] 24)
  have n3 := World.alloc_heap_new w2 (.cells #[.int .i64 0, .int .i64 0, .slice none 0 0] 24)
  rw [h3] at b3 n3 ⊢
  obtain ⟨w4, h4⟩ : ∃ w4, w3.alloc (.cells #[.int .i64 p, .int .i64 c, v, .int .i64 p2, .int .i64 c2, v2] 24) = w4 := ⟨_, rfl⟩
  have s4 : w4.heap.size = w.heap.size + 4 := by rw [← h4]; simp [s3]
  have b4 := hb w3 (.cells #[.int .i64 p, .int .i64 c, v, .int .i64 p2, .int .i64 c2, v2] 24)
  have n4 := World.alloc_heap_new w3 (.cells #[.int .i64 p, .int .i64 c, v, .int .i64 p2, .int .i64 c2, v2] 24)
  rw [h4] at b4 n4 ⊢
  rw [s1] at n2
  rw [s2] at n3
  rw [s3] at n4
  have b34 := (b3.trans (b4.mono (by omega)))
  have b24 := (b2.trans (b34.mono (by omega)))
  exact ⟨s4, b1.trans (b24.mono (by omega)), (b24.block _ (by omega)).trans n1, (b34.block _ (by omega)).trans n2, (b4.block _ (by omega)).trans n3, n4⟩
theorem six_at {W : World} {b : Nat} {x y z x' y' z' : Value} {t : TypeId} (h : W.heap[b]? = some (.cells #[x, y, z, x', y', z'] t (0, 0))) : (W.cell? ⟨b, 0, none⟩ = some x ∧ W.cell? ⟨b, 1, none⟩ = some y ∧ W.cell? ⟨b, 2, none⟩ = some z) ∧ W.cell? ⟨b, 3, none⟩ = some x' ∧ W.cell? ⟨b, 4, none⟩ = some y' ∧ W.cell? ⟨b, 5, none⟩ = some z' := by
  refine ⟨⟨?_, ?_, ?_⟩, ?_, ?_, ?_⟩ <;> simp [World.cell?, h]
end Go.Proofs.Ytcncaaeofcmefaa
