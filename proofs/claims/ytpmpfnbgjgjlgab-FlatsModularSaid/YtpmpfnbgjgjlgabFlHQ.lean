/- flats.latticeOf, latticeAt; (lattice).covers, isModular. -/
import Derived.Test.YtpmpfnbgjgjlgabFlCQ
import Derived.Test.YtpmpfnbgjgjlgabRkOQ
import Derived.Test.YtpmpfnbgjgjlgabEqQ
namespace Go.Proofs.Ytpmpfnbgjgjlgab
open Go.RowKit

/-- The boxes at the entrance: a matroid's, a lattice's. -/
def boxL (w : World) (n : Int) (v : Value) : World := (w.alloc (.cells #[.int .i64 n, v] 24)).alloc (.cells #[.slice none 0 0, .slice none 0 0] 48)
theorem boxL_below (w : World) (n : Int) (v : Value) : Below w.heap.size w (boxL w n v) := ((Below.refl _ _).alloc (Nat.le_refl _) _).alloc (by simp) _
theorem boxL_size (w : World) (n : Int) (v : Value) : (boxL w n v).heap.size = w.heap.size + 2 := by unfold boxL; simp
theorem boxL_blocks {w w2 : World} {n : Int} {v : Value} (hb2 : Below (boxL w n v).heap.size (boxL w n v) w2) :
    w2.heap[w.heap.size]? = some (.cells #[.int .i64 n, v] 24 (0, 0)) ∧ w2.heap[w.heap.size + 1]? = some (.cells #[.slice none 0 0, .slice none 0 0] 48 (0, 0)) := by
  have hs := boxL_size w n v
  refine ⟨(hb2.block _ (by omega)).trans ?_, (hb2.block _ (by omega)).trans ?_⟩
  · unfold boxL
    rw [Below.heap_alloc _ _ _ (by simp)]
    exact World.alloc_heap_new w _
  · unfold boxL
    have := World.alloc_heap_new (w.alloc (.cells #[.int .i64 n, v] 24)) (.cells #[.slice none 0 0, .slice none 0 0] 48)
    rwa [World.size_alloc] at this
theorem enters_lat1 : Enters 59 := fun args w => enters_of Try.func59 (by kernel_rfl) rfl args w
theorem lat1_ans {w : World} {b m : Nat} {v : Value} {r : Nat → Nat} (hm : m ≤ 8) (h1 : b < w.heap.size) (hc : w.cell? ⟨b, 0, none⟩ = some v) (hv : RkAt w v (2 ^ m) r) :
    AnswersTo w.heap.size w 59 #[.pointer (some ⟨b, 0, none⟩)] (2 ^ m) (flatB r m) := by
  intro x hx w1 hb hs
  have d1 := (hb.cell (p := ⟨b, 0, none⟩) h1).trans hc
  have HO := hid (isFlat_any v m r x w1 hm hx (hv.below hb))
  obtain ⟨rb, ro, rc, rfl, _, _⟩ := hv
  generalize flatB r m x = ans at *
  show Calls Try.prog 59 #[.int .i64 (x : Nat), .pointer (some ⟨b, 0, none⟩)] w1 _
  go_enter Try.func59, Try.ntmps59
  go_wp2_with fail
  refine HO.out.mono ?_
  rintro e w2 ⟨rfl, hb2⟩
  have HB := hid hb2
  clear hb2
  go_wp2_with fail
  go_ret
  exact ⟨rfl, HB.out⟩
set_option maxHeartbeats 1000000 in
theorem latticeOf_bad (n : Int) (v : Value) (zs : List Int) (w : World) (h : Ints w v zs) (hc : chkR n zs ≠ 0) :
    Calls Try.prog 38 #[.agg #[.int .i64 n, v]] w fun e w' => e = .returned (.tuple #[.agg #[.slice none 0 0, .slice none 0 0], .int .i64 (chkR n zs)]) ∧ Below w.heap.size w w' := by
  have HI := hid h
  obtain ⟨a, cap, rfl, _, _⟩ := h
  have HB0 := hid (boxL_below w n (.slice a zs.length cap))
  have HC := hid (Ranks_bad n _ zs _ (HI.out.below HB0.out) hc)
  have HX : Hid (∀ w2, Below (boxL w n (.slice a zs.length cap)).heap.size (boxL w n (.slice a zs.length cap)) w2 → _) := fun w2 h => boxL_blocks h
  have HSZ := hid (boxL_size w n (.slice a zs.length cap))
  generalize chkR n zs = q at *
  have hc' : (q == 0) = false := by rw [beq_eq_false_iff_ne]; exact hc
  go_enter Try.func38, Try.ntmps38
  go_wp2_with fail
  refine HC.out.mono ?_
  rintro e w2 ⟨rfl, hb2⟩
  have hs2 : w.heap.size + 2 ≤ w2.heap.size := by rw [← HSZ.out]; exact hb2.size
  have HB2 := hid (HB0.out.trans (hb2.mono HB0.out.size))
  obtain ⟨b0, b1⟩ := HX.out w2 hb2
  have hb3 : Below w2.heap.size w2 (w2.alloc (.cells #[.slice none 0 0] 22)) := (Below.refl _ _).alloc (Nat.le_refl _) _
  have hx1 := (hb3.block (w.heap.size + 1) (by omega)).trans b1
  have HB3 := hid (HB2.out.trans (hb3.mono HB2.out.size))
  obtain ⟨y0, y1, y2, y3⟩ := two_cells hx1
  obtain ⟨s0, s1⟩ := set_two (x := .slice none 0 0) (y := .slice none 0 0) hx1
  have HB4 := hid (below_two (x := .slice none 0 0) (y := .slice none 0 0) HB3.out (b := w.heap.size + 1) (by omega))
  clear hb2 hb3 hx1
  have HS := hid (And.intro s0 s1)
  clear s0 s1
  go_wp2_with fail
  obtain ⟨c0, c1⟩ := HS.out
  refine bodyPost_ret (v := .tuple #[.agg #[.slice none 0 0, .slice none 0 0], .int .i64 q]) ?_ rfl ⟨rfl, HB4.out⟩
  simp [results, Try.f38, go_sem, c0, c1]
set_option maxRecDepth 20000 in
set_option maxHeartbeats 1000000 in
theorem latticeOf_ok (m : Nat) (v : Value) (l : List Nat) (w : World) (hm : m ≤ 8) (hf : Fam m l) (hb : Bas l) (h : Ints w v (N l)) :
    Calls Try.prog 38 #[.agg #[.int .i64 m, v]] w fun e w' => ∃ f r, e = .returned (.tuple #[.agg #[f, r], .int .i64 0]) ∧ Own w.heap.size w' f (fltL m (rk l)) ∧ RkOw w.heap.size w' r (2 ^ m) (rk l) ∧ Below w.heap.size w w' := by
  have HI := hid h
  obtain ⟨a, cap, hv, -, -⟩ := h.nats
  subst hv
  have HB0 := hid (boxL_below w m (.slice a l.length cap))
  have HC := hid (Ranks_own m _ l _ hm hf hb (HI.out.below HB0.out))
  have HX : Hid (∀ w2, Below (boxL w m (.slice a l.length cap)).heap.size (boxL w m (.slice a l.length cap)) w2 → _) := fun w2 h => boxL_blocks h
  have HSZ := hid (boxL_size w m (.slice a l.length cap))
  have SVF : Hid (∀ (W : World) (b : Nat) (u : Value), b < W.heap.size → W.cell? ⟨b, 0, none⟩ = some u → RkAt W u (2 ^ m) (rk l) → Calls Try.prog 58 #[.int .i64 m, .func (.func 59) #[] #[.pointer (some ⟨b, 0, none⟩)]] W fun e w' => ∃ r, e = .returned r ∧ Own W.heap.size w' r (fltL m (rk l)) ∧ Below W.heap.size W w') := fun W b u h1 h2 h3 => Sieve_any m 59 #[.pointer (some ⟨b, 0, none⟩)] _ W hm enters_lat1 (lat1_ans hm h1 h2 h3)
  clear hf hb h
  generalize 2 ^ m = T at *
  generalize fltL m (rk l) = fs at *
  generalize rk l = r at *
  go_enter Try.func38, Try.ntmps38
  go_wp2_with fail
  refine HC.out.mono ?_
  rintro e w2 ⟨rv, rfl, hr2, hb2⟩
  have hs2 : w.heap.size + 2 ≤ w2.heap.size := by rw [← HSZ.out]; exact hb2.size
  have HB2 := hid (HB0.out.trans (hb2.mono HB0.out.size))
  obtain ⟨b0, b1⟩ := HX.out w2 hb2
  have HR2 := hid hr2
  obtain ⟨rb, ro, rc, rfl, hrb0, hrb, -⟩ := hr2
  have hrb1 : w.heap.size + 2 ≤ rb := by have := HSZ.out; unfold boxL at this; simp at this; show w.heap.size + 2 ≤ rb; have h3 : (boxL w m (.slice a l.length cap)).heap.size ≤ rb := hrb0; rw [HSZ.out] at h3; exact h3
  have hb3 : Below w2.heap.size w2 (w2.alloc (.cells #[.slice (some ⟨rb, ro, none⟩) T rc] 22)) := (Below.refl _ _).alloc (Nat.le_refl _) _
  have hsz3 : (w2.alloc (.cells #[.slice (some ⟨rb, ro, none⟩) T rc] 22)).heap.size = w2.heap.size + 1 := World.size_alloc ..
  have hx0 := (hb3.block w.heap.size (by omega)).trans b0
  have hx1 := (hb3.block (w.heap.size + 1) (by omega)).trans b1
  have hbx := (Boxed.new w2 22 (.slice (some ⟨rb, ro, none⟩) T rc)).cell
  have HB3 := hid (HB2.out.trans (hb3.mono HB2.out.size))
  have HR3 := hid (HR2.out.below hb3)
  obtain ⟨W3, hW3⟩ : ∃ W3, w2.alloc (.cells #[.slice (some ⟨rb, ro, none⟩) T rc] 22) = W3 := ⟨_, rfl⟩
  rw [hW3] at hx0 hx1 HB3 HR3 hbx hsz3
  obtain ⟨z0, z1, -, -⟩ := two_cells hx0
  have SV := hid (SVF.out W3 w2.heap.size _ (by omega) hbx HR3.out.rkAt)
  have HX1 := hid hx1
  clear hb2 hb3 hx0 hx1 HC HX b0 b1 SVF
  go_wp2_with fail
  refine SV.out.mono ?_
  rintro e w4 ⟨fv, rfl, ho4, hb4⟩
  have hs4 := hb4.size
  have hx4 := (hb4.block (w.heap.size + 1) (by omega)).trans HX1.out
  have q1 := (hb4.cell (p := ⟨w2.heap.size, 0, none⟩) (by show w2.heap.size < _; omega)).trans hbx
  obtain ⟨y0, y1, y2, y3⟩ := two_cells hx4
  have HS := hid (set_two (x := fv) (y := .slice (some ⟨rb, ro, none⟩) T rc) hx4)
  have HB4 := hid (below_two (x := fv) (y := .slice (some ⟨rb, ro, none⟩) T rc) (HB3.out.trans (hb4.mono HB3.out.size)) (b := w.heap.size + 1) (by omega))
  have HO4 := hid ((ho4.set2 (b := w.heap.size + 1) (x := fv) (y := .slice (some ⟨rb, ro, none⟩) T rc) (by omega)).mono (by omega : w.heap.size ≤ _))
  have HR4 := hid (((HR3.out.below hb4).save (X := fun k => k = w.heap.size + 1) (Save.setCell (X := fun k => k = w.heap.size + 1) (Save.setCell (X := fun k => k = w.heap.size + 1) (Save.refl _ w4) (p := ⟨w.heap.size + 1, 0, none⟩) (.inl rfl) fv) (p := ⟨w.heap.size + 1, 1, none⟩) (.inl rfl) (.slice (some ⟨rb, ro, none⟩) T rc)) (fun k e => by have := boxL_size w m (.slice a l.length cap); show k < (boxL w m (.slice a l.length cap)).heap.size; omega)).mono (by have := boxL_size w m (.slice a l.length cap); show w.heap.size ≤ (boxL w m (.slice a l.length cap)).heap.size; omega : w.heap.size ≤ _))
  obtain ⟨fa, fc, hfv⟩ := ownsRow_form' ho4
  subst hfv
  clear hb4 ho4 hx4 SV HX1
  go_wp2_with fail
  obtain ⟨c0, c1⟩ := HS.out
  refine bodyPost_ret (v := .tuple #[.agg #[.slice fa fs.length fc, .slice (some ⟨rb, ro, none⟩) T rc], .int .i64 0]) ?_ rfl ⟨_, _, rfl, HO4.out, HR4.out, HB4.out⟩
  simp [results, Try.f38, go_sem, c0, c1]
end Go.Proofs.Ytpmpfnbgjgjlgab
