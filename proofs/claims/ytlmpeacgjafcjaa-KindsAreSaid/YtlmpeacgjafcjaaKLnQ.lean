/- kinds.cleared: columns of six numbers. -/
import Derived.Test.YtlmpeacgjafcjaaPlainAll
import Derived.Test.YtlmpeacgjafcjaaQuietQ
import Derived.Test.YtlmpeacgjafcjaaQBelW
import Derived.Deep.RegionWith
namespace Go.Proofs.Ytlmpeacgjafcjaa
open Go.RowKit

/-- The six numbers of a column. -/
def colC (f : Nat → Int) : Array Value := #[.int .i64 (f 0), .int .i64 (f 1), .int .i64 (f 2), .int .i64 (f 3), .int .i64 (f 4), .int .i64 (f 5)]
theorem colC_at (f : Nat → Int) {i : Nat} (hi : i < 6) : (colC f)[i]? = some (.int .i64 (f i)) := by
  have : i = 0 ∨ i = 1 ∨ i = 2 ∨ i = 3 ∨ i = 4 ∨ i = 5 := by omega
  rcases this with rfl | rfl | rfl | rfl | rfl | rfl <;> rfl
theorem colC_set (f : Nat → Int) {i : Nat} (hi : i < 6) (x : Int) : (colC f).setIfInBounds i (.int .i64 x) = colC (fun r => if r = i then x else f r) := by
  have : i = 0 ∨ i = 1 ∨ i = 2 ∨ i = 3 ∨ i = 4 ∨ i = 5 := by omega
  rcases this with rfl | rfl | rfl | rfl | rfl | rfl <;> rfl
theorem colC_congr {f g : Nat → Int} (h : ∀ i, i < 6 → f i = g i) : colC f = colC g := by
  unfold colC
  rw [h 0 (by omega), h 1 (by omega), h 2 (by omega), h 3 (by omega), h 4 (by omega), h 5 (by omega)]
/-- A block that holds a column. -/
def ColAt (W : World) (g : Nat) (f : Nat → Int) : Prop := W.heap[g]? = some (.cells (colC f) 62 (0, 0))
theorem ColAt.lt {W : World} {g : Nat} {f : Nat → Int} (h : ColAt W g f) : g < W.heap.size := (Array.getElem?_eq_some_iff.1 h).1
theorem ColAt.cell {W : World} {g : Nat} {f : Nat → Int} (h : ColAt W g f) {i : Nat} (hi : i < 6) : W.cell? ⟨g, i, none⟩ = some (.int .i64 (f i)) := by
  have e : W.heap[g]? = some (.cells (colC f) 62 (0, 0)) := h
  simp only [World.cell?, e]
  exact colC_at f hi
theorem ColAt.frozen {W : World} {g : Nat} {f : Nat → Int} (h : ColAt W g f) (i : Nat) : W.frozen? ⟨g, i, none⟩ = false := by
  have e : W.heap[g]? = some (.cells (colC f) 62 (0, 0)) := h
  simp [World.frozen?, e]
theorem ColAt.below {W W' : World} {g : Nat} {f : Nat → Int} (h : ColAt W g f) (hb : Below W.heap.size W W') : ColAt W' g f := (hb.block g h.lt).trans h
theorem ColAt.drewN {W : World} {g : Nat} {f : Nat → Int} (h : ColAt W g f) (m : Nat) : ColAt (W.drewN m) g f := h.below (drewN_below _ _ m)
theorem ColAt.set {W : World} {g : Nat} {f : Nat → Int} (h : ColAt W g f) {i : Nat} (hi : i < 6) (x : Int) : ColAt (W.setCell ⟨g, i, none⟩ (.int .i64 x)) g (fun r => if r = i then x else f r) := by
  have e : W.heap[g]? = some (.cells (colC f) 62 (0, 0)) := h
  unfold ColAt
  simp only [World.setCell, Array.getElem?_modify, ↓reduceIte, e, Option.map_some]
  show some (Obj.cells ((colC f).setIfInBounds i (.int .i64 x)) 62 (0, 0)) = _
  rw [colC_set f hi x]
theorem ColAt.other {W : World} {g g' : Nat} {f : Nat → Int} (h : ColAt W g f) (hne : g ≠ g') (i : Nat) (x : Value) : ColAt (W.setCell ⟨g', i, none⟩ x) g f := (Below.heap_setCell _ _ _ _ (by simpa using hne)).trans h
theorem ColAt.congr {W : World} {g : Nat} {f f' : Nat → Int} (h : ColAt W g f) (hf : ∀ i, i < 6 → f i = f' i) : ColAt W g f' := by
  unfold ColAt
  rw [← colC_congr hf]
  exact h
theorem ColAt.new (W : World) (f : Nat → Int) : ColAt (W.alloc (.cells (colC f) 62)) W.heap.size f := World.alloc_heap_new W _
/-- A column is stored. -/
def put6 (W : World) (g : Nat) (x : Nat → Int) : World := (((((W.setCell ⟨g, 0, none⟩ (.int .i64 (x 0))).setCell ⟨g, 1, none⟩ (.int .i64 (x 1))).setCell ⟨g, 2, none⟩ (.int .i64 (x 2))).setCell ⟨g, 3, none⟩ (.int .i64 (x 3))).setCell ⟨g, 4, none⟩ (.int .i64 (x 4))).setCell ⟨g, 5, none⟩ (.int .i64 (x 5))
theorem ColAt.put6 {W : World} {g : Nat} {f : Nat → Int} (h : ColAt W g f) (x : Nat → Int) : ColAt (put6 W g x) g x := by
  refine ((((((h.set (i := 0) (by omega) (x 0)).set (i := 1) (by omega) (x 1)).set (i := 2) (by omega) (x 2)).set (i := 3) (by omega) (x 3)).set (i := 4) (by omega) (x 4)).set (i := 5) (by omega) (x 5)).congr fun i hi => ?_
  have : i = 0 ∨ i = 1 ∨ i = 2 ∨ i = 3 ∨ i = 4 ∨ i = 5 := by omega
  rcases this with rfl | rfl | rfl | rfl | rfl | rfl <;> rfl
theorem below_put6 {B : Nat} {w W : World} {g : Nat} (x : Nat → Int) (h : Below B w W) (hg : B ≤ g) : Below B w (put6 W g x) :=
  (((((h.setCell (p := ⟨g, 0, none⟩) hg _).setCell (p := ⟨g, 1, none⟩) hg _).setCell (p := ⟨g, 2, none⟩) hg _).setCell (p := ⟨g, 3, none⟩) hg _).setCell (p := ⟨g, 4, none⟩) hg _).setCell (p := ⟨g, 5, none⟩) hg _
theorem ColAt.six {W : World} {g : Nat} {f : Nat → Int} (h : ColAt W g f) : (W.cell? ⟨g, 0, none⟩ = some (.int .i64 (f 0)) ∧ W.cell? ⟨g, 1, none⟩ = some (.int .i64 (f 1)) ∧ W.cell? ⟨g, 2, none⟩ = some (.int .i64 (f 2))) ∧ W.cell? ⟨g, 3, none⟩ = some (.int .i64 (f 3)) ∧ W.cell? ⟨g, 4, none⟩ = some (.int .i64 (f 4)) ∧ W.cell? ⟨g, 5, none⟩ = some (.int .i64 (f 5)) :=
  ⟨⟨h.cell (by omega), h.cell (by omega), h.cell (by omega)⟩, h.cell (by omega), h.cell (by omega), h.cell (by omega)⟩
def colV (f : Nat → Int) : Value := .agg (colC f)
set_option maxRecDepth 20000 in
set_option maxHeartbeats 2000000 in
theorem cleared_any (p : Int) (c b : Nat → Int) (k : Nat) (w : World) (hp : 0 < p ∧ p ≤ 7) (hk : k < 6) (hc : ∀ r, 0 ≤ c r ∧ c r < p) (hb : ∀ r, 0 ≤ b r ∧ b r < p) :
    Calls Try.prog 39 #[.int .i64 p, colV c, colV b, .int .i64 k] w fun e w' => e = .returned (colV (clrF p c b k)) ∧ Below w.heap.size w w' := by
  unfold colV
  have e1 : Below w.heap.size w (w.alloc (.cells (colC c) 62)) := (Below.refl _ _).alloc (Nat.le_refl _) _
  have e2 : Below (w.heap.size + 1) (w.alloc (.cells (colC c) 62)) ((w.alloc (.cells (colC c) 62)).alloc (.cells (colC b) 62)) := (Below.refl _ _).alloc (by simp) _
  have e3 : Below (w.heap.size + 1 + 1) ((w.alloc (.cells (colC c) 62)).alloc (.cells (colC b) 62)) (((w.alloc (.cells (colC c) 62)).alloc (.cells (colC b) 62)).alloc (.cells (colC (fun _ => 0)) 62)) := (Below.refl _ _).alloc (by simp) _
  have h5 := ColAt.new w c
  have h6 := ColAt.new (w.alloc (.cells (colC c) 62)) b
  rw [World.size_alloc] at h6
  have hz := ColAt.new ((w.alloc (.cells (colC c) 62)).alloc (.cells (colC b) 62)) (fun _ => 0)
  rw [World.size_alloc, World.size_alloc] at hz
  have HB5 : Hid (ColAt (((w.alloc (.cells (colC c) 62)).alloc (.cells (colC b) 62)).alloc (.cells (colC (fun _ => 0)) 62)) w.heap.size c) := (e3.block w.heap.size (by omega)).trans ((e2.block w.heap.size (by omega)).trans h5)
  have HB6 : Hid (ColAt (((w.alloc (.cells (colC c) 62)).alloc (.cells (colC b) 62)).alloc (.cells (colC (fun _ => 0)) 62)) (w.heap.size + 1) b) := (e3.block (w.heap.size + 1) (by omega)).trans h6
  have HBZ := hid hz
  have HBW := hid (e1.trans ((e2.mono (by omega)).trans (e3.mono (by omega))))
  clear e1 e2 e3 h5 h6 hz
  have e9 : colC (fun _ => 0) = #[.int .i64 0, .int .i64 0, .int .i64 0, .int .i64 0, .int .i64 0, .int .i64 0] := rfl
  rw [e9] at HB5 HB6 HBZ HBW
  clear e9
  obtain ⟨W0, hW0⟩ : ∃ W0, ((w.alloc (.cells (colC c) 62)).alloc (.cells (colC b) 62)).alloc (.cells #[.int .i64 0, .int .i64 0, .int .i64 0, .int .i64 0, .int .i64 0, .int .i64 0] 62) = W0 := ⟨_, rfl⟩
  rw [hW0] at HB5 HB6 HBZ HBW
  have t1 := HB6.out.cell hk
  have t2 := HB5.out.cell hk
  have ck := hc k
  have bk := hb k
  have hki : (k : Int) < 6 := by omega
  obtain ⟨d, hd, HD⟩ : ∃ d, p - c k = d ∧ Hid (d = p - c k) := ⟨_, rfl, rfl⟩
  have hd2 : 0 < d ∧ d ≤ 7 := by omega
  obtain ⟨tm, htm⟩ : ∃ tm, b k = tm := ⟨_, rfl⟩
  rw [htm] at t1 bk
  have HTM := hid htm
  clear htm
  have hwd : IntKind.i64.wrap d = d := IntWalk.i64_in _ (by omega)
  go_enter Try.func39, Try.ntmps39
  go_wp2_with fail
  go_quiet (fail)
  have Q5 := hid (HB5.out.drewN nq)
  have Q6 := hid (HB6.out.drewN nq)
  have QZ := hid (HBZ.out.drewN nq)
  have QW := hid (HBW.out.trans (drewN_below _ _ nq))
  obtain ⟨W1, HW1⟩ : ∃ W1, Hid (W0.drewN nq = W1) := ⟨_, rfl⟩
  rw [HW1.out] at Q5 Q6 QZ QW ⊢
  clear HW1 hW0 HB5 HB6 HBZ HBW t1 t2
  go_wp2_with fail
  go_loopw [20] (fun i wr => ∃ j : Nat, j ≤ 6 ∧ i = .int .i64 j ∧ Hid (ColAt wr w.heap.size (fun r => if r < j then clrF p c b k r else c r)) ∧ Hid (ColAt wr (w.heap.size + 1) b) ∧ Hid (ColAt wr (w.heap.size + 1 + 1) (fun _ => 0)) ∧ Hid (Below w.heap.size w wr)) (fun i _ => 6 - (intOf i).toNat)
  case atStart => exact ⟨0, by omega, rfl, Q5.out.congr (fun i _ => by rw [if_neg (by omega)]), Q6.out, QZ.out, QW.out⟩
  case round =>
    obtain ⟨j, hj, rfl, HJ, H6, HZ, HW⟩ := hrel
    by_cases hlt : j < 6
    · have c1 := HJ.out.cell hlt
      have c2 := HJ.out.frozen j
      rw [if_neg (by omega)] at c1
      have c3 := H6.out.cell hlt
      have cj := hc j
      have bj := hb j
      have hji : (j : Int) < 6 := by omega
      obtain ⟨m1, hm1, HM1⟩ : ∃ m1, c j * tm = m1 ∧ Hid (c j * tm = m1) := ⟨_, rfl, rfl⟩
      obtain ⟨m2, hm2, HM2⟩ : ∃ m2, b j * d = m2 ∧ Hid (b j * d = m2) := ⟨_, rfl, rfl⟩
      have b1 : 0 ≤ m1 ∧ m1 ≤ 49 := by
        rw [← HM1.out]
        refine ⟨Int.mul_nonneg cj.1 bk.1, ?_⟩
        have := Int.mul_le_mul (show c j ≤ 7 by omega) (show tm ≤ 7 by omega) bk.1 (by omega)
        omega
      have b2 : 0 ≤ m2 ∧ m2 ≤ 49 := by
        rw [← HM2.out]
        refine ⟨Int.mul_nonneg bj.1 (by omega), ?_⟩
        have := Int.mul_le_mul (show b j ≤ 7 by omega) (show d ≤ 7 by omega) (by omega) (by omega)
        omega
      obtain ⟨m3, hm3, HM3⟩ : ∃ m3, m1 + m2 = m3 ∧ Hid (m1 + m2 = m3) := ⟨_, rfl, rfl⟩
      have b3 : 0 ≤ m3 ∧ m3 ≤ 98 := by omega
      obtain ⟨q, hq, HQ⟩ : ∃ q, Int.tmod m3 p = q ∧ Hid (clrF p c b k j = q) := ⟨_, rfl, by
        show clrF p c b k j = Int.tmod m3 p
        unfold clrF
        rw [Int.tmod_eq_emod_of_nonneg b3.1, HTM.out, HM1.out, ← HD.out, HM2.out, HM3.out]⟩
      have b4 : 0 ≤ q ∧ q < p := by rw [← hq, Int.tmod_eq_emod_of_nonneg b3.1]; exact ⟨Int.emod_nonneg _ (by omega), Int.emod_lt_of_pos _ hp.1⟩
      have hw1 : IntKind.i64.wrap m1 = m1 := IntWalk.i64_in _ (by omega)
      have hw2 : IntKind.i64.wrap m2 = m2 := IntWalk.i64_in _ (by omega)
      have hw3 : IntKind.i64.wrap m3 = m3 := IntWalk.i64_in _ (by omega)
      have hw4 : IntKind.i64.wrap q = q := IntWalk.i64_in _ (by omega)
      have hp0 : (p == 0) = false := by rw [beq_eq_false_iff_ne]; omega
      have G5 : Hid (∀ m, ColAt ((wr.drewN m).setCell ⟨w.heap.size, j, none⟩ (.int .i64 q)) w.heap.size (fun r => if r < j + 1 then clrF p c b k r else c r)) := fun m => ((HJ.out.drewN m).set hlt q).congr (fun i _ => by
        show (if i = j then q else _) = _
        by_cases e : i = j
        · subst e; rw [if_pos rfl, if_pos (by omega), HQ.out]
        · rw [if_neg e]
          by_cases e2 : i < j
          · rw [if_pos e2, if_pos (by omega)]
          · rw [if_neg e2, if_neg (by omega)])
      have G6 : Hid (∀ m (x : Value), ColAt ((wr.drewN m).setCell ⟨w.heap.size, j, none⟩ x) (w.heap.size + 1) b) := fun m x => (H6.out.drewN m).other (by omega) j x
      have GZ : Hid (∀ m (x : Value), ColAt ((wr.drewN m).setCell ⟨w.heap.size, j, none⟩ x) (w.heap.size + 1 + 1) (fun _ => 0)) := fun m x => (HZ.out.drewN m).other (by omega) j x
      have GW : Hid (∀ m (x : Value), Below w.heap.size w ((wr.drewN m).setCell ⟨w.heap.size, j, none⟩ x)) := fun m x => (HW.out.trans (drewN_below _ _ m)).setCell (p := ⟨w.heap.size, j, none⟩) (Nat.le_refl _) _
      clear HJ H6 HZ HW HM1 HM2 HM3 HQ
      generalize c j = cc at *
      generalize b j = bb at *
      go_wp2_with fail
      go_region_with fail
      all_goals go_wp2_with fail
      all_goals exact ⟨⟨j + 1, by omega, by go_num, G5.out _, G6.out _ _, GZ.out _ _, GW.out _ _⟩, by simp [intOf]; omega⟩
    · have hj6 : j = 6 := by omega
      have H5 := hid (HJ.out.congr (f' := clrF p c b k) (fun i hi => by rw [if_pos (by omega)]))
      have hji : ¬ (j : Int) < 6 := by omega
      clear HJ
      obtain ⟨F, HFE⟩ : ∃ F, Hid (clrF p c b k = F) := ⟨_, rfl⟩
      rw [HFE.out] at H5
      obtain ⟨⟨f0, f1, f2⟩, f3, f4, f5⟩ := H5.out.six
      obtain ⟨⟨z0, z1, z2⟩, z3, z4, z5⟩ := HZ.out.six
      have y0 := HZ.out.frozen 0
      have y1 := HZ.out.frozen 1
      have y2 := HZ.out.frozen 2
      have y3 := HZ.out.frozen 3
      have y4 := HZ.out.frozen 4
      have y5 := HZ.out.frozen 5
      have HS := hid (HZ.out.put6 F)
      have HF := hid (below_put6 F HW.out (show w.heap.size ≤ w.heap.size + 1 + 1 by omega))
      clear HZ H5 H6 HW
      go_wp2_with fail
      obtain ⟨⟨g0, g1, g2⟩, g3, g4, g5⟩ := HS.out.six
      unfold put6 at g0 g1 g2 g3 g4 g5
      refine bodyPost_ret (v := .agg (colC F)) ?_ rfl ⟨by rw [HFE.out], HF.out⟩
      unfold colC
      simp [results, Try.f39, go_sem, g0, g1, g2, g3, g4, g5]
end Go.Proofs.Ytlmpeacgjafcjaa
