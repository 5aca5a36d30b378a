/- repr.goOn at one element and no columns. -/
import Derived.Test.YtgdcfogikchjeaaRgJQ
namespace Go.Proofs.Ytgdcfogikchjeaa
open Go.RowKit

theorem lin_one : matR 2 1 [[1]] = 0 ∧ (bigL 1 fun s => linB 2 [[1]] 1 s) = [1] := by decide +kernel
theorem RowO.less {B C : Nat} {w : World} {gm rb rc : Nat} (h : RowO B w gm rb rc) (hC : C ≤ B) : RowO C w gm rb rc := ⟨h.row, h.one, Nat.le_trans hC h.lm, Nat.le_trans hC h.lr⟩
theorem PartsAt.up {w w' : World} {g : Nat} (h : PartsAt w g) (hg : g < w.heap.size) (hb : Below w.heap.size w w') : PartsAt w' g := by
  obtain ⟨a0, c0, a1, c1, hX, h0, h1⟩ := h
  exact ⟨a0, c0, a1, c1, (hb.block _ hg).trans hX, h0.below hb, h1.below hb⟩
set_option maxRecDepth 20000 in
set_option maxHeartbeats 4000000 in
theorem goOn_first (g rg rcp : Nat) (w : World) (hg : g < w.heap.size) (hP : PartsAt w g) (hrg : rg < w.heap.size) (h0 : w.cell? ⟨rg, 0, none⟩ = some (.slice none 0 0)) :
    Calls Try.prog 11 #[.slice (some ⟨g, 0, none⟩) 2 2, .agg #[.int .i64 2, .int .i64 0, .slice (some ⟨rg, 0, none⟩) 1 rcp]] w fun e w' => ∃ gm rb rc, e = .returned (.tuple #[.agg #[.int .i64 2, .int .i64 1, .slice (some ⟨gm, 0, none⟩) 1 1], .bool true]) ∧ RowO w.heap.size w' gm rb rc ∧ Below w.heap.size w w' := by
  have HP := hid hP
  obtain ⟨a0, c0, a1, c1, hX, -, hI1⟩ := hP
  have HI1 := hid hI1
  have HX := hid hX
  have b1 := (Below.refl _ w).alloc (Nat.le_refl _) (.cells #[.int .i64 2, .int .i64 0, .slice (some ⟨rg, 0, none⟩) 1 rcp] 27)
  have x1 := World.alloc_heap_new w (.cells #[.int .i64 2, .int .i64 0, .slice (some ⟨rg, 0, none⟩) 1 rcp] 27)
  have s1 := World.size_alloc w (.cells #[.int .i64 2, .int .i64 0, .slice (some ⟨rg, 0, none⟩) 1 rcp] 27)
  obtain ⟨W1, hW1⟩ : ∃ W1, w.alloc (.cells #[.int .i64 2, .int .i64 0, .slice (some ⟨rg, 0, none⟩) 1 rcp] 27) = W1 := ⟨_, rfl⟩
  rw [hW1] at b1 x1 s1
  have b2 := (Below.refl _ W1).alloc (Nat.le_refl _) (.cells #[.int .i64 0, .int .i64 0, .slice none 0 0] 27)
  have x2 := World.alloc_heap_new W1 (.cells #[.int .i64 0, .int .i64 0, .slice none 0 0] 27)
  have s2 := World.size_alloc W1 (.cells #[.int .i64 0, .int .i64 0, .slice none 0 0] 27)
  rw [s1] at x2 s2
  obtain ⟨W2, hW2⟩ : ∃ W2, W1.alloc (.cells #[.int .i64 0, .int .i64 0, .slice none 0 0] 27) = W2 := ⟨_, rfl⟩
  rw [hW2] at b2 x2 s2
  have b12 := b1.trans (b2.mono b1.size)
  have b3 := (Below.refl _ W2).alloc (Nat.le_refl _) (.cells #[.int .i64 1, .slice a1 1 c1] 33)
  have x3 := World.alloc_heap_new W2 (.cells #[.int .i64 1, .slice a1 1 c1] 33)
  have s3 := World.size_alloc W2 (.cells #[.int .i64 1, .slice a1 1 c1] 33)
  rw [s2] at x3 s3
  obtain ⟨⟨p0, p1, p2, p3⟩, -⟩ := four_cells ((b12.block _ hg).trans hX)
  have y1 := (b3.block _ (by omega)).trans ((b2.block _ (by omega)).trans x1)
  have y2 := (b3.block _ (by omega)).trans x2
  have B3 := hid (b12.trans (b3.mono b12.size))
  obtain ⟨W3, hW3⟩ : ∃ W3, W2.alloc (.cells #[.int .i64 1, .slice a1 1 c1] 33) = W3 := ⟨_, rfl⟩
  rw [hW3] at y1 y2 x3 B3 s3
  obtain ⟨⟨k0, k1, k2⟩, -⟩ := cells_3 y1
  obtain ⟨⟨l0, l1, l2⟩, lf⟩ := cells_3 y2
  obtain ⟨m0, m1, -, -⟩ := two_cells x3
  have Y1 := hid y1
  have Y2 := hid y2
  have X3 := hid x3
  have S1 := hid s1
  have S2 := hid s2
  have S3 := hid s3
  have CH := hid (choices_one a1 c1 rg rcp W3 (HI1.out.below B3.out) (Nat.lt_of_lt_of_le hrg B3.out.size) ((B3.out.cell (p := ⟨rg, 0, none⟩) hrg).trans h0))
  clear b1 x1 s1 b2 x2 s2 b12 b3 x3 y1 y2 lf hX s3
  go_enter Try.func11, Try.ntmps11
  go_upto_region 2 with fail
  rw [S1.out, S2.out]
  clear hW1 hW2 hW3
  go_wp2_with fail
  go_at_call 27
  refine CH.out.mono ?_
  rintro e w4 ⟨r, rfl, ⟨gr, cp, rb, rc, rfl, hgr, hrb, hrc, hg2, hrb2⟩, hb4⟩
  have B4 := hid (B3.out.trans (hb4.mono B3.out.size))
  have R0 := (B4.out.cell (p := ⟨rg, 0, none⟩) hrg).trans h0
  have WI := hid (with_one rg rcp rb rc w4 (Nat.lt_of_lt_of_le hrg B4.out.size) hrb R0 hrb2 hrc)
  have hs3 := S3.out
  have hs4 := hb4.size
  have Y14 := hid ((hb4.block _ (by omega)).trans Y1.out)
  have Y24 := hid ((hb4.block _ (by omega)).trans Y2.out)
  clear k0 k1 k2 l0 l1 l2 m0 m1 p0 p1 p2 p3 hb4
  obtain ⟨⟨k0, k1, k2⟩, -⟩ := cells_3 Y14.out
  go_wp2_with fail
  refine wp_loop_rounds 2 ?_
  rw [rounds_succ]
  go_wp2_with fail
  go_at_call 28
  refine WI.out.mono ?_
  rintro e w5 ⟨gm, rb', rc', rfl, hO, hb5⟩
  have O5 := hid hO
  have B5 := hid (B4.out.trans (hb5.mono B4.out.size))
  have hs5 := hb5.size
  have Y25 := hid ((hb5.block _ (by omega)).trans Y24.out)
  have x9 := World.alloc_heap_new w5 (.cells #[.int .i64 2, .int .i64 1, .slice (some ⟨gm, 0, none⟩) 1 1] 27)
  have b9 := (Below.refl _ w5).alloc (Nat.le_refl _) (.cells #[.int .i64 2, .int .i64 1, .slice (some ⟨gm, 0, none⟩) 1 1] 27)
  have s9 := World.size_alloc w5 (.cells #[.int .i64 2, .int .i64 1, .slice (some ⟨gm, 0, none⟩) 1 1] 27)
  clear k0 k1 k2 hb5 R0 hg2 hrb2 hO
  go_upto_region 8 with fail
  obtain ⟨W6, hW6⟩ : ∃ W6, w5.alloc (.cells #[.int .i64 2, .int .i64 1, .slice (some ⟨gm, 0, none⟩) 1 1] 27) = W6 := ⟨_, rfl⟩
  rw [hW6] at x9 b9 s9 ⊢
  clear hW6
  have B6 := hid (B5.out.trans (b9.mono B5.out.size))
  have Y26 := hid ((b9.block _ (by omega)).trans Y25.out)
  have O6 := hid (O5.out.below b9)
  obtain ⟨⟨q0, q1, q2⟩, -⟩ := cells_3 x9
  obtain ⟨⟨p0, p1, p2, p3⟩, -⟩ := four_cells ((B6.out.block _ hg).trans HX.out)
  have X9 := hid x9
  have LIN := hid (isLinear_yes 2 1 _ [[1]] a1 c1 [1] W6.drew (O6.out.below (Below.refl _ W6).drew).rows (HI1.out.below B6.out.drew) lin_one.1 lin_one.2 (by decide))
  have HB6 := hid ((Below.refl W6.heap.size W6).drew)
  have hw56 : w5.heap.size < W6.heap.size := by omega
  have hw6 : w.heap.size + 1 + 1 ≤ W6.heap.size := by omega
  go_region_with (go_at_call 29; refine LIN.out.mono ?_; rintro e w7 ⟨rfl, hb7⟩; have H7 := hid (HB6.out.trans hb7); clear hb7 q0 q1 q2; obtain ⟨⟨q0, q1, q2⟩, -⟩ := cells_3 ((H7.out.block _ hw56).trans X9.out))
  all_goals go_wp2_with fail
  all_goals
    have B7 := hid (B6.out.trans (H7.out.mono B6.out.size))
    have O7 := hid (O6.out.below H7.out)
    have Y27 := hid ((H7.out.block _ (by omega)).trans Y26.out)
    have GE := goOn_end g (some ⟨gm, 0, none⟩) 1 1 w7 (Nat.lt_of_lt_of_le hg B7.out.size) (HP.out.up hg B7.out)
    have hs7 := H7.out.size
    clear p0 p1 p2 p3 LIN
    go_at_call 11
    refine GE.mono ?_
    rintro e w8 ⟨rfl, hb8⟩
    have hs8 := hb8.size
    have b10 := (Below.refl _ w8).alloc (Nat.le_refl _) (.cells #[.int .i64 2, .int .i64 1, .slice (some ⟨gm, 0, none⟩) 1 1] 27)
    have B8 := hid (B7.out.trans (hb8.mono B7.out.size))
    have BA := hid (B8.out.trans (b10.mono B8.out.size))
    have OA := hid ((O7.out.below hb8).below b10)
    have YA := (b10.block _ (by omega)).trans ((hb8.block _ (by omega)).trans Y27.out)
    have xA := World.alloc_heap_new w8 (.cells #[.int .i64 2, .int .i64 1, .slice (some ⟨gm, 0, none⟩) 1 1] 27)
    obtain ⟨⟨z0, z1, z2⟩, -⟩ := cells_3 xA
    obtain ⟨⟨y0, y1, y2⟩, yf⟩ := cells_3 YA
    have yf0 := yf 0
    have yf1 := yf 1
    have yf2 := yf 2
    obtain ⟨⟨v0, v1, v2⟩, -⟩ := cells_3 (set_3h (a := .int .i64 2) (c := .int .i64 1) (d := .slice (some ⟨gm, 0, none⟩) 1 1) YA)
    clear YA yf GE hb8 q0 q1 q2 b10 xA
    go_upto_region 10 with fail
    obtain ⟨WA, hWA⟩ : ∃ WA, w8.alloc (.cells #[.int .i64 2, .int .i64 1, .slice (some ⟨gm, 0, none⟩) 1 1] 27) = WA := ⟨_, rfl⟩
    rw [hWA] at BA OA z0 z1 z2 y0 y1 y2 yf0 yf1 yf2 v0 v1 v2 ⊢
    clear hWA
    go_wp2_with fail
    have hS := save_3 WA (w.heap.size + 1) (.int .i64 2) (.int .i64 1) (.slice (some ⟨gm, 0, none⟩) 1 1)
    refine bodyPost_ret (v := .tuple #[.agg #[.int .i64 2, .int .i64 1, .slice (some ⟨gm, 0, none⟩) 1 1], .bool true]) ?_ rfl ⟨_, _, _, rfl, (OA.out.save hS (by omega)).less B4.out.size, hS.below BA.out BA.out.size (fun k e => by omega)⟩
    obtain ⟨F, hF⟩ : ∃ F, ((WA.setCell ⟨w.heap.size + 1, 0, none⟩ (.int .i64 2)).setCell ⟨w.heap.size + 1, 1, none⟩ (.int .i64 1)).setCell ⟨w.heap.size + 1, 2, none⟩ (.slice (some ⟨gm, 0, none⟩) 1 1) = F := ⟨_, rfl⟩
    rw [hF] at v0 v1 v2 ⊢
    simp [results, Try.f11, go_sem, v0, v1, v2]
end Go.Proofs.Ytgdcfogikchjeaa
