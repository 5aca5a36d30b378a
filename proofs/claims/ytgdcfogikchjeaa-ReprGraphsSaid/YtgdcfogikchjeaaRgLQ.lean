/- repr.Represent of one element, modulo 2. -/
import Derived.Test.YtgdcfogikchjeaaRgKQ
namespace Go.Proofs.Ytgdcfogikchjeaa
open Go.RowKit

/-- Behind region 9: the answer's box, its row. -/
structure RepZ (w Z : World) (gb gm rb rc : Nat) : Prop where
  box : Z.heap[gb]? = some (.cells #[.int .i64 2, .int .i64 1, .slice (some ⟨gm, 0, none⟩) 1 1] 27 (0, 0))
  res : Z.heap[w.heap.size + 1]? = some (.cells #[.int .i64 0, .int .i64 0, .slice none 0 0] 27 (0, 0))
  row : RowO (w.heap.size + 1 + 1) Z gm rb rc
  bel : Below w.heap.size w Z
theorem later0 {W W' : World} (h : Below W.drew.heap.size W.drew W') : Below W.heap.size W W' := ((Below.refl _ W).drew).trans h
theorem later1 {W W' : World} {o : Obj} (h : Below (W.alloc o).drew.heap.size (W.alloc o).drew W') : Below W.heap.size W W' := (((Below.refl _ W).alloc (Nat.le_refl _) o).drew).trans (h.mono (by show W.heap.size ≤ (W.alloc o).heap.size; simp))
theorem later2 {W W' : World} {o o' : Obj} (h : Below ((W.alloc o).alloc o').drew.heap.size ((W.alloc o).alloc o').drew W') : Below W.heap.size W W' := ((((Below.refl _ W).alloc (Nat.le_refl _) o).alloc (by simp) o').drew).trans (h.mono (by show W.heap.size ≤ ((W.alloc o).alloc o').heap.size; simp; omega))
theorem nextA {W W' : World} {o : Obj} (h : Below (W.alloc o).heap.size (W.alloc o) W') : W'.heap[W.heap.size]? = some o := (h.block _ (by simp)).trans (World.alloc_heap_new W o)
theorem nextB {W W' : World} {o o' : Obj} (h : Below ((W.alloc o).alloc o').heap.size ((W.alloc o).alloc o') W') : W'.heap[W.heap.size]? = some o := (h.block _ (by simp; omega)).trans ((Below.heap_alloc _ _ _ (by simp)).trans (World.alloc_heap_new W o))
theorem nextC {W W' : World} {o o' : Obj} (h : Below ((W.alloc o).alloc o').heap.size ((W.alloc o).alloc o') W') : W'.heap[W.heap.size + 1]? = some o' := by
  have h1 := World.alloc_heap_new (W.alloc o) o'
  rw [World.size_alloc] at h1
  exact (h.block _ (by simp)).trans h1
abbrev bxZ : Obj := .cells #[.int .i64 0, .int .i64 0, .slice none 0 0] 27
abbrev mkZ : Obj := .cells #[.slice none 0 0] 31
theorem gone {A B : World} {b : Nat} {o : Obj} (h : A.heap[b]? = some o) (hb : Below A.heap.size A B) : B.heap[b]? = some o := (hb.block _ (Array.getElem?_eq_some_iff.1 h).1).trans h
theorem grow1 (W : World) (o : Obj) : Below W.heap.size W (W.alloc o) := (Below.refl _ _).alloc (Nat.le_refl _) _
theorem grow2 (W : World) (o o' : Obj) : Below W.heap.size W ((W.alloc o).alloc o') := (grow1 W o).alloc (by simp) _
theorem goOn_gen (w3 wP cur : World) (g rg : Nat) (hb3 : Below w3.heap.size w3 wP) (hP : PartsAt wP g) (hcur : Below wP.heap.size wP cur) (h0 : cur.cell? ⟨rg, 0, none⟩ = some (.slice none 0 0)) :
    Calls Try.prog 11 #[.slice (some ⟨g, 0, none⟩) 2 2, .agg #[.int .i64 2, .int .i64 0, .slice (some ⟨rg, 0, none⟩) 1 1]] cur fun e w' => ∃ gm rb rc, e = .returned (.tuple #[.agg #[.int .i64 2, .int .i64 1, .slice (some ⟨gm, 0, none⟩) 1 1], .bool true]) ∧ Hid (RowO w3.heap.size w' gm rb rc) ∧ Hid (Below cur.heap.size cur w') ∧ Hid (Below w3.heap.size w3 w') := by
  have hg : g < wP.heap.size := by
    obtain ⟨_, _, _, _, h, -⟩ := hP
    exact (Array.getElem?_eq_some_iff.1 h).1
  have hb := hb3.trans (hcur.mono hb3.size)
  refine (goOn_first g rg 1 cur (Nat.lt_of_lt_of_le hg hcur.size) (hP.up hg hcur) (World.block_lt_of_cell? _ _ h0) h0).mono ?_
  rintro e w' ⟨gm, rb, rc, rfl, hO, hw⟩
  exact ⟨gm, rb, rc, rfl, hO.less hb.size, hw, hb.trans (hw.mono hb.size)⟩
theorem RepZ.late {w w3 w8 : World} {gm rb rc : Nat} (hB : Below w.heap.size w w3) (h2 : w.heap.size + 1 + 1 ≤ w3.heap.size) (hX : w3.heap[w.heap.size + 1]? = some bxZ) (hO : RowO w3.heap.size w8 gm rb rc) (hb : Below w3.heap.size w3 w8) : RepZ w (w8.alloc (.cells #[.int .i64 2, .int .i64 1, .slice (some ⟨gm, 0, none⟩) 1 1] 27)) w8.heap.size gm rb rc :=
  ⟨World.alloc_heap_new _ _, gone (gone hX hb) (grow1 _ _), (hO.below (grow1 _ _)).less h2, (hB.trans (hb.mono hB.size)).alloc (Nat.le_trans hB.size hb.size) _⟩
theorem RepZ.early {w w3 w8 : World} {gb gm rb rc : Nat} (hB : Below w.heap.size w w3) (h2 : w.heap.size + 1 + 1 ≤ w3.heap.size) (hX : w3.heap[w.heap.size + 1]? = some bxZ) (hO : RowO w3.heap.size w8 gm rb rc) (hb : Below w3.heap.size w3 w8) (hz : w8.heap[gb]? = some bxZ) (hgb : w3.heap.size ≤ gb) : RepZ w (((w8.setCell ⟨gb, 0, none⟩ (.int .i64 2)).setCell ⟨gb, 1, none⟩ (.int .i64 1)).setCell ⟨gb, 2, none⟩ (.slice (some ⟨gm, 0, none⟩) 1 1)) gb gm rb rc := by
  have hS := save_3 w8 gb (.int .i64 2) (.int .i64 1) (.slice (some ⟨gm, 0, none⟩) 1 1)
  obtain ⟨⟨z0, -, -⟩, -⟩ := cells_3 hz
  have h8 := gone hX hb
  have h9 := hB.trans (hb.mono hB.size)
  refine ⟨set_3h hz, (hS.block _ (Array.getElem?_eq_some_iff.1 h8).1 (by omega)).trans h8, RowO.less ⟨hS.cellG hO.row (fun e => ?_), hS.cellG hO.one (fun e => ?_), hO.lm, hO.lr⟩ h2, hS.below h9 h9.size (fun k e => by omega)⟩
  · have e1 : gm = gb := e
    have := hO.row
    rw [e1, z0] at this
    cases this
  · have e1 : rb = gb := e
    have := hO.one
    rw [e1, z0] at this
    cases this
set_option maxRecDepth 20000 in
set_option maxHeartbeats 4000000 in
theorem Represent_one (a : Option Addr) (cap : Nat) (w : World) (h : Ints w (.slice a 1 cap) (N [1])) :
    Calls Try.prog 4 #[.agg #[.int .i64 1, .slice a 1 cap], .int .i64 2] w fun e w' => ∃ gm rb rc, e = .returned (.tuple #[.agg #[.int .i64 2, .int .i64 1, .slice (some ⟨gm, 0, none⟩) 1 1], .int .i64 0]) ∧ RowO w.heap.size w' gm rb rc ∧ Below w.heap.size w w' := by
  have HI := hid h
  have hmk : ∀ w, (Instr.makeSlice 25 (.int .i64 1) (.int .i64 1)).run Try.prog w = .ok (.slice (some ⟨w.heap.size, 0, none⟩) 1 1) (w.alloc (.cells #[.slice none 0 0] 31)) := fun _ => by kernel_rfl
  obtain ⟨a', cap', e, -, hc⟩ := h
  obtain ⟨b, off, ea, hb, hcl⟩ := hc (by decide)
  have e1 : a' = a := by cases e; rfl
  subst e1
  subst ea
  have c1 : w.cell? ⟨b, off, none⟩ = some (.int .i64 1) := hcl 0 (by decide)
  have b1 := (Below.refl _ w).alloc (Nat.le_refl _) (.cells #[.int .i64 1, .slice (some ⟨b, off, none⟩) 1 cap] 33)
  have x1 := World.alloc_heap_new w (.cells #[.int .i64 1, .slice (some ⟨b, off, none⟩) 1 cap] 33)
  have s1 := World.size_alloc w (.cells #[.int .i64 1, .slice (some ⟨b, off, none⟩) 1 cap] 33)
  obtain ⟨W1, hW1⟩ : ∃ W1, w.alloc (.cells #[.int .i64 1, .slice (some ⟨b, off, none⟩) 1 cap] 33) = W1 := ⟨_, rfl⟩
  rw [hW1] at b1 x1 s1
  have b2 := (Below.refl _ W1).alloc (Nat.le_refl _) (.cells #[.int .i64 0, .int .i64 0, .slice none 0 0] 27)
  have x2 := World.alloc_heap_new W1 (.cells #[.int .i64 0, .int .i64 0, .slice none 0 0] 27)
  have s2 := World.size_alloc W1 (.cells #[.int .i64 0, .int .i64 0, .slice none 0 0] 27)
  rw [s1] at x2 s2
  obtain ⟨W2, hW2⟩ : ∃ W2, W1.alloc (.cells #[.int .i64 0, .int .i64 0, .slice none 0 0] 27) = W2 := ⟨_, rfl⟩
  rw [hW2] at b2 x2 s2
  have X1 := hid ((b2.block _ (by omega)).trans x1)
  have X2 := hid x2
  have B2 := hid (b1.trans (b2.mono b1.size))
  have HS2 := hid s2
  have S1 := hid s1
  obtain ⟨k0, k1, -, -⟩ := two_cells X1.out
  have CK := hid (check_any 1 _ (N [1]) W2 (HI.out.below B2.out))
  rw [show chkR 1 (N [1]) = 0 from chk_mk (m := 1) (by decide) one_fam one_bas] at CK
  have SZ : Hid (∀ W, Calls Try.prog 10 #[.int .i64 1] W fun e w' => e = .returned (.int .i64 1) ∧ w' = W) := fun W => size_any 1 W (by decide)
  clear b1 x1 b2 x2 s1 s2 hcl hc e
  go_enter Try.func4, Try.ntmps4
  go_wp2_with fail
  refine CK.out.mono ?_
  rintro e w3 ⟨rfl, hb3⟩
  rw [S1.out]
  clear hW1 hW2
  have hlt : w.heap.size + 1 < W2.heap.size := by rw [HS2.out]; omega
  have X13 := hid ((hb3.block _ (by omega)).trans X1.out)
  have X23 := hid ((hb3.block _ hlt).trans X2.out)
  have B3 := hid (B2.out.trans (hb3.mono B2.out.size))
  have hs3 : w.heap.size + 1 + 1 ≤ w3.heap.size := by have := hb3.size; have := HS2.out; omega
  have c3 := (B3.out.cell (p := ⟨b, off, none⟩) hb).trans c1
  clear k0 k1 hb3
  obtain ⟨k0, k1, -, -⟩ := two_cells X13.out
  go_upto_region 9 with (go_at_call 10; refine (SZ.out _).mono ?_; rintro e w' ⟨rfl, hw'⟩; obtain rfl := hw'.symm)
  have PA : Hid (∀ W, Below w.heap.size w W → Calls Try.prog 12 #[.agg #[.int .i64 1, .slice (some ⟨b, off, none⟩) 1 cap]] W fun e w' => ∃ g, e = .returned (.slice (some ⟨g, 0, none⟩) 2 2) ∧ W.heap.size ≤ g ∧ PartsAt w' g ∧ Below W.heap.size W w') := fun W hW => parts_one _ cap W (HI.out.below hW)
  go_cut [8, 9] from 31 to 40 (fun x y W => y = .bool true ∧ ∃ gb gm rb rc, x = .pointer (some ⟨gb, 0, none⟩) ∧ Hid (RepZ w W gb gm rb rc))
  case first =>
    have hs3a := B3.out.size
    go_region_held3 (fun W => W.cell? ⟨w.heap.size, 0, none⟩ = some (.int .i64 1) ∧ W.cell? ⟨w.heap.size, 1, none⟩ = some (.slice (some ⟨b, off, none⟩) 1 cap)) (go_keep)
     (first
      | (go_at_call 12; refine (PA.out _ (by first | exact B3.out.drew | exact (B3.out.alloc hs3a _).drew | exact ((B3.out.alloc hs3a _).alloc (by simp; omega) _).drew)).mono ?_; rintro e wP ⟨g, rfl, hgP, hP, hbP⟩; have HBP := hid hbP; have HPP := hid hP; have L3 := hid (show Below w3.heap.size w3 wP by first | exact later0 hbP | exact later1 hbP | exact later2 hbP); obtain ⟨q0, q1, -, -⟩ := two_cells (gone X13.out L3.out); clear hbP hP hgP)
      | (go_at_call 11; refine (goOn_gen w3 wP _ g _ L3.out HPP.out (by first | exact Below.refl _ _ | exact grow1 _ _ | exact grow2 _ _ _) (by first | exact (cellN _ _ _).1 | exact cellA _ (cellN _ _ _).1 | (have h7 := (cellN (wP.alloc bxZ) (.slice none 0 0) 31).1; rw [World.size_alloc] at h7; exact h7) | exact cell_up HBP.out (cellN _ _ _).1 | exact cellA _ (cell_up HBP.out (cellN _ _ _).1) | exact cell_up HBP.out (cellA _ (cellN _ _ _).1) | (have h7 := (cellN (w3.alloc bxZ) (.slice none 0 0) 31).1; rw [World.size_alloc] at h7; exact cell_up HBP.out h7))).mono ?_; rintro e w8 ⟨gm, rb, rc, rfl, HO, H8, L8⟩; obtain ⟨q2, q3, -, -⟩ := two_cells (gone X13.out L8.out); have hsP := L3.out.size; first | (have zb : w8.heap[w3.heap.size]? = some bxZ := gone (gone (nextA (later0 HBP.out)) (grow1 _ _)) H8.out; have ZB := hid zb; obtain ⟨⟨z0, z1, z2⟩, zf⟩ := cells_3 zb; have zf0 := zf 0; have zf1 := zf 1; have zf2 := zf 2; have ne1 : ¬ w3.heap.size = w.heap.size := (by omega); have ne2 : ¬ w.heap.size = w3.heap.size := (by omega); have GB := hid (show w3.heap.size ≤ w3.heap.size by omega); clear zf zb) | (have zb : w8.heap[w3.heap.size]? = some bxZ := gone (nextB (later0 HBP.out)) H8.out; have ZB := hid zb; obtain ⟨⟨z0, z1, z2⟩, zf⟩ := cells_3 zb; have zf0 := zf 0; have zf1 := zf 1; have zf2 := zf 2; have ne1 : ¬ w3.heap.size = w.heap.size := (by omega); have ne2 : ¬ w.heap.size = w3.heap.size := (by omega); have GB := hid (show w3.heap.size ≤ w3.heap.size by omega); clear zf zb) | (have zb : w8.heap[w3.heap.size + 1]? = some bxZ := gone (nextC (later0 HBP.out)) H8.out; have ZB := hid zb; obtain ⟨⟨z0, z1, z2⟩, zf⟩ := cells_3 zb; have zf0 := zf 0; have zf1 := zf 1; have zf2 := zf 2; have ne1 : ¬ w3.heap.size + 1 = w.heap.size := (by omega); have ne2 : ¬ w.heap.size = w3.heap.size + 1 := (by omega); have GB := hid (show w3.heap.size ≤ w3.heap.size + 1 by omega); clear zf zb) | (have zb : w8.heap[wP.heap.size]? = some bxZ := nextB H8.out; have ZB := hid zb; obtain ⟨⟨z0, z1, z2⟩, zf⟩ := cells_3 zb; have zf0 := zf 0; have zf1 := zf 1; have zf2 := zf 2; have ne1 : ¬ wP.heap.size = w.heap.size := (by omega); have ne2 : ¬ w.heap.size = wP.heap.size := (by omega); have GB := hid (show w3.heap.size ≤ wP.heap.size by omega); clear zf zb) | (have zb : w8.heap[wP.heap.size + 1]? = some bxZ := nextC H8.out; have ZB := hid zb; obtain ⟨⟨z0, z1, z2⟩, zf⟩ := cells_3 zb; have zf0 := zf 0; have zf1 := zf 1; have zf2 := zf 2; have ne1 : ¬ wP.heap.size + 1 = w.heap.size := (by omega); have ne2 : ¬ w.heap.size = wP.heap.size + 1 := (by omega); have GB := hid (show w3.heap.size ≤ wP.heap.size + 1 by omega); clear zf zb) | (have zb : w8.heap[wP.heap.size]? = some bxZ := nextA H8.out; have ZB := hid zb; obtain ⟨⟨z0, z1, z2⟩, zf⟩ := cells_3 zb; have zf0 := zf 0; have zf1 := zf 1; have zf2 := zf 2; have ne1 : ¬ wP.heap.size = w.heap.size := (by omega); have ne2 : ¬ w.heap.size = wP.heap.size := (by omega); have GB := hid (show w3.heap.size ≤ wP.heap.size by omega); clear zf zb) | skip))
    all_goals go_wp2_with fail
    all_goals go_meet
    all_goals first
      | exact ⟨rfl, _, _, _, _, rfl, RepZ.late B3.out hs3 X23.out HO.out L8.out⟩
      | exact ⟨rfl, _, _, _, _, rfl, RepZ.early B3.out hs3 X23.out HO.out L8.out ZB.out GB.out⟩
  case rest =>
    obtain ⟨rfl, gb, gm, rb, rc, rfl, RZ⟩ := hcut
    obtain ⟨⟨z0, z1, z2⟩, -⟩ := cells_3 RZ.out.box
    obtain ⟨⟨y0, y1, y2⟩, yf⟩ := cells_3 RZ.out.res
    have yf0 := yf 0
    have yf1 := yf 1
    have yf2 := yf 2
    obtain ⟨⟨v0, v1, v2⟩, -⟩ := cells_3 (set_3h (a := .int .i64 2) (c := .int .i64 1) (d := .slice (some ⟨gm, 0, none⟩) 1 1) RZ.out.res)
    clear yf k0 k1 c3 c1
    go_wp2_with fail
    have hS := save_3 wc (w.heap.size + 1) (.int .i64 2) (.int .i64 1) (.slice (some ⟨gm, 0, none⟩) 1 1)
    refine bodyPost_ret (v := .tuple #[.agg #[.int .i64 2, .int .i64 1, .slice (some ⟨gm, 0, none⟩) 1 1], .int .i64 0]) ?_ rfl ⟨_, _, _, rfl, (RZ.out.row.save hS (by omega)).less (by omega), hS.below RZ.out.bel RZ.out.bel.size (fun k e => by omega)⟩
    obtain ⟨F, hF⟩ : ∃ F, ((wc.setCell ⟨w.heap.size + 1, 0, none⟩ (.int .i64 2)).setCell ⟨w.heap.size + 1, 1, none⟩ (.int .i64 1)).setCell ⟨w.heap.size + 1, 2, none⟩ (.slice (some ⟨gm, 0, none⟩) 1 1) = F := ⟨_, rfl⟩
    rw [hF] at v0 v1 v2 ⊢
    simp [results, Try.f4, go_sem, v0, v1, v2]
end Go.Proofs.Ytgdcfogikchjeaa
