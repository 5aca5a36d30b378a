/- repr.with of one column to no columns. -/
import Derived.Test.YtgdcfogikchjeaaRgHW
import Derived.Deep.CutRange
import Derived.Test.YtgdcfogikchjeaaRanksWW
import Derived.Test.YtgdcfogikchjeaaAxW
import Derived.Test.YtgdcfogikchjeaaQBelW
import Derived.Test.YtgdcfogikchjeaaEqW
import Derived.Test.YtgdcfogikchjeaaPlainAll
namespace Go.Proofs.Ytgdcfogikchjeaa
open Go.RowKit

/-- The new matrix' box and its rows' block. -/
structure WithB (w0 W : World) (gb gm : Nat) : Prop where
  box : W.heap[gb]? = some (.cells #[.int .i64 2, .int .i64 1, .slice (some ⟨gm, 0, none⟩) 1 1] 27 (0, 0))
  row : W.heap[gm]? = some (.cells #[.slice none 0 0] 31 (0, 0))
  ne : gb ≠ gm
  lb : w0.heap.size ≤ gb
  lm : w0.heap.size ≤ gm
  bel : Below w0.heap.size w0 W
theorem box_oneG {W : World} {b : Nat} {p : Value} {t : TypeId} (h : W.heap[b]? = some (.cells #[p] t (0, 0))) : W.cell? ⟨b, 0, none⟩ = some p ∧ W.frozen? ⟨b, 0, none⟩ = false := by
  constructor <;> simp [World.cell?, World.frozen?, h]
theorem WithB.rb (w : World) : WithB w ((w.alloc (.cells #[.slice none 0 0] 31)).alloc (.cells #[.int .i64 2, .int .i64 1, .slice (some ⟨w.heap.size, 0, none⟩) 1 1] 27)).drew (w.heap.size + 1) w.heap.size := by
  have h1 := World.alloc_heap_new w (.cells #[.slice none 0 0] 31)
  have h2 := World.alloc_heap_new (w.alloc (.cells #[.slice none 0 0] 31)) (.cells #[.int .i64 2, .int .i64 1, .slice (some ⟨w.heap.size, 0, none⟩) 1 1] 27)
  rw [World.size_alloc] at h2
  exact ⟨h2, (Below.heap_alloc _ _ _ (by simp)).trans h1, by omega, by omega, Nat.le_refl _, (((Below.refl _ _).alloc (Nat.le_refl _) _).alloc (by simp) _).drew⟩
theorem WithB.br (w : World) : WithB w ((w.alloc (.cells #[.int .i64 2, .int .i64 1, .slice (some ⟨w.heap.size + 1, 0, none⟩) 1 1] 27)).alloc (.cells #[.slice none 0 0] 31)).drew w.heap.size (w.heap.size + 1) := by
  have h1 := World.alloc_heap_new w (.cells #[.int .i64 2, .int .i64 1, .slice (some ⟨w.heap.size + 1, 0, none⟩) 1 1] 27)
  have h2 := World.alloc_heap_new (w.alloc (.cells #[.int .i64 2, .int .i64 1, .slice (some ⟨w.heap.size + 1, 0, none⟩) 1 1] 27)) (.cells #[.slice none 0 0] 31)
  rw [World.size_alloc] at h2
  exact ⟨(Below.heap_alloc _ _ _ (by simp)).trans h1, h2, by omega, Nat.le_refl _, by omega, (((Below.refl _ _).alloc (Nat.le_refl _) _).alloc (by simp) _).drew⟩
/-- Behind the one round. -/
structure WithZ (w Z : World) (gb gm rb rc : Nat) : Prop where
  box : Z.heap[gb]? = some (.cells #[.int .i64 2, .int .i64 1, .slice (some ⟨gm, 0, none⟩) 1 1] 27 (0, 0))
  res : Z.heap[w.heap.size + 1]? = some (.cells #[.int .i64 0, .int .i64 0, .slice none 0 0] 27 (0, 0))
  row : Z.cell? ⟨gm, 0, none⟩ = some (.slice (some ⟨rb, 0, none⟩) 1 rc)
  one : Z.cell? ⟨rb, 0, none⟩ = some (.int .i64 1)
  nm : gm ≠ w.heap.size + 1
  nr : rb ≠ w.heap.size + 1
  lm : w.heap.size ≤ gm
  lr : w.heap.size ≤ rb
  bel : Below w.heap.size w Z
theorem set_oneG {W : World} {b : Nat} {p q : Value} {t : TypeId} (h : W.heap[b]? = some (.cells #[p] t (0, 0))) : (W.setCell ⟨b, 0, none⟩ q).cell? ⟨b, 0, none⟩ = some q := by
  unfold World.cell?
  simp only [World.setCell, Array.getElem?_modify, ↓reduceIte, h, Option.map_some]
  rfl
theorem Save.cellG {X : Nat → Prop} {a b : World} (h : Save X a b) {p : Addr} {x : Value} (hc : a.cell? p = some x) (hx : ¬ X p.block) : b.cell? p = some x := by
  have hb := h.block p.block (World.block_lt_of_cell? a p hc) hx
  rw [← hc]
  unfold World.cell?
  rw [hb]
theorem with_fin {w W2 wc w4 : World} {gb gm rb rc : Nat} (B2 : Below w.heap.size w W2) (HS2 : W2.heap.size = w.heap.size + 1 + 1) (X2 : W2.heap[w.heap.size + 1]? = some (.cells #[.int .i64 0, .int .i64 0, .slice none 0 0] 27 (0, 0))) (WB : WithB W2 wc gb gm) (hgm : gm < wc.heap.size) (hgb : gb < wc.heap.size) (K4 : Below wc.heap.size wc w4) (hrb : wc.heap.size ≤ rb) (hrc : w4.cell? ⟨rb, 0, none⟩ = some (.int .i64 1)) : WithZ w (w4.setCell ⟨gm, 0, none⟩ (.slice (some ⟨rb, 0, none⟩) 1 rc)) gb gm rb rc := by
  have hS : Save (fun k => k = gm) w4 (w4.setCell ⟨gm, 0, none⟩ (.slice (some ⟨rb, 0, none⟩) 1 rc)) := Save.setCell (X := fun k => k = gm) (Save.refl _ w4) (p := ⟨gm, 0, none⟩) (.inl rfl) _
  have k1 := K4.size
  have k2 := WB.bel.size
  have k3 := WB.lm
  refine ⟨(hS.block gb (by omega) WB.ne).trans ((K4.block _ hgb).trans WB.box), (hS.block _ (by omega) (by omega)).trans ((K4.block _ (by omega)).trans ((WB.bel.block _ (by omega)).trans X2)), set_oneG ((K4.block _ hgm).trans WB.row), hS.cellG hrc (by show ¬ rb = gm; omega), by omega, by omega, by omega, by omega, ?_⟩
  exact hS.below ((B2.trans (WB.bel.mono B2.size)).trans (K4.mono (by omega))) (by omega) (fun k e => by omega)
/-- One row of one 1, in blocks from B on. -/
structure RowO (B : Nat) (w : World) (gm rb rc : Nat) : Prop where
  row : w.cell? ⟨gm, 0, none⟩ = some (.slice (some ⟨rb, 0, none⟩) 1 rc)
  one : w.cell? ⟨rb, 0, none⟩ = some (.int .i64 1)
  lm : B ≤ gm
  lr : B ≤ rb
theorem RowO.rows {B : Nat} {w : World} {gm rb rc : Nat} (h : RowO B w gm rb rc) : RowsI w (.slice (some ⟨gm, 0, none⟩) 1 1) [[1]] := by
  refine ⟨_, _, rfl, by simp, fun _ => ⟨gm, 0, rfl, World.block_lt_of_cell? _ _ h.row, fun i hi => ?_⟩⟩
  obtain rfl : i = 0 := by simp at hi; omega
  refine ⟨_, h.row, ⟨_, _, rfl, by simp, fun _ => ⟨rb, 0, rfl, World.block_lt_of_cell? _ _ h.one, fun j hj => ?_⟩⟩⟩
  obtain rfl : j = 0 := by simp at hj; omega
  exact h.one
theorem RowO.below {B : Nat} {w w' : World} {gm rb rc : Nat} (h : RowO B w gm rb rc) (hb : Below w.heap.size w w') : RowO B w' gm rb rc := ⟨(hb.cell (World.block_lt_of_cell? _ _ h.row)).trans h.row, (hb.cell (World.block_lt_of_cell? _ _ h.one)).trans h.one, h.lm, h.lr⟩
theorem RowO.save {B b : Nat} {w w' : World} {gm rb rc : Nat} (h : RowO B w gm rb rc) (hs : Save (fun k => k = b) w w') (hb : b < B) : RowO B w' gm rb rc := ⟨hs.cellG h.row (fun e => by have h1 : gm = b := e; have := h.lm; omega), hs.cellG h.one (fun e => by have h1 : rb = b := e; have := h.lr; omega), h.lm, h.lr⟩
theorem with_end {w Z : World} {gb gm rb rc : Nat} (h : WithZ w Z gb gm rb rc) (x y z : Value) : RowO w.heap.size (((Z.setCell ⟨w.heap.size + 1, 0, none⟩ x).setCell ⟨w.heap.size + 1, 1, none⟩ y).setCell ⟨w.heap.size + 1, 2, none⟩ z) gm rb rc ∧ Below w.heap.size w (((Z.setCell ⟨w.heap.size + 1, 0, none⟩ x).setCell ⟨w.heap.size + 1, 1, none⟩ y).setCell ⟨w.heap.size + 1, 2, none⟩ z) := by
  have hS := save_3 Z (w.heap.size + 1) x y z
  exact ⟨⟨hS.cellG h.row (fun e => h.nm e), hS.cellG h.one (fun e => h.nr e), h.lm, h.lr⟩, hS.below h.bel h.bel.size (fun k e => by omega)⟩
set_option maxRecDepth 20000 in
set_option maxHeartbeats 4000000 in
theorem with_one (rg rcp cb cc : Nat) (w : World) (hrg : rg < w.heap.size) (hcb : cb < w.heap.size) (h0 : w.cell? ⟨rg, 0, none⟩ = some (.slice none 0 0)) (h1 : w.cell? ⟨cb, 0, none⟩ = some (.int .i64 1)) (hcc : 1 ≤ cc) :
    Calls Try.prog 28 #[.agg #[.int .i64 2, .int .i64 0, .slice (some ⟨rg, 0, none⟩) 1 rcp], .slice (some ⟨cb, 0, none⟩) 1 cc] w fun e w' => ∃ gm rb rc, e = .returned (.agg #[.int .i64 2, .int .i64 1, .slice (some ⟨gm, 0, none⟩) 1 1]) ∧ RowO w.heap.size w' gm rb rc ∧ Below w.heap.size w w' := by
  obtain ⟨ck, rfl⟩ : ∃ k, cc = k + 1 := ⟨cc - 1, by omega⟩
  have hk1 : (1 : Int) ≤ (ck : Int) + 1 := by omega
  have hk2 : (0 : Int) ≤ (ck : Int) := by omega
  have hsl : ∀ wx, (Instr.slice 31 (.slice (some ⟨cb, 0, none⟩) 1 (ck + 1)) (some (.int .i64 0)) (some (.int .i64 1)) none).run Try.prog wx = .ok (.slice (some ⟨cb, 0, none⟩) 1 (ck + 1)) wx := fun wx => by
    rw [run_slice_lh (ht := by rfl) (h0 := by decide) (h1 := by decide) (h2 := by omega)]
    rfl
  have hw1 : IntKind.i64.wrap 1 = 1 := by decide
  have hmk : ∀ w, (Instr.makeSlice 25 (.int .i64 1) (.int .i64 1)).run Try.prog w = .ok (.slice (some ⟨w.heap.size, 0, none⟩) 1 1) (w.alloc (.cells #[.slice none 0 0] 31)) := fun _ => by kernel_rfl
  have b1 := (Below.refl _ w).alloc (Nat.le_refl _) (.cells #[.int .i64 2, .int .i64 0, .slice (some ⟨rg, 0, none⟩) 1 rcp] 27)
  have x1 := World.alloc_heap_new w (.cells #[.int .i64 2, .int .i64 0, .slice (some ⟨rg, 0, none⟩) 1 rcp] 27)
  have s1 := World.size_alloc w (.cells #[.int .i64 2, .int .i64 0, .slice (some ⟨rg, 0, none⟩) 1 rcp] 27)
  obtain ⟨W1, hW1⟩ : ∃ W1, w.alloc (.cells #[.int .i64 2, .int .i64 0, .slice (some ⟨rg, 0, none⟩) 1 rcp] 27) = W1 := ⟨_, rfl⟩
  rw [hW1] at b1 x1 s1
  have b2 := (Below.refl _ W1).alloc (Nat.le_refl _) (.cells #[.int .i64 0, .int .i64 0, .slice none 0 0] 27)
  have x2 := World.alloc_heap_new W1 (.cells #[.int .i64 0, .int .i64 0, .slice none 0 0] 27)
  have s2 := World.size_alloc W1 (.cells #[.int .i64 0, .int .i64 0, .slice none 0 0] 27)
  rw [s1] at x2 s2
  obtain ⟨W2, hW2⟩ : ∃ W2, W1.alloc (.cells #[.int .i64 0, .int .i64 0, .slice none 0 0] 27) = W2 := ⟨_, rfl⟩
  rw [hW2] at b2 x2 s2
  have X1 := hid ((b2.block _ (by omega)).trans x1)
  have X2 := hid x2
  have B2 := hid (b1.trans (b2.mono b1.size))
  obtain ⟨⟨k0, k1, k2⟩, -⟩ := cells_3 X1.out
  have HS2 := hid s2
  have hlt : w.heap.size < W2.heap.size := by omega
  have ka0 : ∀ o, (W2.alloc o).cell? ⟨w.heap.size, 0, none⟩ = some (.int .i64 2) := fun o => (((Below.refl _ W2).alloc (Nat.le_refl _) o).cell (p := ⟨w.heap.size, 0, none⟩) hlt).trans k0
  have ka1 : ∀ o, (W2.alloc o).cell? ⟨w.heap.size, 1, none⟩ = some (.int .i64 0) := fun o => (((Below.refl _ W2).alloc (Nat.le_refl _) o).cell (p := ⟨w.heap.size, 1, none⟩) hlt).trans k1
  have ka2 : ∀ o, (W2.alloc o).cell? ⟨w.heap.size, 2, none⟩ = some (.slice (some ⟨rg, 0, none⟩) 1 rcp) := fun o => (((Below.refl _ W2).alloc (Nat.le_refl _) o).cell (p := ⟨w.heap.size, 2, none⟩) hlt).trans k2
  have kb0 : ∀ o o', ((W2.alloc o).alloc o').cell? ⟨w.heap.size, 0, none⟩ = some (.int .i64 2) := fun o o' => ((((Below.refl _ W2).alloc (Nat.le_refl _) o).alloc (by simp) o').cell (p := ⟨w.heap.size, 0, none⟩) hlt).trans k0
  have kb1 : ∀ o o', ((W2.alloc o).alloc o').cell? ⟨w.heap.size, 1, none⟩ = some (.int .i64 0) := fun o o' => ((((Below.refl _ W2).alloc (Nat.le_refl _) o).alloc (by simp) o').cell (p := ⟨w.heap.size, 1, none⟩) hlt).trans k1
  have S1 := hid s1
  clear b1 x1 b2 x2 s1 s2
  go_enter Try.func28, Try.ntmps28
  go_upto_region 1 with fail
  rw [S1.out]
  clear hW1 hW2
  go_cut [5] from 8 to 17 (fun x W => ∃ gb gm, x = .pointer (some ⟨gb, 0, none⟩) ∧ Hid (WithB W2 W gb gm))
  case first =>
    go_wp2_with fail
    go_region
    all_goals go_wp2_with fail
    all_goals go_meet
    all_goals first
      | exact ⟨_, _, rfl, WithB.rb W2⟩
      | exact ⟨_, _, rfl, WithB.br W2⟩
  case rest =>
  obtain ⟨gb, gm, rfl, WB⟩ := hcut
  clear ka0 ka1 ka2 kb0 kb1 k0 k1 k2
  have BW := hid (B2.out.trans (WB.out.bel.mono B2.out.size))
  have Y1 := hid ((WB.out.bel.block _ hlt).trans X1.out)
  obtain ⟨⟨k0, k1, k2⟩, -⟩ := cells_3 Y1.out
  have r0 := (BW.out.cell (p := ⟨rg, 0, none⟩) hrg).trans h0
  have r1 := (BW.out.cell (p := ⟨cb, 0, none⟩) hcb).trans h1
  have hgb : gb < wc.heap.size := (Array.getElem?_eq_some_iff.1 WB.out.box).1
  have hgm : gm < wc.heap.size := (Array.getElem?_eq_some_iff.1 WB.out.row).1
  have hwc := BW.out.size
  have hw2c := WB.out.bel.size
  have hkB := (Below.refl _ wc).alloc (Nat.le_refl _) (.cells #[.slice none 0 0, .slice (some ⟨cb, 0, none⟩) 1 (ck + 1)] 31)
  have hkD : Below wc.heap.size wc (wc.alloc (.cells #[.slice none 0 0, .slice (some ⟨cb, 0, none⟩) 1 (ck + 1)] 31)).drew := hkB.drew
  have xB := World.alloc_heap_new wc (.cells #[.slice none 0 0, .slice (some ⟨cb, 0, none⟩) 1 (ck + 1)] 31)
  have sB := World.size_alloc wc (.cells #[.slice none 0 0, .slice (some ⟨cb, 0, none⟩) 1 (ck + 1)] 31)
  obtain ⟨e0, e1, -, -⟩ := two_cells xB
  have CON := hid (concat_one wc.heap.size cb 0 (ck + 1) 2 (wc.alloc (.cells #[.slice none 0 0, .slice (some ⟨cb, 0, none⟩) 1 (ck + 1)] 31)).drew (by show wc.heap.size < (wc.alloc _).heap.size; omega) (by show cb < (wc.alloc _).heap.size; omega) e0 e1 ((hkB.cell (p := ⟨cb, 0, none⟩) (by show cb < _; omega)).trans r1))
  obtain ⟨⟨-, -, g2⟩, -⟩ := cells_3 WB.out.box
  have g2a : ∀ o, (wc.alloc o).cell? ⟨gb, 2, none⟩ = some (.slice (some ⟨gm, 0, none⟩) 1 1) := fun o => (((Below.refl _ wc).alloc (Nat.le_refl _) o).cell (p := ⟨gb, 2, none⟩) hgb).trans g2
  have HK := hid hkD
  have hsD : (wc.alloc (.cells #[.slice none 0 0, .slice (some ⟨cb, 0, none⟩) 1 (ck + 1)] 31)).drew.heap.size = wc.heap.size + 1 := sB
  clear xB sB e0 e1 hkB hkD
  go_wp2_with fail
  refine wp_loop_rounds 2 ?_
  rw [rounds_succ]
  go_wp2_with fail
  go_region_with (go_at_call 47; refine CON.out.mono ?_; rintro e w4 ⟨r, rfl, ho, hb4⟩; obtain ⟨rb, rc, rfl, hrb, hrb2, hrc⟩ := own_one ho; have K4 := hid (HK.out.trans (hb4.mono HK.out.size)); have RC := hid hrc; have g4 := (K4.out.cell (p := ⟨gb, 2, none⟩) hgb).trans g2; have M4 := hid ((K4.out.block _ hgm).trans WB.out.row); obtain ⟨m4, m5⟩ := box_oneG M4.out; clear ho hb4 hrc)
  all_goals go_wp2_with fail
  all_goals
    have WZ := with_fin (rc := rc) B2.out HS2.out X2.out WB.out hgm hgb K4.out (by omega) RC.out
    obtain ⟨Z, hZ⟩ : ∃ Z, w4.setCell ⟨gm, 0, none⟩ (.slice (some ⟨rb, 0, none⟩) 1 rc) = Z := ⟨_, rfl⟩
    rw [hZ] at WZ ⊢
    have WY := hid WZ
    obtain ⟨⟨z0, z1, z2⟩, -⟩ := cells_3 WZ.box
    obtain ⟨⟨y0, y1, y2⟩, yf⟩ := cells_3 WZ.res
    have yf0 := yf 0
    have yf1 := yf 1
    have yf2 := yf 2
    obtain ⟨⟨v0, v1, v2⟩, -⟩ := cells_3 (set_3h (a := .int .i64 2) (c := .int .i64 1) (d := .slice (some ⟨gm, 0, none⟩) 1 1) WZ.res)
    clear WZ hZ yf RC M4 m4 m5 g4 K4 HK CON g2a g2 hsD r0 r1 k0 k1 k2
    rw [rounds_succ]
    go_wp2_with fail
    refine bodyPost_ret (v := .agg #[.int .i64 2, .int .i64 1, .slice (some ⟨gm, 0, none⟩) 1 1]) ?_ rfl ⟨_, _, _, rfl, with_end WY.out _ _ _⟩
    obtain ⟨F, hF⟩ : ∃ F, ((Z.setCell ⟨w.heap.size + 1, 0, none⟩ (.int .i64 2)).setCell ⟨w.heap.size + 1, 1, none⟩ (.int .i64 1)).setCell ⟨w.heap.size + 1, 2, none⟩ (.slice (some ⟨gm, 0, none⟩) 1 1) = F := ⟨_, rfl⟩
    rw [hF] at v0 v1 v2 ⊢
    simp [results, Try.f28, go_sem, v0, v1, v2]
end Go.Proofs.Ytgdcfogikchjeaa

namespace Go.Proofs.Ytgdcfogikchjeaa
open Go.RowKit

/-- Is x one of zs? -/
def memZ (x : Int) (zs : List Int) : Bool := decide (x ∈ zs)
theorem memZ_N (x : Nat) (l : List Nat) : memZ x (N l) = memB x l := by
  unfold memZ memB N
  rw [Bool.eq_iff_iff, decide_eq_true_eq, decide_eq_true_eq, List.mem_map]
  constructor
  · rintro ⟨y, h1, h2⟩
    have : y = x := Int.ofNat.inj h2
    exact this ▸ h1
  · exact fun h => ⟨x, h, rfl⟩
set_option maxRecDepth 20000 in
set_option maxHeartbeats 800000 in
theorem IndexZ_any (v : Value) (zs : List Int) (x : Int) (w : World) (h : Ints w v zs) :
    Calls Try.prog 77 #[v, .int .i64 x] w fun e w' => ∃ r : Int, e = .returned (.int .i64 r) ∧ decide (0 ≤ r) = memZ x zs ∧ w' = w := by
  obtain ⟨a, cap, rfl, hlen, hc⟩ := h
  go_enter Try.func77, Try.ntmps77
  go_wp2_with fail
  go_loop [8] (fun i => ∃ k : Nat, k ≤ zs.length ∧ i = .int .i64 k ∧ Hid (x ∈ zs ↔ x ∈ zs.drop k)) (fun i => zs.length - (intOf i).toNat)
  case atStart => exact ⟨0, Nat.zero_le _, rfl, Iff.rfl⟩
  case round =>
    obtain ⟨k, hk, rfl, R⟩ := hrel
    by_cases hlt : k < zs.length
    · obtain ⟨b, off, rfl, hb, hcell⟩ := hc (by omega)
      have hck := hcell k hlt
      have D : Hid (zs.drop k = zs.getD k 0 :: zs.drop (k + 1)) := by
        show zs.drop k = _
        rw [List.drop_eq_getElem_cons hlt]; simp [List.getD, hlt]
      have hki : (k : Int) < (zs.length : Int) := by omega
      clear hcell hc
      generalize zs.getD k 0 = y at *
      by_cases hxy : x = y
      · have hxy' : (x == y) = true := by rw [hxy]; simp
        have F : Hid (memZ x zs = true) := by
          show decide (x ∈ zs) = true
          rw [decide_eq_true_iff, R.out, D.out, hxy]; simp
        clear hxy
        go_wp2_with fail
        go_ret
        exact ⟨_, rfl, by rw [F.out]; simp, rfl⟩
      · have hxy' : (x == y) = false := by rw [beq_eq_false_iff_ne]; exact hxy
        have HX := hid hxy
        clear hxy
        go_wp2_with fail
        go_round
        case rel => exact ⟨k + 1, by omega, by go_num, by show x ∈ zs ↔ _; rw [R.out, D.out]; simp [HX.out]⟩
        case measure => simp [intOf]; omega
    · have F : Hid (memZ x zs = false) := by
        show decide (x ∈ zs) = false
        rw [decide_eq_false_iff_not, R.out, List.drop_of_length_le (by omega)]; simp
      go_wp2_with fail
      go_ret
      exact ⟨_, rfl, by rw [F.out]; simp, rfl⟩
theorem ContainsZ_any (v : Value) (zs : List Int) (x : Int) (w : World) (h : Ints w v zs) :
    Calls Try.prog 62 #[v, .int .i64 x] w fun e w' => e = .returned (.bool (memZ x zs)) ∧ w' = w := by
  have HI := hid (IndexZ_any v zs x w h)
  clear h
  go_enter Try.func62, Try.ntmps62
  go_wp2_with fail
  refine HI.out.mono ?_
  rintro e w1 ⟨r, rfl, hr, rfl⟩
  have HR := hid hr
  clear hr
  go_wp2_with fail
  go_ret
  exact ⟨ret_bool HR.out, rfl⟩
theorem isBasis_any (n : Int) (v : Value) (zs : List Int) (x : Int) (w : World) (h : Ints w v zs) :
    Calls Try.prog 43 #[.agg #[.int .i64 n, v], .int .i64 x] w fun e w' => e = .returned (.bool (memZ x zs)) ∧ Below w.heap.size w w' := by
  have hB0 := below_box w #[.int .i64 n, v]
  have HC := hid (ContainsZ_any v zs x _ (h.below hB0))
  have HB := hid hB0
  obtain ⟨a, cap, rfl, _, _⟩ := h
  clear hB0
  go_enter Try.func43, Try.ntmps43
  go_wp2_with fail
  refine HC.out.mono ?_
  rintro e w1 ⟨rfl, rfl⟩
  go_wp2_with fail
  go_ret
  exact ⟨rfl, HB.out⟩
/-- What checkBases tells. -/
def cbR (n : Int) (zs ys : List Int) : Int := if chkR n zs ≠ 0 then chkR n zs else if ys.all fun y => memZ y zs then 0 else 1
end Go.Proofs.Ytgdcfogikchjeaa
