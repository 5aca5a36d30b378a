/- repr.parts of the matroid of one element, which is in its basis. -/
import Derived.Test.YtgdcfogikchjeaaRgFW
import Derived.Test.YtgdcfogikchjeaaDelConQ
import Derived.Test.YtgdcfogikchjeaaTakeW
namespace Go.Proofs.Ytgdcfogikchjeaa
open Go.RowKit

theorem set_lo {W : World} {g : Nat} {x0 x1 x2 x3 a b : Value} {t : TypeId} (h : W.heap[g]? = some (.cells #[x0, x1, x2, x3] t (0, 0))) : ((W.setCell ⟨g, 0, none⟩ a).setCell ⟨g, 1, none⟩ b).heap[g]? = some (.cells #[a, b, x2, x3] t (0, 0)) := by
  simp only [World.setCell, Array.getElem?_modify, ↓reduceIte, h, Option.map_some]
  rfl
theorem set_hi {W : World} {g : Nat} {x0 x1 x2 x3 a b : Value} {t : TypeId} (h : W.heap[g]? = some (.cells #[x0, x1, x2, x3] t (0, 0))) : ((W.setCell ⟨g, 2, none⟩ a).setCell ⟨g, 3, none⟩ b).heap[g]? = some (.cells #[x0, x1, a, b] t (0, 0)) := by
  simp only [World.setCell, Array.getElem?_modify, ↓reduceIte, h, Option.map_some]
  rfl
theorem four_cells {W : World} {g : Nat} {x0 x1 x2 x3 : Value} {t : TypeId} (h : W.heap[g]? = some (.cells #[x0, x1, x2, x3] t (0, 0))) : (W.cell? ⟨g, 0, none⟩ = some x0 ∧ W.cell? ⟨g, 1, none⟩ = some x1 ∧ W.cell? ⟨g, 2, none⟩ = some x2 ∧ W.cell? ⟨g, 3, none⟩ = some x3) ∧ ∀ i, W.frozen? ⟨g, i, none⟩ = false := by
  refine ⟨⟨?_, ?_, ?_, ?_⟩, fun i => ?_⟩ <;> simp [World.cell?, World.frozen?, h]
theorem own_set {B : Nat} {w : World} {v : Value} {l : List Nat} (h : Own B w v l) {p : Addr} (hp : p.block < B) (x : Value) : Own B (w.setCell p x) v l := by
  obtain ⟨h0, h1⟩ := h
  refine ⟨h0, h1.imp_right ?_⟩
  rintro ⟨g, cap, cur, hv, hg, hheap, hr⟩
  exact ⟨g, cap, cur, hv, hg, (Below.heap_setCell _ _ _ g (by omega)).trans hheap, hr⟩
theorem save_at (w : World) (b i j : Nat) (x y : Value) : Save (fun k => k = b) w ((w.setCell ⟨b, i, none⟩ x).setCell ⟨b, j, none⟩ y) := (Save.setCell (X := fun k => k = b) (Save.refl _ w) (p := ⟨b, i, none⟩) (.inl rfl) _).setCell (p := ⟨b, j, none⟩) (.inl rfl) _
theorem del_a : pop (dif (2 ^ 1 - 1) 1) = 0 ∧ minL 1 [1] 1 0 = [0] := by decide +kernel
theorem del_b : pop (dif (2 ^ 1 - 1) 0) = 1 ∧ minL 1 [1] 0 0 = [1] := by decide +kernel
theorem one_fam : Fam 1 [1] := ⟨by decide, by decide⟩
theorem one_bas : Bas [1] := (bas_iff (by decide)).2 ⟨by decide, by decide +kernel, by decide +kernel⟩
/-- The two parts. -/
def PartsAt (w : World) (g : Nat) : Prop := ∃ a0 c0 a1 c1, w.heap[g]? = some (.cells #[.int .i64 0, .slice a0 1 c0, .int .i64 1, .slice a1 1 c1] 33 (0, 0)) ∧ Ints w (.slice a0 1 c0) (N [0]) ∧ Ints w (.slice a1 1 c1) (N [1])
set_option maxRecDepth 20000 in
set_option maxHeartbeats 4000000 in
theorem parts_one (a : Option Addr) (cap : Nat) (w : World) (h : Ints w (.slice a 1 cap) (N [1])) :
    Calls Try.prog 12 #[.agg #[.int .i64 1, .slice a 1 cap]] w fun e w' => ∃ g, e = .returned (.slice (some ⟨g, 0, none⟩) 2 2) ∧ w.heap.size ≤ g ∧ PartsAt w' g ∧ Below w.heap.size w w' := by
  have hmk : ∀ w, (Instr.makeSlice 45 (.int .i64 2) (.int .i64 2)).run Try.prog w = .ok (.slice (some ⟨w.heap.size, 0, none⟩) 2 2) (w.alloc (.cells #[.int .i64 0, .slice none 0 0, .int .i64 0, .slice none 0 0] 33)) := fun _ => by kernel_rfl
  have WA : Hid (∀ W, Calls Try.prog 30 #[.int .i64 1] W fun e w' => e = .returned (.int .i64 1) ∧ w' = W) := fun W => wholeSet_any 1 W (by omega)
  have WZ : Hid (∀ W, Calls Try.prog 30 #[.int .i64 0] W fun e w' => e = .returned (.int .i64 0) ∧ w' = W) := fun W => wholeSet_any 0 W (by omega)
  have D1 : Hid (∀ W, Below w.heap.size w W → Calls Try.prog 31 #[.agg #[.int .i64 1, .slice a 1 cap], .int .i64 1] W fun e w' => ∃ ra rc, e = .returned (.tuple #[.agg #[.int .i64 0, .slice ra 1 rc], .int .i64 0]) ∧ Hid (Own W.heap.size w' (.slice ra 1 rc) [0]) ∧ Hid (Below W.heap.size W w')) := fun W hW => by
    have := Delete_ok 1 1 _ [1] W (by omega) one_fam one_bas (h.below hW) (by decide)
    rw [del_a.1, del_a.2] at this
    refine this.mono fun e w' ⟨r, h1, h2, h3⟩ => ?_
    obtain ⟨ra, rc, hr⟩ := ownsRow_form' h2
    subst hr
    exact ⟨ra, rc, h1, h2, h3⟩
  have D2 : Hid (∀ W, Below w.heap.size w W → Calls Try.prog 31 #[.agg #[.int .i64 1, .slice a 1 cap], .int .i64 0] W fun e w' => ∃ ra rc, e = .returned (.tuple #[.agg #[.int .i64 1, .slice ra 1 rc], .int .i64 0]) ∧ Hid (Own W.heap.size w' (.slice ra 1 rc) [1]) ∧ Hid (Below W.heap.size W w')) := fun W hW => by
    have := Delete_ok 1 0 _ [1] W (by omega) one_fam one_bas (h.below hW) (by decide)
    rw [del_b.1, del_b.2] at this
    refine this.mono fun e w' ⟨r, h1, h2, h3⟩ => ?_
    obtain ⟨ra, rc, hr⟩ := ownsRow_form' h2
    subst hr
    exact ⟨ra, rc, h1, h2, h3⟩
  have b1 := below_boxR w #[.int .i64 1, .slice a 1 cap]
  have x1 := World.alloc_heap_new w (.cells #[.int .i64 1, .slice a 1 cap] 33)
  have s1 := World.size_alloc w (.cells #[.int .i64 1, .slice a 1 cap] 33)
  obtain ⟨W1, hW1⟩ : ∃ W1, w.alloc (.cells #[.int .i64 1, .slice a 1 cap] 33) = W1 := ⟨_, rfl⟩
  rw [hW1] at b1 x1 s1
  have b2 := (Below.refl _ W1).alloc (Nat.le_refl _) (.cells #[.int .i64 0, .slice none 0 0, .int .i64 0, .slice none 0 0] 33)
  have x2 := World.alloc_heap_new W1 (.cells #[.int .i64 0, .slice none 0 0, .int .i64 0, .slice none 0 0] 33)
  have s2 := World.size_alloc W1 (.cells #[.int .i64 0, .slice none 0 0, .int .i64 0, .slice none 0 0] 33)
  rw [s1] at x2 s2
  obtain ⟨W2, hW2⟩ : ∃ W2, W1.alloc (.cells #[.int .i64 0, .slice none 0 0, .int .i64 0, .slice none 0 0] 33) = W2 := ⟨_, rfl⟩
  rw [hW2] at b2 x2 s2
  have X1 := hid ((b2.block _ (by omega)).trans x1)
  obtain ⟨k0, k1, -, -⟩ := two_cells X1.out
  have X2 := hid x2
  have B2 := hid (b1.trans (b2.mono b1.size))
  subst hW2
  subst hW1
  clear h b1 b2 x1 x2
  go_enter Try.func12, Try.ntmps12
  go_wp2_with fail
  refine wp_loop_rounds 3 ?_
  rw [rounds_succ]
  go_wp2_with fail
  refine (WA.out _).mono ?_
  rintro e wx ⟨rfl, hx⟩
  obtain rfl := hx.symm
  clear hx
  go_wp2_with fail
  refine (WZ.out _).mono ?_
  rintro e wx ⟨rfl, hx⟩
  obtain rfl := hx.symm
  clear hx
  go_wp2_with fail
  refine (D1.out _ B2.out).mono ?_
  rintro e w3 ⟨a0, c0, rfl, I0, L3⟩
  have B3 := hid (B2.out.trans (L3.out.mono B2.out.size))
  have X3 := hid ((L3.out.block _ (by omega)).trans X2.out)
  have Y3 := hid ((L3.out.block _ (by omega)).trans X1.out)
  obtain ⟨⟨q0, q1, q2, q3⟩, qf⟩ := four_cells X3.out
  have qf0 := qf 0
  have qf1 := qf 1
  have X4 := hid (set_lo (a := .int .i64 0) (b := .slice a0 1 c0) X3.out)
  have sv := save_at w3 (w.heap.size + 1) 0 1 (.int .i64 0) (.slice a0 1 c0)
  have B4 := hid (sv.below B3.out B3.out.size (fun k e => by omega))
  have Y4 := hid ((sv.block _ (Array.getElem?_eq_some_iff.1 Y3.out).1 (by omega)).trans Y3.out)
  have O4 := hid (own_set (own_set I0.out (p := ⟨w.heap.size + 1, 0, none⟩) (by show w.heap.size + 1 < _; omega) (.int .i64 0)) (p := ⟨w.heap.size + 1, 1, none⟩) (by show w.heap.size + 1 < _; omega) (.slice a0 1 c0))
  obtain ⟨z0, z1, -, -⟩ := two_cells Y4.out
  have hz4 : w.heap.size + 1 < ((w3.setCell ⟨w.heap.size + 1, 0, none⟩ (.int .i64 0)).setCell ⟨w.heap.size + 1, 1, none⟩ (.slice a0 1 c0)).heap.size := (Array.getElem?_eq_some_iff.1 X4.out).1
  clear qf L3 B3 Y3 k0 k1 I0 sv
  go_wp2_with fail
  rw [rounds_succ]
  go_wp2_with fail
  refine (WA.out _).mono ?_
  rintro e wx ⟨rfl, hx⟩
  obtain rfl := hx.symm
  clear hx
  go_wp2_with fail
  refine (WA.out _).mono ?_
  rintro e wx ⟨rfl, hx⟩
  obtain rfl := hx.symm
  clear hx
  go_wp2_with fail
  refine (D2.out _ B4.out).mono ?_
  rintro e w5 ⟨a1, c1, rfl, I1, L5⟩
  have B5 := hid (B4.out.trans (L5.out.mono B4.out.size))
  have X5 := hid ((L5.out.block _ hz4).trans X4.out)
  have J5 := hid (O4.out.below L5.out)
  obtain ⟨⟨p0, p1, p2, p3⟩, pf⟩ := four_cells X5.out
  have pf2 := pf 2
  have pf3 := pf 3
  have X6 := hid (set_hi (a := .int .i64 1) (b := .slice a1 1 c1) X5.out)
  have sv := save_at w5 (w.heap.size + 1) 2 3 (.int .i64 1) (.slice a1 1 c1)
  have B6 := hid (sv.below B5.out B5.out.size (fun k e => by omega))
  have R0 := hid ((own_set (own_set J5.out (p := ⟨w.heap.size + 1, 2, none⟩) (by show w.heap.size + 1 < _; omega) (.int .i64 1)) (p := ⟨w.heap.size + 1, 3, none⟩) (by show w.heap.size + 1 < _; omega) (.slice a1 1 c1)).ints (by decide))
  have R1 := hid ((own_set (own_set I1.out (p := ⟨w.heap.size + 1, 2, none⟩) hz4 (.int .i64 1)) (p := ⟨w.heap.size + 1, 3, none⟩) hz4 (.slice a1 1 c1)).ints (by decide))
  clear pf L5 B5 J5 I1 sv z0 z1 O4 hz4
  go_wp2_with fail
  rw [rounds_succ]
  go_wp2_with fail
  go_ret
  exact ⟨_, rfl, Nat.le_succ _, ⟨a0, c0, a1, c1, X6.out, R0.out, R1.out⟩, B6.out⟩
end Go.Proofs.Ytgdcfogikchjeaa

namespace Go.Proofs.Ytgdcfogikchjeaa
open Go.RowKit

theorem set_3h {W : World} {b : Nat} {x0 x1 x2 a c d : Value} {t : TypeId} (h : W.heap[b]? = some (.cells #[x0, x1, x2] t (0, 0))) : (((W.setCell ⟨b, 0, none⟩ a).setCell ⟨b, 1, none⟩ c).setCell ⟨b, 2, none⟩ d).heap[b]? = some (.cells #[a, c, d] t (0, 0)) := by
  simp only [World.setCell, Array.getElem?_modify, ↓reduceIte, h, Option.map_some]
  rfl
theorem save_3 (w : World) (b : Nat) (x y z : Value) : Save (fun k => k = b) w (((w.setCell ⟨b, 0, none⟩ x).setCell ⟨b, 1, none⟩ y).setCell ⟨b, 2, none⟩ z) := (save_at w b 0 1 x y).setCell (p := ⟨b, 2, none⟩) (.inl rfl) _
theorem cells_3 {W : World} {b : Nat} {x0 x1 x2 : Value} {t : TypeId} (h : W.heap[b]? = some (.cells #[x0, x1, x2] t (0, 0))) : (W.cell? ⟨b, 0, none⟩ = some x0 ∧ W.cell? ⟨b, 1, none⟩ = some x1 ∧ W.cell? ⟨b, 2, none⟩ = some x2) ∧ ∀ i, W.frozen? ⟨b, i, none⟩ = false := by
  refine ⟨⟨?_, ?_, ?_⟩, fun i => ?_⟩ <;> simp [World.cell?, World.frozen?, h]
set_option maxRecDepth 20000 in
set_option maxHeartbeats 4000000 in
theorem goOn_end (g : Nat) (ra : Option Addr) (rn rc : Nat) (w : World) (hg : g < w.heap.size) (hP : PartsAt w g) :
    Calls Try.prog 11 #[.slice (some ⟨g, 0, none⟩) 2 2, .agg #[.int .i64 2, .int .i64 1, .slice ra rn rc]] w fun e w' => e = .returned (.tuple #[.agg #[.int .i64 2, .int .i64 1, .slice ra rn rc], .bool true]) ∧ Below w.heap.size w w' := by
  obtain ⟨a0, c0, a1, c1, hX, -, -⟩ := hP
  have b1 := (Below.refl _ w).alloc (Nat.le_refl _) (.cells #[.int .i64 2, .int .i64 1, .slice ra rn rc] 27)
  have x1 := World.alloc_heap_new w (.cells #[.int .i64 2, .int .i64 1, .slice ra rn rc] 27)
  have s1 := World.size_alloc w (.cells #[.int .i64 2, .int .i64 1, .slice ra rn rc] 27)
  obtain ⟨W1, hW1⟩ : ∃ W1, w.alloc (.cells #[.int .i64 2, .int .i64 1, .slice ra rn rc] 27) = W1 := ⟨_, rfl⟩
  rw [hW1] at b1 x1 s1
  have b2 := (Below.refl _ W1).alloc (Nat.le_refl _) (.cells #[.int .i64 0, .int .i64 0, .slice none 0 0] 27)
  have x2 := World.alloc_heap_new W1 (.cells #[.int .i64 0, .int .i64 0, .slice none 0 0] 27)
  have s2 := World.size_alloc W1 (.cells #[.int .i64 0, .int .i64 0, .slice none 0 0] 27)
  rw [s1] at x2 s2
  obtain ⟨W2, hW2⟩ : ∃ W2, W1.alloc (.cells #[.int .i64 0, .int .i64 0, .slice none 0 0] 27) = W2 := ⟨_, rfl⟩
  rw [hW2] at b2 x2 s2
  have b12 := b1.trans (b2.mono b1.size)
  have hX2 := (b12.block _ hg).trans hX
  have b3 := (Below.refl _ W2).alloc (Nat.le_refl _) (.cells #[.int .i64 1, .slice a1 1 c1] 33)
  have x3 := World.alloc_heap_new W2 (.cells #[.int .i64 1, .slice a1 1 c1] 33)
  rw [s2] at x3
  have y1 := (b3.block _ (by omega)).trans ((b2.block _ (by omega)).trans x1)
  have y2 := (b3.block _ (by omega)).trans x2
  obtain ⟨⟨p0, p1, p2, p3⟩, -⟩ := four_cells hX2
  obtain ⟨⟨k0, k1, k2⟩, -⟩ := cells_3 y1
  obtain ⟨⟨l0, l1, l2⟩, lf⟩ := cells_3 y2
  obtain ⟨m0, m1, -, -⟩ := two_cells x3
  have lf0 := lf 0
  have lf1 := lf 1
  have lf2 := lf 2
  have BF : Hid (Below w.heap.size w (((w.alloc (.cells #[.int .i64 2, .int .i64 1, .slice ra rn rc] 27)).alloc (.cells #[.int .i64 2, .int .i64 1, .slice ra rn rc] 27)).alloc (.cells #[.int .i64 1, .slice a1 1 c1] 33))) := (((Below.refl _ _).alloc (Nat.le_refl _) _).alloc (by simp) _).alloc (by simp; omega) _
  subst hW2
  subst hW1
  clear b1 x1 s1 b2 x2 s2 b12 hX2 b3 x3 y1 y2 lf hX
  go_enter Try.func11, Try.ntmps11
  go_wp2_with fail
  refine bodyPost_ret (v := .tuple #[.agg #[.int .i64 2, .int .i64 1, .slice ra rn rc], .bool true]) ?_ rfl ⟨rfl, BF.out⟩
  simp [results, Try.f11, go_sem]
end Go.Proofs.Ytgdcfogikchjeaa
