/- What rotaref.OfCircuits and OfHyperplanes ask of two sets; the blocks of a call whose list lies in a box. -/
import Derived.Test.YthbldeloocmakaaRefOfQ
import Derived.Test.YthbldeloocmakaaRefLeastQ
import Derived.Test.YthbldeloocmakaaPlainAll
namespace Go.Proofs.Ythbldeloocmakaa
open Go.RowKit

/-- The list's box and the result's block lie there. -/
def At2 (w : World) (v : Value) (W : World) : Prop := Below w.heap.size w W ∧ W.cell? ⟨w.heap.size, 0, none⟩ = some v ∧ W.heap[w.heap.size + 1]? = some (.cells #[.int .i64 0, .slice none 0 0] 24 (0, 0)) ∧ w.heap.size + 2 ≤ W.heap.size
theorem At2.new (w : World) (v : Value) : At2 w v ((w.alloc (.cells #[v] 22)).alloc (.cells #[.int .i64 0, .slice none 0 0] 24)) := by
  refine ⟨((Below.refl _ _).alloc (Nat.le_refl _) _).alloc (by simp) _, ?_, ?_, by simp⟩
  · exact cellA _ (Boxed.new w 22 v).cell
  · have := World.alloc_heap_new (w.alloc (.cells #[v] 22)) (.cells #[.int .i64 0, .slice none 0 0] 24)
    rwa [World.size_alloc] at this
theorem At2.on {w W W' : World} {v : Value} (h : At2 w v W) (hb : Below W.heap.size W W') : At2 w v W' := ⟨h.1.trans (hb.mono h.1.size), (hb.cell (p := ⟨w.heap.size, 0, none⟩) (by show w.heap.size < _; have := h.2.2.2; omega)).trans h.2.1, (hb.block _ (by have := h.2.2.2; omega)).trans h.2.2.1, Nat.le_trans h.2.2.2 hb.size⟩
theorem At2.ints {w W : World} {u : Value} (h : At2 w u W) {v : Value} {zs : List Int} (hv : Ints w v zs) : Ints W v zs := hv.below h.1
theorem At2.box {w W : World} {v : Value} (h : At2 w v W) : W.cell? ⟨w.heap.size, 0, none⟩ = some v := h.2.1
theorem At2.cell {w W : World} {v : Value} (h : At2 w v W) {b off : Nat} {x : Value} (hb : b < w.heap.size) (hx : w.cell? ⟨b, off, none⟩ = some x) : W.cell? ⟨b, off, none⟩ = some x := (h.1.cell (p := ⟨b, off, none⟩) hb).trans hx
theorem At2.cells {w W : World} {v : Value} (h : At2 w v W) : W.cell? ⟨w.heap.size + 1, 0, none⟩ = some (.int .i64 0) ∧ W.cell? ⟨w.heap.size + 1, 1, none⟩ = some (.slice none 0 0) ∧ W.frozen? ⟨w.heap.size + 1, 0, none⟩ = false ∧ W.frozen? ⟨w.heap.size + 1, 1, none⟩ = false := two_cells h.2.2.1
theorem At2.end {w W : World} {v : Value} (h : At2 w v W) (x y : Value) : (((W.setCell ⟨w.heap.size + 1, 0, none⟩ x).setCell ⟨w.heap.size + 1, 1, none⟩ y).cell? ⟨w.heap.size + 1, 0, none⟩ = some x ∧ ((W.setCell ⟨w.heap.size + 1, 0, none⟩ x).setCell ⟨w.heap.size + 1, 1, none⟩ y).cell? ⟨w.heap.size + 1, 1, none⟩ = some y) ∧ Below w.heap.size w ((W.setCell ⟨w.heap.size + 1, 0, none⟩ x).setCell ⟨w.heap.size + 1, 1, none⟩ y) := ⟨set_two h.2.2.1, below_two h.1 (by omega)⟩
theorem BoolM.yes2 {w W : World} {u : Value} {q n : Int} {l : List Nat} {ra : Option Addr} {rc : Nat} (hq : q = 0) (hl : l.length ≤ 17592186044416) (ho : Own (w.heap.size + 2) W (.slice ra l.length rc) l) (h : At2 w u W) :
    BoolM w q n l (.returned (.tuple #[.agg #[.int .i64 n, .slice ra l.length rc], .bool true])) ((W.setCell ⟨w.heap.size + 1, 0, none⟩ (.int .i64 n)).setCell ⟨w.heap.size + 1, 1, none⟩ (.slice ra l.length rc)) :=
  ⟨n, ra, l.length, rc, by rw [hq]; rfl, .inl ⟨hq, rfl, hl, (ho.set2 (b := w.heap.size + 1) (by omega)).mono (by omega)⟩, below_two h.1 (by omega)⟩
theorem any_take {p : Nat → Bool} {l : List Nat} {z : Nat} (hz : z < l.length) : (l.take (z + 1)).any p = ((l.take z).any p || p (l.getD z 0)) := by
  rw [List.take_add_one, List.any_append, List.getElem?_eq_getElem hz]
  simp [List.getD, hz]
theorem rm_le (s i : Nat) : rm s i ≤ s := sub_le (rm_sub s i)
theorem getD_apart {l : List Nat} (up : l.Pairwise (· < ·)) {i j : Nat} (hi : i < l.length) (hj : j < l.length) (h : i ≠ j) : l.getD i 0 ≠ l.getD j 0 := by
  simp only [List.getD, List.getElem?_eq_getElem hi, List.getElem?_eq_getElem hj, Option.getD_some]
  rw [List.pairwise_iff_getElem] at up
  rcases Nat.lt_or_gt_of_ne h with a | a
  · exact Nat.ne_of_lt (up i j hi hj a)
  · exact (Nat.ne_of_lt (up j i hj hi a)).symm
/-- What is asked of two circuits. -/
def cP (m : Nat) (l : List Nat) (x y : Nat) : Prop := subB x y = false ∧ ∀ k, k < m → (x &&& y).testBit k = true → (l.any fun c => subB c (rm (x ||| y) k)) = true
/-- What is asked of two hyperplanes. -/
def hP (m : Nat) (l : List Nat) (x y : Nat) : Prop := subB x y = false ∧ ∀ k, k < m → (x ||| y).testBit k = false → (l.any fun c => subB (x &&& y ||| bt k) c) = true
theorem cP_no1 {_m : Nat} {l : List Nat} {i : Nat} (hi : i < l.length) (h0 : l.getD i 0 = 0) : ¬ CirAx l := fun h => h.ne _ (getD_mem hi) h0
theorem hP_no1 {m : Nat} {l : List Nat} {i : Nat} (hi : i < l.length) (h0 : l.getD i 0 = 2 ^ m - 1) : ¬ HypAx m l := fun h => h.ne _ (getD_mem hi) h0
theorem cP_no2 {m : Nat} {l : List Nat} (hf : Fam m l) {i j : Nat} (hi : i < l.length) (hj : j < l.length) (hne : i ≠ j) (h : ¬ cP m l (l.getD i 0) (l.getD j 0)) : ¬ CirAx l := fun hx => h
  ⟨hx.anti _ (getD_mem hi) _ (getD_mem hj) (getD_apart hf.up hi hj hne), fun k _ hk => by
    rw [Nat.testBit_and, Bool.and_eq_true] at hk
    obtain ⟨c, h1, h2⟩ := hx.elim _ (getD_mem hi) _ (getD_mem hj) (getD_apart hf.up hi hj hne) k hk.1 hk.2
    exact List.any_eq_true.2 ⟨c, h1, h2⟩⟩
theorem hP_no2 {m : Nat} {l : List Nat} (hf : Fam m l) {i j : Nat} (hi : i < l.length) (hj : j < l.length) (hne : i ≠ j) (h : ¬ hP m l (l.getD i 0) (l.getD j 0)) : ¬ HypAx m l := fun hx => h
  ⟨hx.anti _ (getD_mem hi) _ (getD_mem hj) (getD_apart hf.up hi hj hne), fun k hk hb => by
    rw [Nat.testBit_or, Bool.or_eq_false_iff] at hb
    obtain ⟨c, h1, h2⟩ := hx.third _ (getD_mem hi) _ (getD_mem hj) (getD_apart hf.up hi hj hne) k hk hb.1 hb.2
    exact List.any_eq_true.2 ⟨c, h1, h2⟩⟩
theorem cP_yes {m : Nat} {l : List Nat} (hf : Fam m l) (h : ∀ i, i < l.length → l.getD i 0 ≠ 0 ∧ ∀ j, j < l.length → i ≠ j → cP m l (l.getD i 0) (l.getD j 0)) : CirAx l where
  ne := fun c hc => by obtain ⟨i, hi, rfl⟩ := mem_getD hc; exact (h i hi).1
  anti := fun a ha b hb hne => by
    obtain ⟨i, hi, rfl⟩ := mem_getD ha
    obtain ⟨j, hj, rfl⟩ := mem_getD hb
    exact ((h i hi).2 j hj (fun e => hne (by rw [e]))).1
  elim := fun a ha b hb hne k h1 h2 => by
    have hk := bit_lt (hf.lt _ ha) h1
    obtain ⟨i, hi, rfl⟩ := mem_getD ha
    obtain ⟨j, hj, rfl⟩ := mem_getD hb
    have := ((h i hi).2 j hj (fun e => hne (by rw [e]))).2 k hk (by rw [Nat.testBit_and, h1, h2]; rfl)
    rw [List.any_eq_true] at this
    obtain ⟨c, g1, g2⟩ := this
    exact ⟨c, g1, g2⟩
theorem hP_yes {m : Nat} {l : List Nat} (_hf : Fam m l) (h : ∀ i, i < l.length → l.getD i 0 ≠ 2 ^ m - 1 ∧ ∀ j, j < l.length → i ≠ j → hP m l (l.getD i 0) (l.getD j 0)) : HypAx m l where
  ne := fun c hc => by obtain ⟨i, hi, rfl⟩ := mem_getD hc; exact (h i hi).1
  anti := fun a ha b hb hne => by
    obtain ⟨i, hi, rfl⟩ := mem_getD ha
    obtain ⟨j, hj, rfl⟩ := mem_getD hb
    exact ((h i hi).2 j hj (fun e => hne (by rw [e]))).1
  third := fun a ha b hb hne k hk h1 h2 => by
    obtain ⟨i, hi, rfl⟩ := mem_getD ha
    obtain ⟨j, hj, rfl⟩ := mem_getD hb
    have := ((h i hi).2 j hj (fun e => hne (by rw [e]))).2 k hk (by rw [Nat.testBit_or, h1, h2]; rfl)
    rw [List.any_eq_true] at this
    obtain ⟨c, g1, g2⟩ := this
    exact ⟨c, g1, g2⟩
end Go.Proofs.Ythbldeloocmakaa
