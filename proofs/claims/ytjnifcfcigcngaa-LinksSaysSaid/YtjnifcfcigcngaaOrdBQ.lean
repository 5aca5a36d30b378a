/- Which blocks may have changed. -/
import Derived.Test.YtjnifcfcigcngaaOrdAQ
namespace Go.Proofs.Ytjnifcfcigcngaa
open Go.RowKit

/-- All that was there is as it was, but for the blocks of which X holds. -/
structure Save (X : Nat → Prop) (w w' : World) : Prop where
  os : w'.os = w.os
  tape : w'.tape = w.tape
  output : w'.output = w.output
  size : w.heap.size ≤ w'.heap.size
  block : ∀ k, k < w.heap.size → ¬ X k → w'.heap[k]? = w.heap[k]?
theorem Save.refl (X : Nat → Prop) (w : World) : Save X w w := ⟨rfl, rfl, rfl, Nat.le_refl _, fun _ _ _ => rfl⟩
theorem Save.andThen {X Y : Nat → Prop} {a b c : World} (h : Save X a b) (k : Save Y b c) (hY : ∀ i, i < a.heap.size → Y i → X i) : Save X a c :=
  ⟨k.os.trans h.os, k.tape.trans h.tape, k.output.trans h.output, Nat.le_trans h.size k.size, fun i hi hx => (k.block i (Nat.lt_of_lt_of_le hi h.size) fun hy => hx (hY i hi hy)).trans (h.block i hi hx)⟩
theorem Save.trans {X : Nat → Prop} {a b c : World} (h : Save X a b) (k : Save X b c) : Save X a c := h.andThen k fun _ _ h => h
theorem Save.mono {X Y : Nat → Prop} {a b : World} (h : Save X a b) (hY : ∀ i, X i → Y i) : Save Y a b := ⟨h.os, h.tape, h.output, h.size, fun i hi hx => h.block i hi fun h => hx (hY i h)⟩
theorem Save.of_below {X : Nat → Prop} {a b : World} (h : Below a.heap.size a b) : Save X a b := ⟨h.os, h.tape, h.output, h.size, fun i hi _ => h.block i hi⟩
theorem Save.of_grown {X : Nat → Prop} {a b : World} {row : Option Nat} (h : a.grownBy b row) (hr : ∀ k, row = some k → X k) : Save X a b := ⟨h.os, h.tape, h.output, h.size, fun i hi hx => h.block i hi fun e => hx (hr i e.symm)⟩
theorem Save.alloc {X : Nat → Prop} {a b : World} (h : Save X a b) (o : Obj) : Save X a (b.alloc o) := h.trans (Save.of_below ((Below.refl _ _).alloc (Nat.le_refl _) o))
theorem Save.drew {X : Nat → Prop} {a b : World} (h : Save X a b) : Save X a b.drew := ⟨h.os, h.tape, h.output, h.size, h.block⟩
theorem Save.setCell {X : Nat → Prop} {a b : World} (h : Save X a b) {p : Addr} (hp : X p.block ∨ a.heap.size ≤ p.block) (u : Value) : Save X a (b.setCell p u) :=
  ⟨h.os, h.tape, h.output, by rw [show (b.setCell p u).heap.size = b.heap.size by simp [World.setCell]]; exact h.size, fun i hi hx => (Below.heap_setCell b p u i (fun e => by
    subst e
    rcases hp with hp | hp
    · exact hx hp
    · omega)).trans (h.block i hi hx)⟩
theorem Save.below {X : Nat → Prop} {B : Nat} {w0 a b : World} (h : Save X a b) (hb : Below B w0 a) (hB : B ≤ a.heap.size) (hX : ∀ k, X k → B ≤ k) : Below B w0 b :=
  hb.trans ⟨h.os, h.tape, h.output, h.size, fun i hi => h.block i (by omega) fun hx => by have := hX i hx; omega⟩
theorem Own.lt {B : Nat} {w : World} {g n c : Nat} {l : List Nat} (h : Own B w (.slice (some ⟨g, 0, none⟩) n c) l) : B ≤ g ∧ g < w.heap.size := World.ownsRow.lt h g rfl
theorem Own.len {B : Nat} {w : World} {g k c : Nat} {l : List Nat} (h : Own B w (.slice (some ⟨g, 0, none⟩) k c) l) : l.length = k := by
  obtain ⟨_, h1⟩ := h
  rcases h1 with ⟨hv, _⟩ | ⟨g', cap, cur, hv, _⟩
  · cases hv
  · simp only [Value.slice.injEq] at hv
    exact hv.2.1.symm
theorem Own.at {B : Nat} {w : World} {g k c i : Nat} {l : List Nat} (h : Own B w (.slice (some ⟨g, 0, none⟩) k c) l) (hi : i < l.length) : w.cell? ⟨g, i, none⟩ = some (.int .i64 (l.getD i 0 : Nat)) := by
  obtain rfl := h.len
  have h1 := World.ownsRow.cellAt h i (by rw [Nat.mul_one]; exact hi)
  rw [h1]
  simp [V, List.getD, hi]
theorem Own.save {X : Nat → Prop} {B : Nat} {a b : World} {g n c : Nat} {l : List Nat} (h : Own B a (.slice (some ⟨g, 0, none⟩) n c) l) (hs : Save X a b) (hg : ¬ X g) : Own B b (.slice (some ⟨g, 0, none⟩) n c) l := by
  have hlt := h.lt.2
  obtain ⟨h0, h1⟩ := h
  refine ⟨h0, h1.imp_right ?_⟩
  rintro ⟨g', cap, cur, hv, hg', hh, hr⟩
  simp only [Value.slice.injEq, Option.some.injEq, Addr.mk.injEq, and_true] at hv
  obtain ⟨rfl, rfl, rfl⟩ := hv
  exact ⟨_, _, cur, rfl, hg', (hs.block _ hlt hg).trans hh, hr⟩
theorem set_one {W : World} {b : Nat} {p q y : Value} {t : TypeId} (h : W.heap[b]? = some (.cells #[p, q] t (0, 0))) : (W.setCell ⟨b, 1, none⟩ y).heap[b]? = some (.cells #[p, y] t (0, 0)) := by
  obtain ⟨hlt, hk⟩ := Array.getElem?_eq_some_iff.1 h
  simp only [World.setCell, Array.getElem?_modify, ↓reduceIte, h, Option.map_some]
  rfl
theorem set_nil {W : World} {b : Nat} {p q y : Value} {t : TypeId} (h : W.heap[b]? = some (.cells #[p, q] t (0, 0))) : (W.setCell ⟨b, 0, none⟩ y).heap[b]? = some (.cells #[y, q] t (0, 0)) := by
  obtain ⟨hlt, hk⟩ := Array.getElem?_eq_some_iff.1 h
  simp only [World.setCell, Array.getElem?_modify, ↓reduceIte, h, Option.map_some]
  rfl
theorem imgs_lt {n : Nat} : ∀ (k : Nat) (p : List Nat), p.length = k → (∀ x ∈ p, x < n) → ∀ y ∈ imgs p, y < 2 ^ n
  | 0, p, h, _, y, hy => by
    rw [List.length_eq_zero_iff] at h
    subst h
    rw [show imgs [] = [0] from rfl, List.mem_singleton] at hy
    rw [hy]
    exact Nat.two_pow_pos n
  | k + 1, p, h, hx, y, hy => by
    rcases snoc_cases (p := p) with rfl | ⟨q, x, rfl⟩
    · simp at h
    · have hq : q.length = k := by simpa using h
      have ih := imgs_lt k q hq fun z hz => hx z (by simp [hz])
      rw [imgs_snoc, List.mem_append, List.mem_map] at hy
      rcases hy with hy | ⟨z, hz, rfl⟩
      · exact ih y hy
      · exact Nat.or_lt_two_pow (ih z hz) (Nat.pow_lt_pow_right (by omega) (hx x (by simp)))
end Go.Proofs.Ytjnifcfcigcngaa
