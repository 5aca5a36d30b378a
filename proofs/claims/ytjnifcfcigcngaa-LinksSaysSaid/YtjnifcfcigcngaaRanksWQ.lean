/- axioms.ranks. -/
import Derived.Deep.QuietTactic
import Derived.BigQuiet
import Derived.Deep.RegionWith
import Derived.Deep.OwnRows
import Derived.Test.YtjnifcfcigcngaaIndQ
namespace Go.Proofs.Ytjnifcfcigcngaa
open Go.RowKit

/-- m is a matroid's value: n and a slice that holds bs. -/
def Mat (w : World) (m : Value) (n : Int) (zs : List Int) : Prop := ∃ v, m = .agg #[.int .i64 n, v] ∧ Ints w v zs
theorem Mat.below {w w' : World} {m : Value} {n : Int} {zs : List Int} (h : Mat w m n zs) (hb : Below w.heap.size w w') : Mat w' m n zs := by
  obtain ⟨v, rfl, hv⟩ := h
  exact ⟨v, rfl, hv.below hb⟩

/-- A block of T numbers. -/
structure Tbl (g : Nat) (w : World) (T : Nat) (f : Nat → Nat) : Prop where
  cell : ∀ i, i < T → w.cell? ⟨g, i, none⟩ = some (.int .i64 (f i : Nat))
  frozen : ∀ i, w.frozen? ⟨g, i, none⟩ = false
  size : g < w.heap.size
theorem Tbl.set {g : Nat} {w : World} {T : Nat} {f f' : Nat → Nat} (h : Tbl g w T f) (j x : Nat) (hj : j < T) (hf : ∀ i, i < T → f' i = if j = i then x else f i) : Tbl g (w.setCell ⟨g, j, none⟩ (.int .i64 (x : Nat))) T f' := by
  refine ⟨fun i hi => ?_, fun i => (World.frozen?_setCell _ _ _ _).trans (h.frozen i), by simpa using h.size⟩
  rw [hf i hi]
  by_cases e : j = i
  · subst e
    rw [World.cell?_setCell_same _ _ _ (h.cell j hj)]; simp
  · rw [World.cell?_setCell_other _ _ _ _ (by simp), h.cell i hi]
    simp [e]
theorem Tbl.congr {g : Nat} {w : World} {T : Nat} {f f' : Nat → Nat} (h : Tbl g w T f) (hf : ∀ i, i < T → f' i = f i) : Tbl g w T f' := ⟨fun i hi => by rw [hf i hi]; exact h.cell i hi, h.frozen, h.size⟩
theorem Tbl.drewN {g : Nat} {w : World} {T : Nat} {f : Nat → Nat} (h : Tbl g w T f) (n : Nat) : Tbl g (w.drewN n) T f := ⟨h.cell, h.frozen, h.size⟩
theorem Tbl.drew {g : Nat} {w : World} {T : Nat} {f : Nat → Nat} (h : Tbl g w T f) : Tbl g w.drew T f := ⟨h.cell, h.frozen, h.size⟩
theorem Tbl.new (w : World) (T : Nat) : Tbl w.heap.size (w.alloc (.cells (madeCells #[.int .i64 0] T) 3)) T (fun _ => 0) := by
  refine ⟨fun i hi => ?_, fun i => World.frozen?_alloc_at _ _ _ _ rfl, by simp⟩
  rw [World.cell?_alloc_at _ _ _ _ rfl]
  simp [madeCells, hi, Nat.mod_one]
theorem Tbl.rkAt {g : Nat} {w : World} {T cap : Nat} {f : Nat → Nat} (h : Tbl g w T f) : RkAt w (.slice (some ⟨g, 0, none⟩) T cap) T f := ⟨g, 0, cap, rfl, h.size, fun i hi => by rw [Nat.zero_add]; exact h.cell i hi⟩
/-- The rank by the first k bases. -/
def rkTo (l : List Nat) (k s : Nat) : Nat := rk (l.take k) s
theorem rkTo_succ {l : List Nat} {k : Nat} (h : k < l.length) (s : Nat) : rkTo l (k + 1) s = max (rkTo l k s) (pop (s &&& l.getD k 0)) := by
  unfold rkTo rk
  rw [take_snoc h, List.foldl_append]
  rfl
theorem rk_le8 (l : List Nat) (hl : ∀ s ∈ l, s < 256) (s : Nat) : rk l s ≤ 8 := by
  rcases fold_at (fun b => pop (s &&& b)) l 0 with g | ⟨b, hb, g⟩
  · unfold rk; omega
  · have := pop_le (s &&& b) (by rw [Nat.and_comm]; exact and_lt (hl b hb))
    unfold rk
    omega

end Go.Proofs.Ytjnifcfcigcngaa
