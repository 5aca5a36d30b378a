/- axioms.canTakeOne, axioms.canGiveAll. -/
import Derived.Test.YtihddkdkhdallaaQuietQ
import Derived.Deep.QuietTactic
import Derived.BigQuiet
import Derived.Deep.RegionWith
import Derived.Deep.OwnRows
namespace Go.Proofs.Ytihddkdkhdallaa
open Go.RowKit Go.Shelf
attribute [local go_sem] Oper.semAt_some

/-- A block of 256 bools. -/
def Marks (w : World) (b : Nat) (p : Nat → Bool) : Prop := ∀ i, i < 256 → w.cell? ⟨b, i, none⟩ = some (.bool (p i))
theorem Marks.lt {w : World} {b : Nat} {p : Nat → Bool} (h : Marks w b p) : b < w.heap.size := World.block_lt_of_cell? w _ (h 0 (by omega))
theorem Marks.below {w w' : World} {b B : Nat} {p : Nat → Bool} (h : Marks w b p) (hb : Below B w w') (hB : b < B) : Marks w' b p := fun i hi => (hb.cell (p := ⟨b, i, none⟩) hB).trans (h i hi)
/-- Can s take one of those that are offered? -/
def takeB (p : Nat → Bool) (s o : Nat) : Bool := (els o).any fun i => p (s ||| bt i)

end Go.Proofs.Ytihddkdkhdallaa

namespace Go.Proofs.Ytihddkdkhdallaa
open Go.RowKit Go.Shelf
attribute [local go_sem] Oper.semAt_some

def giveB (p : Nat → Bool) (a b : Nat) : Bool := (els (dif a b)).all fun x => takeB p (dif a (bt x)) (dif b a)

end Go.Proofs.Ytihddkdkhdallaa

namespace Go.Proofs.Ytihddkdkhdallaa
open Go.RowKit Go.Shelf
attribute [local go_sem] Oper.semAt_some

/-- v is a slice that holds r's numbers of 0 to T - 1. -/
def RkAt (w : World) (v : Value) (T : Nat) (r : Nat → Nat) : Prop := ∃ b off cap, v = .slice (some ⟨b, off, none⟩) T cap ∧ b < w.heap.size ∧ ∀ i, i < T → w.cell? ⟨b, off + i, none⟩ = some (.int .i64 (r i : Nat))
theorem RkAt.below {w w' : World} {v : Value} {T : Nat} {r : Nat → Nat} (h : RkAt w v T r) (hb : Below w.heap.size w w') : RkAt w' v T r := by
  obtain ⟨b, off, cap, rfl, h1, h2⟩ := h
  exact ⟨b, off, cap, rfl, Nat.lt_of_lt_of_le h1 hb.size, fun i hi => (hb.cell (p := ⟨b, off + i, none⟩) h1).trans (h2 i hi)⟩

end Go.Proofs.Ytihddkdkhdallaa

namespace Go.Proofs.Ytihddkdkhdallaa
open Go.RowKit

/-- m is a matroid's value: n and a slice that holds bs. -/
def Mat (w : World) (m : Value) (n : Int) (zs : List Int) : Prop := ∃ v, m = .agg #[.int .i64 n, v] ∧ Ints w v zs
theorem Mat.below {w w' : World} {m : Value} {n : Int} {zs : List Int} (h : Mat w m n zs) (hb : Below w.heap.size w w') : Mat w' m n zs := by
  obtain ⟨v, rfl, hv⟩ := h
  exact ⟨v, rfl, hv.below hb⟩

/-- A block of T numbers. -/
structure Tbl (g : Nat) (w : World) (T : Nat) (f : Nat → Nat) : Prop where
  cell : ∀ i, i < T → w.cell? ⟨g, i, none⟩ = some (.int .i64 (f i : Nat))
  frozen : ∀ i, w.frozen? ⟨g, i, none⟩ = false
  size : g < w.heap.size
theorem Tbl.set {g : Nat} {w : World} {T : Nat} {f f' : Nat → Nat} (h : Tbl g w T f) (j x : Nat) (hj : j < T) (hf : ∀ i, i < T → f' i = if j = i then x else f i) : Tbl g (w.setCell ⟨g, j, none⟩ (.int .i64 (x : Nat))) T f' := by
  refine ⟨fun i hi => ?_, fun i => (World.frozen?_setCell _ _ _ _).trans (h.frozen i), by simpa using h.size⟩
  rw [hf i hi]
  by_cases e : j = i
  · subst e
    rw [World.cell?_setCell_same _ _ _ (h.cell j hj)]; simp
  · rw [World.cell?_setCell_other _ _ _ _ (by simp), h.cell i hi]
    simp [e]
theorem Tbl.congr {g : Nat} {w : World} {T : Nat} {f f' : Nat → Nat} (h : Tbl g w T f) (hf : ∀ i, i < T → f' i = f i) : Tbl g w T f' := ⟨fun i hi => by rw [hf i hi]; exact h.cell i hi, h.frozen, h.size⟩
theorem Tbl.drewN {g : Nat} {w : World} {T : Nat} {f : Nat → Nat} (h : Tbl g w T f) (n : Nat) : Tbl g (w.drewN n) T f := ⟨h.cell, h.frozen, h.size⟩
theorem Tbl.drew {g : Nat} {w : World} {T : Nat} {f : Nat → Nat} (h : Tbl g w T f) : Tbl g w.drew T f := ⟨h.cell, h.frozen, h.size⟩
theorem Tbl.new (w : World) (T : Nat) : Tbl w.heap.size (w.alloc (.cells (madeCells #[.int .i64 0] T) 3)) T (fun _ => 0) := by
  refine ⟨fun i hi => ?_, fun i => World.frozen?_alloc_at _ _ _ _ rfl, by simp⟩
  rw [World.cell?_alloc_at _ _ _ _ rfl]
  simp [madeCells, hi, Nat.mod_one]
theorem Tbl.rkAt {g : Nat} {w : World} {T cap : Nat} {f : Nat → Nat} (h : Tbl g w T f) : RkAt w (.slice (some ⟨g, 0, none⟩) T cap) T f := ⟨g, 0, cap, rfl, h.size, fun i hi => by rw [Nat.zero_add]; exact h.cell i hi⟩
/-- The rank by the first k bases. -/
def rkTo (l : List Nat) (k s : Nat) : Nat := rk (l.take k) s
theorem rkTo_succ {l : List Nat} {k : Nat} (h : k < l.length) (s : Nat) : rkTo l (k + 1) s = max (rkTo l k s) (pop (s &&& l.getD k 0)) := by
  unfold rkTo rk
  rw [take_snoc h, List.foldl_append]
  rfl
theorem rk_le8 (l : List Nat) (hl : ∀ s ∈ l, s < 256) (s : Nat) : rk l s ≤ 8 := by
  rcases fold_at (fun b => pop (s &&& b)) l 0 with g | ⟨b, hb, g⟩
  · unfold rk; omega
  · have := pop_le (s &&& b) (by rw [Nat.and_comm]; exact and_lt (hl b hb))
    unfold rk
    omega

end Go.Proofs.Ytihddkdkhdallaa
