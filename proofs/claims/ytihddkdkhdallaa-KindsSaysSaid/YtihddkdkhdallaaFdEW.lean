/- field.noughts, field.clearColumn. -/
import Derived.Test.YtihddkdkhdallaaFdBQ
import Derived.Test.YtihddkdkhdallaaSingW
import Derived.Test.YtihddkdkhdallaaTZQ
import Derived.Test.YtihddkdkhdallaaKLfQ
import Derived.Lib.SliceRun
namespace Go.Proofs.Ytihddkdkhdallaa
open Go.RowKit

/-- The world when noughts begins to lay its rows: the box of the result, the rows' block, the box of x. -/
def nulW (w : World) (p : Int) (N c : Nat) : World := (((w.alloc (.cells #[.int .i64 0, .int .i64 0, .slice none 0 0] 27)).alloc (.cells (madeCells #[.slice none 0 0] N) 32)).alloc (.cells #[.int .i64 p, .int .i64 c, .slice (some ⟨w.heap.size + 1, 0, none⟩) N N] 27))
theorem NulH.new (w : World) (p : Int) (N c : Nat) : NulH (nulW w p N c) w.heap.size N c 0 := by
  have e1 : (w.alloc (.cells #[.int .i64 0, .int .i64 0, .slice none 0 0] 27)).heap.size = w.heap.size + 1 := by simp
  have hb : Below (w.heap.size + 1 + 1) ((w.alloc (.cells #[.int .i64 0, .int .i64 0, .slice none 0 0] 27)).alloc (.cells (madeCells #[.slice none 0 0] N) 32)) (nulW w p N c) := (Below.refl _ _).alloc (by simp) _
  refine ⟨fun i hi => by omega, fun i _ hi => ?_, fun i => ?_, fun i hi => by omega, by simp [nulW]⟩
  · rw [hb.cell (p := ⟨w.heap.size + 1, i, none⟩) (by show w.heap.size + 1 < _; omega), World.cell?_alloc_at _ _ _ _ (by rw [e1])]
    simp [madeCells, hi, Nat.mod_one]
  · rw [froz_below hb (by omega)]
    exact World.frozen?_alloc_at _ _ _ _ (by rw [e1])
theorem nulW_below (w : World) (p : Int) (N c : Nat) : Below w.heap.size w (nulW w p N c) := (((Below.refl _ _).alloc (Nat.le_refl _) _).alloc (by simp) _).alloc (by simp; omega) _
theorem nulW_box (w : World) (p : Int) (N c : Nat) : (nulW w p N c).heap[w.heap.size + 1 + 1]? = some (.cells #[.int .i64 p, .int .i64 c, .slice (some ⟨w.heap.size + 1, 0, none⟩) N N] 27 (0, 0)) ∧ (nulW w p N c).heap[w.heap.size]? = some (.cells #[.int .i64 0, .int .i64 0, .slice none 0 0] 27 (0, 0)) := by
  constructor
  · have := World.alloc_heap_new ((w.alloc (.cells #[.int .i64 0, .int .i64 0, .slice none 0 0] 27)).alloc (.cells (madeCells #[.slice none 0 0] N) 32)) (.cells #[.int .i64 p, .int .i64 c, .slice (some ⟨w.heap.size + 1, 0, none⟩) N N] 27)
    rwa [show ((w.alloc (.cells #[.int .i64 0, .int .i64 0, .slice none 0 0] 27)).alloc (.cells (madeCells #[.slice none 0 0] N) 32)).heap.size = w.heap.size + 1 + 1 by simp] at this
  · have hb : Below (w.heap.size + 1) (w.alloc (.cells #[.int .i64 0, .int .i64 0, .slice none 0 0] 27)) (nulW w p N c) := ((Below.refl _ _).alloc (by simp) _).alloc (by simp) _
    exact (hb.block _ (by omega)).trans (World.alloc_heap_new w _)
theorem three_frozen {W : World} {b : Nat} {x y z : Value} {t : TypeId} (h : W.heap[b]? = some (.cells #[x, y, z] t (0, 0))) : W.frozen? ⟨b, 0, none⟩ = false ∧ W.frozen? ⟨b, 1, none⟩ = false ∧ W.frozen? ⟨b, 2, none⟩ = false := by
  refine ⟨?_, ?_, ?_⟩ <;> simp [World.frozen?, h]
theorem set_three {W : World} {b : Nat} {x y z x' y' z' : Value} {t : TypeId} (h : W.heap[b]? = some (.cells #[x, y, z] t (0, 0))) : (((W.setCell ⟨b, 0, none⟩ x').setCell ⟨b, 1, none⟩ y').setCell ⟨b, 2, none⟩ z').heap[b]? = some (.cells #[x', y', z'] t (0, 0)) := by
  simp only [World.setCell, Array.getElem?_modify, ↓reduceIte, h, Option.map_some]
  rfl
theorem save_three (w : World) (b : Nat) (x y z : Value) : Save (fun k => k = b) w (((w.setCell ⟨b, 0, none⟩ x).setCell ⟨b, 1, none⟩ y).setCell ⟨b, 2, none⟩ z) := ((save_cell w b 0 x).trans (save_cell _ b 1 y)).trans (save_cell _ b 2 z)
end Go.Proofs.Ytihddkdkhdallaa

namespace Go.Proofs.Ytihddkdkhdallaa
open Go.RowKit

end Go.Proofs.Ytihddkdkhdallaa

namespace Go.Proofs.Ytihddkdkhdallaa
open Go.RowKit

def VZ (l : List Int) : List Value := l.map (Value.int .i64)
theorem VZ_len (l : List Int) : (VZ l).length = l.length := by simp [VZ]
theorem VZ_snoc (l : List Int) (s : Int) : VZ (l ++ [s]) = VZ l ++ [.int .i64 s] := by simp [VZ]
/-- v is a slice of the call's own, of elements of type t, that holds l. -/
def OwnZ (t : TypeId) (B : Nat) (w : World) (v : Value) (l : List Int) : Prop := w.ownsRow B t 1 v l.length (VZ l)
theorem OwnZ.nil (t : TypeId) (B : Nat) (w : World) : OwnZ t B w (.slice none 0 0) [] := World.ownsRow_nil _ _ _ _
theorem OwnZ.snoc {t : TypeId} {B : Nat} {w : World} {v : Value} {l : List Int} {s : Int} (h : w.ownsRow B t 1 v (l.length + 1) (VZ l ++ [.int .i64 s])) : OwnZ t B w v (l ++ [s]) := by
  unfold OwnZ; rw [VZ_snoc]; simpa using h
theorem OwnZ.grown {t : TypeId} {B : Nat} {w wr w1 : World} {u : Value} {l : List Int} {o : Obj} (hown : OwnZ t B wr u l) (hnx : Below B w wr) (hB : B ≤ wr.heap.size) (hg : (wr.alloc o).grownBy w1 u.ownBlock) : Below B w w1 :=
  (hnx.alloc hB o).grown hg (by simp; omega) (fun j hj => (World.ownsRow.lt hown j hj).1)
theorem OwnZ.below {t : TypeId} {B : Nat} {w w' : World} {v : Value} {l : List Int} (h : OwnZ t B w v l) (hb : Below w.heap.size w w') : OwnZ t B w' v l := by
  obtain ⟨h0, h1⟩ := h
  refine ⟨h0, h1.imp_right ?_⟩
  rintro ⟨g, cap, cur, hv, hg, hheap, hr⟩
  have hlt : g < w.heap.size := by
    rcases Nat.lt_or_ge g w.heap.size with h | h
    · exact h
    · rw [Array.getElem?_eq_none h] at hheap; cases hheap
  exact ⟨g, cap, cur, hv, hg, (hb.block g hlt).trans hheap, hr⟩
theorem OwnZ.mono {t : TypeId} {B B' : Nat} {w : World} {v : Value} {l : List Int} (h : OwnZ t B w v l) (hb : B' ≤ B) : OwnZ t B' w v l := Go.Joins.ownsRow_le h hb
theorem OwnZ.ints {t : TypeId} {B : Nat} {w : World} {v : Value} {l : List Int} (h : OwnZ t B w v l) (hl : l.length ≤ 17592186044416) : Ints w v l := by
  rcases Go.Joins.ownsRow_forms h with ⟨rfl, h0⟩ | ⟨g, cap, rfl⟩
  · have : l = [] := List.length_eq_zero_iff.1 h0
    subst this
    exact ⟨none, 0, rfl, by simp, fun h => by simp at h⟩
  · refine ⟨_, cap, rfl, hl, fun hn => ⟨g, 0, rfl, ?_, fun i hi => ?_⟩⟩
    · exact (World.ownsRow.lt h g rfl).2
    · rw [Nat.zero_add, World.ownsRow.cellAt h i (by omega)]
      simp [VZ, List.getD, hi]
end Go.Proofs.Ytihddkdkhdallaa

namespace Go.Proofs.Ytihddkdkhdallaa
open Go.RowKit

theorem OwnZ.tblZ {t : TypeId} {B : Nat} {w : World} {v : Value} {l : List Int} (h : OwnZ t B w v l) (hl : 0 < l.length) : ∃ g cap, v = .slice (some ⟨g, 0, none⟩) l.length cap ∧ B ≤ g ∧ TblZ g w l.length (fun i => l.getD i 0) := by
  have hh := h
  obtain ⟨h0, h1⟩ := h
  rcases h1 with ⟨hv, h2⟩ | ⟨g, cap, cur, hv, hg, hheap, hr⟩
  · omega
  · subst hv
    refine ⟨g, cap, rfl, hg, fun i hi => ?_, fun i => by simp [World.frozen?, hheap], ?_⟩
    · rw [World.ownsRow.cellAt hh i (by omega)]
      simp [VZ, List.getD, hi]
    · rcases Nat.lt_or_ge g w.heap.size with h | h
      · exact h
      · rw [Array.getElem?_eq_none h] at hheap; cases hheap
/-- The numbers of a column, from row d on. -/
def colFrom (f : Nat → Nat → Int) (a d N : Nat) : List Int := (List.range (N - d)).map fun i => f (d + i) a
end Go.Proofs.Ytihddkdkhdallaa
