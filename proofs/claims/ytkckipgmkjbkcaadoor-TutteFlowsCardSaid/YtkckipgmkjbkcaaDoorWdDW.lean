/- One number of a row of one's own is put. -/
import Derived.Test.YtkckipgmkjbkcaaDoorOrdBQ
import Derived.Test.YtkckipgmkjbkcaaDoorWdCW
import Derived.Deep.CutRange
import Derived.Deep.DeepCutAuto
import Derived.Laws.BytesArg
namespace Go.Proofs.YtkckipgmkjbkcaaDoor
open Go.RowKit

/-- One number of a row is put. -/
theorem Own.put {B : Nat} {W : World} {g n c j x : Nat} {L : List Nat} (h : Own B W (.slice (some ⟨g, 0, none⟩) n c) L) (_hj : j < L.length) : Own B (W.setCell ⟨g, j, none⟩ (.int .i64 (x : Nat))) (.slice (some ⟨g, 0, none⟩) n c) (L.set j x) := by
  have hlen := h.len
  obtain ⟨h0, h1⟩ := h
  rcases h1 with ⟨hv, _⟩ | ⟨g', cap, cur, hv, hg, hh, hn, hm, hs, ht⟩
  · cases hv
  · simp only [Value.slice.injEq, Option.some.injEq, Addr.mk.injEq, and_true] at hv
    obtain ⟨rfl, rfl, rfl⟩ := hv
    rw [Nat.mul_one] at hs ht
    refine ⟨by simp [V], .inr ⟨g, c, cur.set! j (.int .i64 (x : Nat)), by simp, hg, ?_, by simpa using hn, hm, by rw [Nat.mul_one]; simpa using hs, ?_⟩⟩
    · obtain ⟨hlt, hk⟩ := Array.getElem?_eq_some_iff.1 hh
      simp only [World.setCell, Array.getElem?_modify, ↓reduceIte, hh, Option.map_some]
      rfl
    · rw [Nat.mul_one, List.length_set]
      simp only [Array.set!_eq_setIfInBounds, Array.toList_setIfInBounds, List.take_set, ht]
      unfold V
      rw [List.map_set]
theorem Own.frozenAt {B : Nat} {W : World} {g n c j : Nat} {L : List Nat} (h : Own B W (.slice (some ⟨g, 0, none⟩) n c) L) : W.frozen? ⟨g, j, none⟩ = false := by
  obtain ⟨h0, h1⟩ := h
  rcases h1 with ⟨hv, _⟩ | ⟨g', cap, cur, hv, hg, hh, _⟩
  · cases hv
  · simp only [Value.slice.injEq, Option.some.injEq, Addr.mk.injEq, and_true] at hv
    obtain ⟨rfl, rfl, rfl⟩ := hv
    simp [World.frozen?, hh]
end Go.Proofs.YtkckipgmkjbkcaaDoor

namespace Go.Proofs.YtkckipgmkjbkcaaDoor
open Go.RowKit Go.Lib

/-- A block of T bytes. -/
structure TblU (g : Nat) (w : World) (T : Nat) (f : Nat → Nat) : Prop where
  cell : ∀ i, i < T → w.cell? ⟨g, i, none⟩ = some (.int .u8 (f i : Nat))
  frozen : ∀ i, i < T → w.frozen? ⟨g, i, none⟩ = false
  size : g < w.heap.size
theorem TblU.set {g : Nat} {w : World} {T : Nat} {f f' : Nat → Nat} (h : TblU g w T f) (j x : Nat) (hj : j < T) (hf : ∀ i, i < T → f' i = if j = i then x else f i) : TblU g (w.setCell ⟨g, j, none⟩ (.int .u8 (x : Nat))) T f' := by
  refine ⟨fun i hi => ?_, fun i hi => (World.frozen?_setCell _ _ _ _).trans (h.frozen i hi), by simpa using h.size⟩
  rw [hf i hi]
  by_cases e : j = i
  · subst e
    rw [World.cell?_setCell_same _ _ _ (h.cell j hj)]; simp
  · rw [World.cell?_setCell_other _ _ _ _ (by simp), h.cell i hi]
    simp [e]
theorem TblU.congr {g : Nat} {w : World} {T : Nat} {f f' : Nat → Nat} (h : TblU g w T f) (hf : ∀ i, i < T → f' i = f i) : TblU g w T f' := ⟨fun i hi => by rw [hf i hi]; exact h.cell i hi, h.frozen, h.size⟩
theorem TblU.drew {g : Nat} {w : World} {T : Nat} {f : Nat → Nat} (h : TblU g w T f) : TblU g w.drew T f := ⟨h.cell, h.frozen, h.size⟩
/-- turned round, k from either end -/
def rvF (T : Nat) (f : Nat → Nat) (k i : Nat) : Nat := if i < k ∨ T ≤ i + k then f (T - 1 - i) else f i
/-- A slice of bytes of the call's own. -/
def VU (l : List Nat) : List Value := l.map fun s : Nat => Value.int .u8 (s : Int)
theorem VU_len (l : List Nat) : (VU l).length = l.length := by simp [VU]
theorem VU_snoc (l : List Nat) (s : Nat) : VU (l ++ [s]) = VU l ++ [.int .u8 s] := by simp [VU]
theorem Tryd.infoByte : (Tryd.prog.info? 5).map (fun i => (i.zero, i.size, i.bytes)) = some (some (.int .u8 0), 1, 1) := by kernel_rfl
theorem Tryd.undBytes : Tryd.prog.underlying 64 = some (.slice 5) := by kernel_rfl
theorem Tryd.undByte : Tryd.prog.underlying 5 = some (.int .u8) := by kernel_rfl
theorem Tryd.undStr : Tryd.prog.underlying 9 = some .string := by kernel_rfl
def OwnU (B : Nat) (w : World) (v : Value) (l : List Nat) : Prop := w.ownsRow B 5 1 v l.length (VU l)
theorem OwnU.nil (B : Nat) (w : World) : OwnU B w (.slice none 0 0) [] := World.ownsRow_nil _ _ _ _
theorem OwnU.snoc {B : Nat} {w : World} {v : Value} {l : List Nat} {s : Nat} (h : w.ownsRow B 5 1 v (l.length + 1) (VU l ++ [.int .u8 s])) : OwnU B w v (l ++ [s]) := by
  unfold OwnU; rw [VU_snoc]; simpa using h
theorem OwnU.grown {B : Nat} {w wr w1 : World} {u : Value} {l : List Nat} {o : Obj} (hown : OwnU B wr u l) (hnx : Below B w wr) (hB : B ≤ wr.heap.size) (hg : (wr.alloc o).grownBy w1 u.ownBlock) : Below B w w1 :=
  (hnx.alloc hB o).grown hg (by simp; omega) (fun j hj => (World.ownsRow.lt hown j hj).1)
theorem OwnU.below {B : Nat} {w w' : World} {v : Value} {l : List Nat} (h : OwnU B w v l) (hb : Below w.heap.size w w') : OwnU B w' v l := by
  obtain ⟨h0, h1⟩ := h
  refine ⟨h0, h1.imp_right ?_⟩
  rintro ⟨g, cap, cur, hv, hg, hheap, hr⟩
  exact ⟨g, cap, cur, hv, hg, (hb.block g (Array.getElem?_eq_some_iff.1 hheap).1).trans hheap, hr⟩
theorem OwnU.tbl {B : Nat} {w : World} {v : Value} {l : List Nat} (h : OwnU B w v l) (hl : l ≠ []) : ∃ g cap, v = .slice (some ⟨g, 0, none⟩) l.length cap ∧ B ≤ g ∧ TblU g w l.length (fun i => l.getD i 0) := by
  have hlen : 0 < l.length := List.length_pos_iff.2 hl
  rcases Go.Joins.ownsRow_forms h with ⟨rfl, h0⟩ | ⟨g, cap, rfl⟩
  · omega
  · have hlt := World.ownsRow.lt h g rfl
    refine ⟨g, cap, rfl, hlt.1, fun i hi => ?_, fun i _ => ?_, hlt.2⟩
    · rw [World.ownsRow.cellAt h i (by omega)]
      simp [VU, List.getD, hi]
    · obtain ⟨h0, h1⟩ := h
      rcases h1 with ⟨hv, _⟩ | ⟨g', cap', cur, hv, hg, hh, _⟩
      · cases hv
      · simp only [Value.slice.injEq, Option.some.injEq, Addr.mk.injEq, and_true] at hv
        obtain ⟨rfl, -, rfl⟩ := hv
        simp [World.frozen?, hh]
/-- the digits of a number, the last one first -/
def dgs (u : Nat) : List Nat := if h : u < 10 then [u] else (u % 10) :: dgs (u / 10)
termination_by u
decreasing_by omega
theorem dgs_low {u : Nat} (h : u < 10) : dgs u = [u] := by rw [dgs, _root_.dif_pos h]
theorem dgs_high {u : Nat} (h : ¬ u < 10) : dgs u = (u % 10) :: dgs (u / 10) := by rw [dgs, _root_.dif_neg h]
/-- the text of a number -/
def decT (u : Nat) : List UInt8 := ((dgs u).map fun d => UInt8.ofNat (48 + d)).reverse
end Go.Proofs.YtkckipgmkjbkcaaDoor
