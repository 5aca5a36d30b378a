/- Slices of numbers of whatever sign and type that a call has made. -/
import Derived.Test.YtcncaaeofcmefaaOwnW
import Derived.Test.YtcncaaeofcmefaaTZQ
namespace Go.Proofs.Ytcncaaeofcmefaa
open Go.RowKit

def VZ (l : List Int) : List Value := l.map (Value.int .i64)
theorem VZ_len (l : List Int) : (VZ l).length = l.length := by simp [VZ]
theorem VZ_snoc (l : List Int) (s : Int) : VZ (l ++ [s]) = VZ l ++ [.int .i64 s] := by simp [VZ]
/-- v is a slice of the call's own, of elements of type t, that holds l. -/
def OwnZ (t : TypeId) (B : Nat) (w : World) (v : Value) (l : List Int) : Prop := w.ownsRow B t 1 v l.length (VZ l)
theorem OwnZ.nil (t : TypeId) (B : Nat) (w : World) : OwnZ t B w (.slice none 0 0) [] := World.ownsRow_nil _ _ _ _
theorem OwnZ.snoc {t : TypeId} {B : Nat} {w : World} {v : Value} {l : List Int} {s : Int} (h : w.ownsRow B t 1 v (l.length + 1) (VZ l ++ [.int .i64 s])) : OwnZ t B w v (l ++ [s]) := by
  unfold OwnZ; rw [VZ_snoc]; simpa using h
theorem OwnZ.grown {t : TypeId} {B : Nat} {w wr w1 : World} {u : Value} {l : List Int} {o : Obj} (hown : OwnZ t B wr u l) (hnx : Below B w wr) (hB : B ≤ wr.heap.size) (hg : (wr.alloc o).grownBy w1 u.ownBlock) : Below B w w1 :=
  (hnx.alloc hB o).grown hg (by simp; omega) (fun j hj => (World.ownsRow.lt hown j hj).1)
theorem OwnZ.below {t : TypeId} {B : Nat} {w w' : World} {v : Value} {l : List Int} (h : OwnZ t B w v l) (hb : Below w.heap.size w w') : OwnZ t B w' v l := by
  obtain ⟨h0, h1⟩ := h
  refine ⟨h0, h1.imp_right ?_⟩
  rintro ⟨g, cap, cur, hv, hg, hheap, hr⟩
  have hlt : g < w.heap.size := by
    rcases Nat.lt_or_ge g w.heap.size with h | h
    · exact h
    · rw [Array.getElem?_eq_none h] at hheap; cases hheap
  exact ⟨g, cap, cur, hv, hg, (hb.block g hlt).trans hheap, hr⟩
theorem OwnZ.mono {t : TypeId} {B B' : Nat} {w : World} {v : Value} {l : List Int} (h : OwnZ t B w v l) (hb : B' ≤ B) : OwnZ t B' w v l := Go.Joins.ownsRow_le h hb
theorem OwnZ.ints {t : TypeId} {B : Nat} {w : World} {v : Value} {l : List Int} (h : OwnZ t B w v l) (hl : l.length ≤ 17592186044416) : Ints w v l := by
  rcases Go.Joins.ownsRow_forms h with ⟨rfl, h0⟩ | ⟨g, cap, rfl⟩
  · have : l = [] := List.length_eq_zero_iff.1 h0
    subst this
    exact ⟨none, 0, rfl, by simp, fun h => by simp at h⟩
  · refine ⟨_, cap, rfl, hl, fun hn => ⟨g, 0, rfl, ?_, fun i hi => ?_⟩⟩
    · exact (World.ownsRow.lt h g rfl).2
    · rw [Nat.zero_add, World.ownsRow.cellAt h i (by omega)]
      simp [VZ, List.getD, hi]
end Go.Proofs.Ytcncaaeofcmefaa
