/- A slice of numbers that a call has made; what an append makes of it. -/
import Derived.Test.YtjnifcfcigcngaaIntsQ
namespace Go.Proofs.Ytjnifcfcigcngaa
open Go.RowKit

theorem Try.infoInt : (Try.prog.info? 3).map (fun i => (i.zero, i.size, i.bytes)) = some (some (.int .i64 0), 1, 8) := by kernel_rfl
def V (l : List Nat) : List Value := l.map fun s : Nat => Value.int .i64 (s : Int)
theorem V_len (l : List Nat) : (V l).length = l.length := by simp [V]
theorem V_snoc (l : List Nat) (s : Nat) : V (l ++ [s]) = V l ++ [.int .i64 s] := by simp [V]
/-- v is a slice of the call's own that holds l. -/
def Own (B : Nat) (w : World) (v : Value) (l : List Nat) : Prop := w.ownsRow B 3 1 v l.length (V l)
theorem Own.nil (B : Nat) (w : World) : Own B w (.slice none 0 0) [] := World.ownsRow_nil _ _ _ _
theorem Own.snoc {B : Nat} {w : World} {v : Value} {l : List Nat} {s : Nat} (h : w.ownsRow B 3 1 v (l.length + 1) (V l ++ [.int .i64 s])) : Own B w v (l ++ [s]) := by
  unfold Own; rw [V_snoc]; simpa using h
theorem Own.grown {B : Nat} {w wr w1 : World} {u : Value} {l : List Nat} {o : Obj} (hown : Own B wr u l) (hnx : Below B w wr) (hB : B ≤ wr.heap.size) (hg : (wr.alloc o).grownBy w1 u.ownBlock) : Below B w w1 :=
  (hnx.alloc hB o).grown hg (by simp; omega) (fun j hj => (World.ownsRow.lt hown j hj).1)
theorem Own.below {B : Nat} {w w' : World} {v : Value} {l : List Nat} (h : Own B w v l) (hb : Below w.heap.size w w') : Own B w' v l := by
  obtain ⟨h0, h1⟩ := h
  refine ⟨h0, h1.imp_right ?_⟩
  rintro ⟨g, cap, cur, hv, hg, hheap, hr⟩
  have hlt : g < w.heap.size := by
    rcases Nat.lt_or_ge g w.heap.size with h | h
    · exact h
    · rw [Array.getElem?_eq_none h] at hheap; cases hheap
  exact ⟨g, cap, cur, hv, hg, (hb.block g hlt).trans hheap, hr⟩
theorem Own.mono {B B' : Nat} {w : World} {v : Value} {l : List Nat} (h : Own B w v l) (hb : B' ≤ B) : Own B' w v l := Go.Joins.ownsRow_le h hb
theorem Own.ints {B : Nat} {w : World} {v : Value} {l : List Nat} (h : Own B w v l) (hl : l.length ≤ 17592186044416) : Ints w v (N l) := by
  rcases Go.Joins.ownsRow_forms h with ⟨rfl, h0⟩ | ⟨g, cap, rfl⟩
  · have : l = [] := List.length_eq_zero_iff.1 h0
    subst this
    exact ⟨none, 0, rfl, by simp [N], fun h => by simp [N] at h⟩
  · refine ⟨_, cap, by rw [N_len], by rw [N_len]; exact hl, fun hn => ⟨g, 0, rfl, ?_, fun i hi => ?_⟩⟩
    · exact (World.ownsRow.lt h g rfl).2
    · rw [N_len] at hi
      rw [Nat.zero_add, World.ownsRow.cellAt h i (by omega), N_getD]
      simp [V, List.getD, hi]

theorem Tabbed.below {w w' : World} (_ : Tabbed w) (_ : Below w.heap.size w w') : Tabbed w' := trivial

theorem take_snoc {l : List Nat} {k : Nat} (h : k < l.length) : l.take (k + 1) = l.take k ++ [l.getD k 0] := by
  rw [List.take_add_one]; simp [List.getD, h]
theorem filter_hit {p : Nat → Bool} {l : List Nat} {k : Nat} (h : k < l.length) (hp : p (l.getD k 0) = true) : (l.take (k + 1)).filter p = (l.take k).filter p ++ [l.getD k 0] := by
  rw [take_snoc h, List.filter_append, List.filter_cons, hp]; simp
theorem filter_miss {p : Nat → Bool} {l : List Nat} {k : Nat} (h : k < l.length) (hp : p (l.getD k 0) = false) : (l.take (k + 1)).filter p = (l.take k).filter p := by
  rw [take_snoc h, List.filter_append, List.filter_cons, hp]; simp
theorem filter_le (p : Nat → Bool) (l : List Nat) (k : Nat) : ((l.take k).filter p).length ≤ k := Nat.le_trans (List.length_filter_le _ _) (List.length_take_le _ _)
theorem family_err (n : Int) (v : Value) (zs : List Int) (w : World) (h : Ints w v zs) (hf : famR n zs ≠ 0) : ∃ a cap, v = .slice a zs.length cap ∧ famR n zs = 1 := by
  obtain ⟨a, cap, hv, _⟩ := h
  refine ⟨a, cap, hv, ?_⟩
  unfold famR at *
  split at hf
  · exact absurd rfl hf
  · rename_i h; rw [if_neg h]
end Go.Proofs.Ytjnifcfcigcngaa
