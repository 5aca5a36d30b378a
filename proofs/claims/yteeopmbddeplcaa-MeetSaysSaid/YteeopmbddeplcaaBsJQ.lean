/- What stays while a law of two matroids runs. -/
import Derived.Test.YteeopmbddeplcaaAlkQ
namespace Go.Proofs.Yteeopmbddeplcaa
open Go.RowKit

/-- What stays while the law runs: the two that were handed in. -/
def BaseJ (w W : World) (n : Int) (v : Value) (k : Int) (u : Value) : Prop := Below w.heap.size w W ∧ w.heap.size + 2 ≤ W.heap.size ∧ W.heap[w.heap.size]? = some (.cells #[.int .i64 n, v] 24 (0, 0)) ∧ W.heap[w.heap.size + 1]? = some (.cells #[.int .i64 k, u] 24 (0, 0))
theorem BaseJ.next {w W W' : World} {n : Int} {v : Value} {k : Int} {u : Value} (h : BaseJ w W n v k u) (hb : Below W.heap.size W W') : BaseJ w W' n v k u := by
  obtain ⟨h1, h2, h3, h4⟩ := h
  exact ⟨h1.trans (hb.mono h1.size), Nat.le_trans h2 hb.size, (hb.block w.heap.size (by omega)).trans h3, (hb.block (w.heap.size + 1) (by omega)).trans h4⟩
theorem BaseJ.cells {w W : World} {n : Int} {v : Value} {k : Int} {u : Value} (h : BaseJ w W n v k u) : W.cell? ⟨w.heap.size, 0, none⟩ = some (.int .i64 n) ∧ W.cell? ⟨w.heap.size, 1, none⟩ = some v ∧ W.cell? ⟨w.heap.size + 1, 0, none⟩ = some (.int .i64 k) ∧ W.cell? ⟨w.heap.size + 1, 1, none⟩ = some u := by
  obtain ⟨_, _, h3, h4⟩ := h
  exact ⟨(cells2 h3).1, (cells2 h3).2, (cells2 h4).1, (cells2 h4).2⟩
theorem uniQ_is (n k : Int) (zs ys : List Int) : uniQ n zs k ys = if chkR n zs = 0 then (if chkR k ys = 0 then (if n = k then 0 else 3) else chkR k ys) else chkR n zs := by
  unfold uniQ chk2
  by_cases h1 : chkR n zs = 0
  · rw [if_pos h1, if_pos h1]
    by_cases h2 : chkR k ys = 0
    · rw [if_pos h2, if_neg (fun h => h h2)]
    · rw [if_neg h2, if_pos h2]
  · rw [if_neg h1, if_neg h1, if_pos h1]
end Go.Proofs.Yteeopmbddeplcaa
