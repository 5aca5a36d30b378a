/- axioms.RanksOfBoth. -/
import Derived.Test.YtpmpfnbgjgjlgabAxQ
namespace Go.Proofs.Ytpmpfnbgjgjlgab
open Go.RowKit

/-- What two matroids are answered, if one is none. -/
def chk2 (n : Int) (zs : List Int) (k : Int) (ys : List Int) : Int := if chkR n zs = 0 then chkR k ys else chkR n zs
def box2 (w : World) (n : Int) (v : Value) (k : Int) (u : Value) : World := (w.alloc (.cells #[.int .i64 n, v] 24)).alloc (.cells #[.int .i64 k, u] 24)
theorem box2_below (w : World) (n : Int) (v : Value) (k : Int) (u : Value) : Below w.heap.size w (box2 w n v k u) := ((Below.refl _ _).alloc (Nat.le_refl _) _).alloc (by simp) _
theorem box2_size (w : World) (n : Int) (v : Value) (k : Int) (u : Value) : (box2 w n v k u).heap.size = w.heap.size + 2 := by unfold box2; simp
theorem box2_blocks {w w2 : World} {n : Int} {v : Value} {k : Int} {u : Value} (hb2 : Below (box2 w n v k u).heap.size (box2 w n v k u) w2) :
    w2.heap[w.heap.size]? = some (.cells #[.int .i64 n, v] 24 (0, 0)) ∧ w2.heap[w.heap.size + 1]? = some (.cells #[.int .i64 k, u] 24 (0, 0)) := by
  have hs := box2_size w n v k u
  refine ⟨(hb2.block _ (by omega)).trans ?_, (hb2.block _ (by omega)).trans ?_⟩
  · unfold box2
    rw [Below.heap_alloc _ _ _ (by simp)]
    exact World.alloc_heap_new w _
  · unfold box2
    have := World.alloc_heap_new (w.alloc (.cells #[.int .i64 n, v] 24)) (.cells #[.int .i64 k, u] 24)
    simpa using this
theorem cells2 {w : World} {b : Nat} {x y : Value} {t : TypeId} (h : w.heap[b]? = some (.cells #[x, y] t (0, 0))) : w.cell? ⟨b, 0, none⟩ = some x ∧ w.cell? ⟨b, 1, none⟩ = some y := by
  refine ⟨?_, ?_⟩ <;> simp [World.cell?, h]
end Go.Proofs.Ytpmpfnbgjgjlgab
