/- minors.without: Delete, Contract. -/
import Derived.Test.YtgkkemlemnlchaaWholeQ
import Derived.Test.YtgkkemlemnlchaaWithIndQ
import Derived.Test.YtgkkemlemnlchaaAxQ
namespace Go.Proofs.Ytgkkemlemnlchaa
open Go.RowKit

/-- The blocks of without: the matroid, the base, the result. -/
def boxW (w : World) (n : Int) (v : Value) (b : Int) : World := ((w.alloc (.cells #[.int .i64 n, v] 33)).alloc (.cells #[.int .i64 b] 3)).alloc (.cells #[.int .i64 0, .slice none 0 0] 33)
theorem boxW_below (w : World) (n : Int) (v : Value) (b : Int) : Below w.heap.size w (boxW w n v b) := (((Below.refl _ _).alloc (Nat.le_refl _) _).alloc (by simp) _).alloc (by simp; omega) _
theorem boxW_size (w : World) (n : Int) (v : Value) (b : Int) : (boxW w n v b).heap.size = w.heap.size + 3 := by unfold boxW; simp
theorem boxW_blocks {w w2 : World} {n : Int} {v : Value} {b : Int} (hb2 : Below (boxW w n v b).heap.size (boxW w n v b) w2) :
    w2.heap[w.heap.size]? = some (.cells #[.int .i64 n, v] 33 (0, 0)) ∧ Boxed w2 (w.heap.size + 1) 3 (.int .i64 b) ∧ w2.heap[w.heap.size + 1 + 1]? = some (.cells #[.int .i64 0, .slice none 0 0] 33 (0, 0)) := by
  have hs := boxW_size w n v b
  refine ⟨(hb2.block _ (by omega)).trans ?_, (hb2.block _ (by omega)).trans ?_, (hb2.block _ (by omega)).trans ?_⟩
  · unfold boxW
    rw [Below.heap_alloc _ _ _ (by simp; omega), Below.heap_alloc _ _ _ (by simp)]
    exact World.alloc_heap_new w _
  · unfold boxW
    have := Boxed.new (w.alloc (.cells #[.int .i64 n, v] 33)) 3 (.int .i64 b)
    rw [World.size_alloc] at this
    exact this.alloc _
  · unfold boxW
    have := World.alloc_heap_new ((w.alloc (.cells #[.int .i64 n, v] 33)).alloc (.cells #[.int .i64 b] 3)) (.cells #[.int .i64 0, .slice none 0 0] 33)
    rwa [World.size_alloc, World.size_alloc] at this
theorem setR_ok {m s : Nat} (hm : m ≤ 8) (hs : s < 2 ^ m) : setR m s = 0 := by
  unfold setR
  have e : ((2 ^ m : Nat) : Int) = (2 : Int) ^ m := by simp
  rw [if_pos]
  refine ⟨by omega, by omega, by omega, ?_⟩
  rw [Int.toNat_natCast, ← e]
  omega

/-- What a call with an error hands back. -/
def BadM (w : World) (q : Int) (e : Ending) (w' : World) : Prop := e = .returned (.tuple #[.agg #[.int .i64 0, .slice none 0 0], .int .i64 q]) ∧ Below w.heap.size w w'
end Go.Proofs.Ytgkkemlemnlchaa
