/- join.ranksWithoutLoops. -/
import Derived.Test.YtgkkemlemnlchaaAxQ
import Derived.Test.YtgkkemlemnlchaaPlainAll
import Derived.Test.YtgkkemlemnlchaaWholeQ
namespace Go.Proofs.Ytgkkemlemnlchaa
open Go.RowKit Go.Shelf
attribute [local go_sem] Oper.semAt_some

def boxT (w : World) (n : Int) (v : Value) : World := ((w.alloc (.cells #[.int .i64 n, v] 33)).alloc (.cells #[.slice none 0 0] 25)).alloc (.cells #[.int .i64 0] 26)
theorem boxT_blocks {w w2 : World} {n : Int} {v : Value} (hb2 : Below (boxT w n v).heap.size (boxT w n v) w2) :
    w2.heap[w.heap.size]? = some (.cells #[.int .i64 n, v] 33 (0, 0)) ∧ w2.heap[w.heap.size + 1]? = some (.cells #[.slice none 0 0] 25 (0, 0)) ∧ w2.heap[w.heap.size + 1 + 1]? = some (.cells #[.int .i64 0] 26 (0, 0)) ∧ w.heap.size + 3 ≤ w2.heap.size := by
  have hs : (boxT w n v).heap.size = w.heap.size + 3 := by unfold boxT; simp
  refine ⟨(hb2.block _ (by omega)).trans ?_, (hb2.block _ (by omega)).trans ?_, (hb2.block _ (by omega)).trans ?_, by have := hb2.size; omega⟩
  · unfold boxT
    rw [Below.heap_alloc _ _ _ (by simp; omega), Below.heap_alloc _ _ _ (by simp)]
    exact World.alloc_heap_new w _
  · unfold boxT
    rw [Below.heap_alloc _ _ _ (by simp)]
    have := World.alloc_heap_new (w.alloc (.cells #[.int .i64 n, v] 33)) (.cells #[.slice none 0 0] 25)
    simpa using this
  · unfold boxT
    have := World.alloc_heap_new ((w.alloc (.cells #[.int .i64 n, v] 33)).alloc (.cells #[.slice none 0 0] 25)) (.cells #[.int .i64 0] 26)
    simpa using this
theorem two_cellsT {w : World} {b : Nat} {x y : Value} {t : TypeId} (h : w.heap[b]? = some (.cells #[x, y] t (0, 0))) : w.cell? ⟨b, 0, none⟩ = some x := by simp [World.cell?, h]
theorem one_cellT {w : World} {b : Nat} {x : Value} {t : TypeId} (h : w.heap[b]? = some (.cells #[x] t (0, 0))) : w.cell? ⟨b, 0, none⟩ = some x ∧ w.frozen? ⟨b, 0, none⟩ = false := by simp [World.cell?, World.frozen?, h]
/-- Is there a loop? -/
def loopB (m : Nat) (r : Nat → Nat) : Bool := (els (2 ^ m - 1)).any fun i => r (bt i) == 0
theorem el_full {m : Nat} (hm : m ≤ 8) (x : El (2 ^ m - 1)) : bt x.1 < 2 ^ m := by
  have := (mem_els (lt256 hm (full_lt m))).1 x.2
  rw [full_bit] at this
  unfold bt
  exact Nat.pow_lt_pow_right (by omega) (by simpa using this)
def RwlEnds (w : World) (m : Nat) (l : List Nat) (e : Ending) (w' : World) : Prop := ((loopB m (rk l) = false ∧ ∃ r, e = .returned (.tuple #[r, .int .i64 0]) ∧ RkAt w' r (2 ^ m) (rk l)) ∨ (loopB m (rk l) = true ∧ e = .returned (.tuple #[.slice none 0 0, .int .i64 5]))) ∧ Below w.heap.size w w'
theorem loop_free {m : Nat} {l : List Nat} (hm : m ≤ 8) (hb : Bas l) : loopB m (rk l) = false → NoLoop m (rk l) := fun h => by
  refine noLoop_of (hb.rkOn m) fun i hi e => ?_
  have hin : i ∈ els (2 ^ m - 1) := (mem_els (lt256 hm (full_lt m))).2 (by rw [full_bit]; simpa using hi)
  have : loopB m (rk l) = true := List.any_eq_true.2 ⟨i, hin, by unfold bt; rw [e]; rfl⟩
  rw [h] at this
  cases this
end Go.Proofs.Ytgkkemlemnlchaa
