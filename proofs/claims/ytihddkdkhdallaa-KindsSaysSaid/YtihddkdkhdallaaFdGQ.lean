/- field.reduced: the walk. -/
import Derived.Test.YtihddkdkhdallaaFdFQ
namespace Go.Proofs.Ytihddkdkhdallaa
open Go.RowKit

def rowF (R : List (List Int)) (i r : Nat) : Int := (R.getD i []).getD r 0
/-- The world when reduced begins to clone rows: the box of x, the box of the result, the rows' block. -/
def redW (w : World) (p : Int) (c : Nat) (v : Value) (N : Nat) : World := (((w.alloc (.cells #[.int .i64 p, .int .i64 c, v] 27)).alloc (.cells #[.int .i64 0, .int .i64 0, .slice none 0 0] 27)).alloc (.cells (madeCells #[.slice none 0 0] N) 32))
theorem redW_ok (w : World) (p : Int) (c : Nat) (v : Value) (N : Nat) : (redW w p c v N).heap.size = w.heap.size + 3 ∧ Below w.heap.size w (redW w p c v N) ∧ (redW w p c v N).heap[w.heap.size]? = some (.cells #[.int .i64 p, .int .i64 c, v] 27 (0, 0)) ∧ (redW w p c v N).heap[w.heap.size + 1]? = some (.cells #[.int .i64 0, .int .i64 0, .slice none 0 0] 27 (0, 0)) ∧ ∀ f, ClnH (redW w p c v N) (w.heap.size + 1 + 1) N c (w.heap.size + 3) 0 (fun _ => 0) (fun _ => 0) f := by
  have e1 : (w.alloc (.cells #[.int .i64 p, .int .i64 c, v] 27)).heap.size = w.heap.size + 1 := by simp
  have e2 : ((w.alloc (.cells #[.int .i64 p, .int .i64 c, v] 27)).alloc (.cells #[.int .i64 0, .int .i64 0, .slice none 0 0] 27)).heap.size = w.heap.size + 1 + 1 := by simp
  have b1 : Below (w.heap.size + 1) (w.alloc (.cells #[.int .i64 p, .int .i64 c, v] 27)) (redW w p c v N) := ((Below.refl _ _).alloc (by omega) _).alloc (by simp) _
  have b2 : Below (w.heap.size + 1 + 1) ((w.alloc (.cells #[.int .i64 p, .int .i64 c, v] 27)).alloc (.cells #[.int .i64 0, .int .i64 0, .slice none 0 0] 27)) (redW w p c v N) := (Below.refl _ _).alloc (by omega) _
  refine ⟨by simp [redW], (((Below.refl _ _).alloc (Nat.le_refl _) _).alloc (by simp) _).alloc (by simp; omega) _, (b1.block _ (by omega)).trans (World.alloc_heap_new w _), ?_, fun f => ⟨fun i hi => by omega, fun i _ hi => ?_, fun i => ?_, fun _ i hi => by omega, fun _ i j hi => by omega, by simp [redW]⟩⟩
  · have := World.alloc_heap_new (w.alloc (.cells #[.int .i64 p, .int .i64 c, v] 27)) (.cells #[.int .i64 0, .int .i64 0, .slice none 0 0] 27)
    rw [e1] at this
    exact (b2.block _ (by omega)).trans this
  · unfold redW
    rw [World.cell?_alloc_at _ _ _ _ (by rw [e2])]
    simp [madeCells, hi, Nat.mod_one]
  · unfold redW
    exact World.frozen?_alloc_at _ _ _ _ (by rw [e2])
theorem gau_zero (p : Int) (N : Nat) (f : Nat → Nat → Int) : gau p N f 0 = (0, f) := rfl
theorem gau_miss {p : Int} {N a : Nat} {f : Nat → Nat → Int} (h : nxtM (gau p N f a).2 a (gau p N f a).1 N = none) : gau p N f (a + 1) = gau p N f a := by
  show gauS p N a (gau p N f a) = _
  unfold gauS
  rw [h]
theorem gau_hit {p : Int} {N a i : Nat} {f : Nat → Nat → Int} (h : nxtM (gau p N f a).2 a (gau p N f a).1 N = some i) : gau p N f (a + 1) = ((gau p N f a).1 + 1, clrM p (gau p N f a).1 a (swpM (gau p N f a).1 ((gau p N f a).1 + i) (gau p N f a).2)) := by
  show gauS p N a (gau p N f a) = _
  unfold gauS
  rw [h]
end Go.Proofs.Ytihddkdkhdallaa
