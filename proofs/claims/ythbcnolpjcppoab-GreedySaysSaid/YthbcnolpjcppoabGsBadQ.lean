/- greedy.Ladder and greedy.Fundamental where something is wrong. -/
import Derived.Test.YthbcnolpjcppoabGrLQ
import Derived.Test.YthbcnolpjcppoabGrSQ
namespace Go.Proofs.Ythbcnolpjcppoab
open Go.RowKit

/-- The world when Fundamental's parameters are laid. -/
def boxF (w : World) (m b i : Int) (v : Value) : World := (((w.alloc (.cells #[.int .i64 m, v] 24)).alloc (.cells #[.int .i64 b] 3)).alloc (.cells #[.int .i64 i] 3)).alloc (.cells #[.int .i64 b] 3)
theorem boxF_is (w : World) (m b i : Int) (v : Value) : Below w.heap.size w (boxF w m b i v) ∧ (boxF w m b i v).heap.size = w.heap.size + 4 ∧ (boxF w m b i v).cell? ⟨w.heap.size, 0, none⟩ = some (.int .i64 m) ∧ (boxF w m b i v).cell? ⟨w.heap.size, 1, none⟩ = some v ∧ (boxF w m b i v).cell? ⟨w.heap.size + 1, 0, none⟩ = some (.int .i64 b) ∧ (boxF w m b i v).cell? ⟨w.heap.size + 1 + 1, 0, none⟩ = some (.int .i64 i) ∧ Ints (boxF w m b i v) (.slice (some ⟨w.heap.size + 1 + 1 + 1, 0, none⟩) 1 1) [b] := by
  have c0 := two_cells (World.alloc_heap_new w (.cells #[.int .i64 m, v] 24))
  have c1 := cellN (w.alloc (.cells #[.int .i64 m, v] 24)) (.int .i64 b) 3
  have c2 := cellN ((w.alloc (.cells #[.int .i64 m, v] 24)).alloc (.cells #[.int .i64 b] 3)) (.int .i64 i) 3
  have L := Ints.lit1 (((w.alloc (.cells #[.int .i64 m, v] 24)).alloc (.cells #[.int .i64 b] 3)).alloc (.cells #[.int .i64 i] 3)) b
  simp only [World.size_alloc] at c1 c2 L
  unfold boxF
  exact ⟨((((Below.refl _ w).alloc (Nat.le_refl _) _).alloc (by simp) _).alloc (by simp; omega) _).alloc (by simp; omega) _, by simp, cellA _ (cellA _ (cellA _ c0.1)), cellA _ (cellA _ (cellA _ c0.2.1)), cellA _ (cellA _ c1.1), cellA _ c2.1, L⟩
/-- Is i an element that b has not? -/
def outB (m b : Nat) (i : Int) : Bool := decide (0 ≤ i) && decide (i < (m : Int)) && !b.testBit i.toNat
end Go.Proofs.Ythbcnolpjcppoab
