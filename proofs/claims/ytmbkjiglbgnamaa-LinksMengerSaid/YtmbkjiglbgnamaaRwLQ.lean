/- join.ranksWithoutLoops. -/
import Derived.Test.YtmbkjiglbgnamaaAxQ
import Derived.Test.YtmbkjiglbgnamaaPlainAll
import Derived.Test.YtmbkjiglbgnamaaWholeQ
namespace Go.Proofs.Ytmbkjiglbgnamaa
open Go.RowKit Go.Shelf
attribute [local go_sem] Oper.semAt_some

theorem two_cellsT {w : World} {b : Nat} {x y : Value} {t : TypeId} (h : w.heap[b]? = some (.cells #[x, y] t (0, 0))) : w.cell? ⟨b, 0, none⟩ = some x := by simp [World.cell?, h]
theorem one_cellT {w : World} {b : Nat} {x : Value} {t : TypeId} (h : w.heap[b]? = some (.cells #[x] t (0, 0))) : w.cell? ⟨b, 0, none⟩ = some x ∧ w.frozen? ⟨b, 0, none⟩ = false := by simp [World.cell?, World.frozen?, h]
/-- Is there a loop? -/
def loopB (m : Nat) (r : Nat → Nat) : Bool := (els (2 ^ m - 1)).any fun i => r (bt i) == 0
theorem el_full {m : Nat} (hm : m ≤ 8) (x : El (2 ^ m - 1)) : bt x.1 < 2 ^ m := by
  have := (mem_els (lt256 hm (full_lt m))).1 x.2
  rw [full_bit] at this
  unfold bt
  exact Nat.pow_lt_pow_right (by omega) (by simpa using this)
def RwlEnds (w : World) (m : Nat) (l : List Nat) (e : Ending) (w' : World) : Prop := ((loopB m (rk l) = false ∧ ∃ r, e = .returned (.tuple #[r, .int .i64 0]) ∧ RkAt w' r (2 ^ m) (rk l)) ∨ (loopB m (rk l) = true ∧ e = .returned (.tuple #[.slice none 0 0, .int .i64 5]))) ∧ Below w.heap.size w w'
theorem loop_free {m : Nat} {l : List Nat} (hm : m ≤ 8) (hb : Bas l) : loopB m (rk l) = false → NoLoop m (rk l) := fun h => by
  refine noLoop_of (hb.rkOn m) fun i hi e => ?_
  have hin : i ∈ els (2 ^ m - 1) := (mem_els (lt256 hm (full_lt m))).2 (by rw [full_bit]; simpa using hi)
  have : loopB m (rk l) = true := List.any_eq_true.2 ⟨i, hin, by unfold bt; rw [e]; rfl⟩
  rw [h] at this
  cases this
end Go.Proofs.Ytmbkjiglbgnamaa
