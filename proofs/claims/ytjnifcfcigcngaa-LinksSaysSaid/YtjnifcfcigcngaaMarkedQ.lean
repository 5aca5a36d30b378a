/- A block of 256 truths of the call's own. -/
import Derived.Test.YtjnifcfcigcngaaOwnQ
namespace Go.Proofs.Ytjnifcfcigcngaa
open Go.RowKit

/-- The marks of the call's own: a block of 256 truths. -/
structure Marked (B : Nat) (w : World) (m : Nat → Bool) : Prop where
  cell : ∀ i, i < 256 → w.cell? ⟨B, i, none⟩ = some (.bool (m i))
  frozen : ∀ i, w.frozen? ⟨B, i, none⟩ = false
  size : B < w.heap.size
theorem Marked.set {B : Nat} {w : World} {m m' : Nat → Bool} (h : Marked B w m) (j : Nat) (hj : j < 256) (hm : ∀ i, m' i = (m i || j == i)) : Marked B (w.setCell ⟨B, j, none⟩ (.bool true)) m' := by
  refine ⟨fun i hi => ?_, fun i => (World.frozen?_setCell _ _ _ _).trans (h.frozen i), by simpa using h.size⟩
  rw [hm i]
  by_cases e : j = i
  · subst e
    rw [World.cell?_setCell_same _ _ _ (h.cell j hj)]; simp
  · rw [World.cell?_setCell_other _ _ _ _ (by simp), h.cell i hi]
    simp [e]
def Z256 : Array Value := Array.replicate 256 (.bool false)
theorem Z256_size : Z256.size = 256 := by unfold Z256; simp
theorem Z256_ne : ¬ Z256 = #[] := fun h => by have := Z256_size; rw [h] at this; simp at this
end Go.Proofs.Ytjnifcfcigcngaa
