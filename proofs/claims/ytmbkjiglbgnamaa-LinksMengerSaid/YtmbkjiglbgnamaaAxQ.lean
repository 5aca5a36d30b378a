/- The calls of package axioms that tell families, ranks and closures; rotakeep.two. -/
import Derived.Test.YtmbkjiglbgnamaaFamsQ
namespace Go.Proofs.Ytmbkjiglbgnamaa
open Go.RowKit

theorem rk_small {m : Nat} {l : List Nat} (hm : m ≤ 8) (hf : Fam m l) : ∀ i, rk l i ≤ 8 := rk_le8 l (hf.lt256 hm)
/-- A literal slice. -/
theorem litsAt (w : World) (l : List Nat) (h : l.length ≤ 17592186044416 := by decide) : Ints (w.alloc (.cells (V l).toArray 3)) (.slice (some ⟨w.heap.size, 0, none⟩) l.length l.length) (N l) := by
  refine ⟨_, _, by rw [N_len], by rw [N_len]; exact h, fun _ => ⟨w.heap.size, 0, rfl, by simp, fun i hi => ?_⟩⟩
  rw [N_len] at hi
  rw [World.cell?_alloc_at _ _ _ _ rfl, N_getD, Nat.zero_add]
  simp [V, hi, List.getD]







end Go.Proofs.Ytmbkjiglbgnamaa
