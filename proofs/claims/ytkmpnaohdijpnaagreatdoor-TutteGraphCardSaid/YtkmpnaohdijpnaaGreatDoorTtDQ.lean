/- tutte.Polynomial, tutte.Activities; rotalaw.Rows of rows of numbers. -/
import Derived.Test.YtkmpnaohdijpnaaGreatDoorTtCW
import Derived.Test.YtkmpnaohdijpnaaGreatDoorFlEW
namespace Go.Proofs.YtkmpnaohdijpnaaGreatDoor
open Go.RowKit

/-- v is a slice of N rows of M numbers each. -/
def RowsZ (w : World) (v : Value) (N M : Nat) (f : Nat → Nat → Int) : Prop := ∃ b off cap, v = .slice (some ⟨b, off, none⟩) N cap ∧ b < w.heap.size ∧ ∀ i, i < N → ∃ u, w.cell? ⟨b, off + i, none⟩ = some u ∧ RkZ w u M (f i)
theorem RowsZ.below {w w' : World} {v : Value} {N M : Nat} {f : Nat → Nat → Int} (h : RowsZ w v N M f) (hb : Below w.heap.size w w') : RowsZ w' v N M f := by
  obtain ⟨b, off, cap, rfl, h1, h2⟩ := h
  refine ⟨b, off, cap, rfl, Nat.lt_of_lt_of_le h1 hb.size, fun i hi => ?_⟩
  obtain ⟨u, h3, h4⟩ := h2 i hi
  exact ⟨u, (hb.cell (p := ⟨b, off + i, none⟩) h1).trans h3, h4.below hb⟩
theorem TblM.rows {g : Nat} {w : World} {N M cap : Nat} {f : Nat → Nat → Int} (h : TblM g w N M f) : RowsZ w (.slice (some ⟨g, 0, none⟩) N cap) N M f :=
  ⟨g, 0, cap, rfl, h.size, fun i hi => ⟨_, by rw [Nat.zero_add]; exact h.head i hi, (h.row i hi).rkZ⟩⟩
end Go.Proofs.YtkmpnaohdijpnaaGreatDoor
