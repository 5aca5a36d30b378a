/- axioms.canTakeOne, axioms.canGiveAll. -/
import Derived.Test.YtmbkjiglbgnamaaQuietQ
namespace Go.Proofs.Ytmbkjiglbgnamaa
open Go.RowKit Go.Shelf
attribute [local go_sem] Oper.semAt_some

/-- A block of 256 bools. -/
def Marks (w : World) (b : Nat) (p : Nat → Bool) : Prop := ∀ i, i < 256 → w.cell? ⟨b, i, none⟩ = some (.bool (p i))
theorem Marks.lt {w : World} {b : Nat} {p : Nat → Bool} (h : Marks w b p) : b < w.heap.size := World.block_lt_of_cell? w _ (h 0 (by omega))
theorem Marks.below {w w' : World} {b B : Nat} {p : Nat → Bool} (h : Marks w b p) (hb : Below B w w') (hB : b < B) : Marks w' b p := fun i hi => (hb.cell (p := ⟨b, i, none⟩) hB).trans (h i hi)
/-- Can s take one of those that are offered? -/
def takeB (p : Nat → Bool) (s o : Nat) : Bool := (els o).any fun i => p (s ||| bt i)

end Go.Proofs.Ytmbkjiglbgnamaa

namespace Go.Proofs.Ytmbkjiglbgnamaa
open Go.RowKit Go.Shelf
attribute [local go_sem] Oper.semAt_some

def giveB (p : Nat → Bool) (a b : Nat) : Bool := (els (dif a b)).all fun x => takeB p (dif a (bt x)) (dif b a)

end Go.Proofs.Ytmbkjiglbgnamaa
