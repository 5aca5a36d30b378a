/- axioms.canTakeOne, axioms.canGiveAll. -/
import Derived.Test.YtpdfaenjmjphpaaQuietQ
import Derived.Deep.QuietTactic
import Derived.BigQuiet
namespace Go.Proofs.Ytpdfaenjmjphpaa
open Go.RowKit Go.Shelf
attribute [local go_sem] Oper.semAt_some

/-- A block of 256 bools. -/
def Marks (w : World) (b : Nat) (p : Nat → Bool) : Prop := ∀ i, i < 256 → w.cell? ⟨b, i, none⟩ = some (.bool (p i))
theorem Marks.lt {w : World} {b : Nat} {p : Nat → Bool} (h : Marks w b p) : b < w.heap.size := World.block_lt_of_cell? w _ (h 0 (by omega))
theorem Marks.below {w w' : World} {b B : Nat} {p : Nat → Bool} (h : Marks w b p) (hb : Below B w w') (hB : b < B) : Marks w' b p := fun i hi => (hb.cell (p := ⟨b, i, none⟩) hB).trans (h i hi)
/-- Can s take one of those that are offered? -/
def takeB (p : Nat → Bool) (s o : Nat) : Bool := (els o).any fun i => p (s ||| bt i)

end Go.Proofs.Ytpdfaenjmjphpaa

namespace Go.Proofs.Ytpdfaenjmjphpaa
open Go.RowKit Go.Shelf
attribute [local go_sem] Oper.semAt_some

def giveB (p : Nat → Bool) (a b : Nat) : Bool := (els (dif a b)).all fun x => takeB p (dif a (bt x)) (dif b a)

end Go.Proofs.Ytpdfaenjmjphpaa

namespace Go.Proofs.Ytpdfaenjmjphpaa
open Go.RowKit Go.Shelf
attribute [local go_sem] Oper.semAt_some

/-- v is a slice that holds r's numbers of 0 to T - 1. -/
def RkAt (w : World) (v : Value) (T : Nat) (r : Nat → Nat) : Prop := ∃ b off cap, v = .slice (some ⟨b, off, none⟩) T cap ∧ b < w.heap.size ∧ ∀ i, i < T → w.cell? ⟨b, off + i, none⟩ = some (.int .i64 (r i : Nat))
theorem RkAt.below {w w' : World} {v : Value} {T : Nat} {r : Nat → Nat} (h : RkAt w v T r) (hb : Below w.heap.size w w') : RkAt w' v T r := by
  obtain ⟨b, off, cap, rfl, h1, h2⟩ := h
  exact ⟨b, off, cap, rfl, Nat.lt_of_lt_of_le h1 hb.size, fun i hi => (hb.cell (p := ⟨b, off + i, none⟩) h1).trans (h2 i hi)⟩

end Go.Proofs.Ytpdfaenjmjphpaa
