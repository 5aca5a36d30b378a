/- axioms.isIndependent, axioms.isCircuit. -/
import Derived.Deep.QuietTactic
import Derived.BigQuiet
import Derived.Test.YtjnifcfcigcngaaGiveW
namespace Go.Proofs.Ytjnifcfcigcngaa
open Go.RowKit Go.Shelf
attribute [local go_sem] Oper.semAt_some

/-- v is a slice that holds r's numbers of 0 to T - 1. -/
def RkAt (w : World) (v : Value) (T : Nat) (r : Nat → Nat) : Prop := ∃ b off cap, v = .slice (some ⟨b, off, none⟩) T cap ∧ b < w.heap.size ∧ ∀ i, i < T → w.cell? ⟨b, off + i, none⟩ = some (.int .i64 (r i : Nat))
theorem RkAt.below {w w' : World} {v : Value} {T : Nat} {r : Nat → Nat} (h : RkAt w v T r) (hb : Below w.heap.size w w') : RkAt w' v T r := by
  obtain ⟨b, off, cap, rfl, h1, h2⟩ := h
  exact ⟨b, off, cap, rfl, Nat.lt_of_lt_of_le h1 hb.size, fun i hi => (hb.cell (p := ⟨b, off + i, none⟩) h1).trans (h2 i hi)⟩

end Go.Proofs.Ytjnifcfcigcngaa
