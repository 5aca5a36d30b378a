/- axioms.isIndependent, axioms.isCircuit. -/
import Derived.Deep.QuietTactic
import Derived.BigQuiet
import Derived.Test.YtlmpeacgjafcjaaGiveQ
namespace Go.Proofs.Ytlmpeacgjafcjaa
open Go.RowKit Go.Shelf
attribute [local go_sem] Oper.semAt_some

/-- v is a slice that holds r's numbers of 0 to T - 1. -/
def RkAt (w : World) (v : Value) (T : Nat) (r : Nat → Nat) : Prop := ∃ b off cap, v = .slice (some ⟨b, off, none⟩) T cap ∧ b < w.heap.size ∧ ∀ i, i < T → w.cell? ⟨b, off + i, none⟩ = some (.int .i64 (r i : Nat))
theorem RkAt.below {w w' : World} {v : Value} {T : Nat} {r : Nat → Nat} (h : RkAt w v T r) (hb : Below w.heap.size w w') : RkAt w' v T r := by
  obtain ⟨b, off, cap, rfl, h1, h2⟩ := h
  exact ⟨b, off, cap, rfl, Nat.lt_of_lt_of_le h1 hb.size, fun i hi => (hb.cell (p := ⟨b, off + i, none⟩) h1).trans (h2 i hi)⟩

end Go.Proofs.Ytlmpeacgjafcjaa

namespace Go.Proofs.Ytlmpeacgjafcjaa
open Go.RowKit

/-- The worlds in which all that lay in w lies as it lay. -/
structure Later (w : World) where
  now : World
  kept : Below w.heap.size w now
theorem Later.on {w : World} (x : Later w) {w' : World} (h : Below x.now.heap.size x.now w') : ∃ y : Later w, w' = y.now := ⟨⟨w', x.kept.trans (h.mono x.kept.size)⟩, rfl⟩
instance (w : World) : Nonempty (Later w) := ⟨⟨w, Below.refl _ _⟩⟩
theorem region_later {P : Program} {id : Nat} {Q : Exit → Act → World → Prop} {a : Act} {w : World} {l : List Oper} (hm : P.follows .mixedOrders = true) (hB : Region.lexB .any l.toArray = true)
    (h : wpQuiet P l.toArray (fun w' => ∃ x : Later w, w' = x.now) (fun a' => ∀ w', (∃ x : Later w, w' = x.now) → Q .normal a' w') l a) : (Code.region id l.toArray true).wp P Q a w :=
  wp_region_quiet (C := fun w' => ∃ x : Later w, w' = x.now) hm hB ⟨⟨_, (Below.refl _ _).drew⟩, rfl⟩ (by simpa using h)
end Go.Proofs.Ytlmpeacgjafcjaa
