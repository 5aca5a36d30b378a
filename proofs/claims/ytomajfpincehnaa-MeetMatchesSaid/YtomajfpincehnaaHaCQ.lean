/- hall.bar. -/
import Derived.Test.YtomajfpincehnaaHaBQ
import Derived.Test.YtomajfpincehnaaPlainAll
import Derived.Test.YtomajfpincehnaaQBelQ
import Derived.Test.YtomajfpincehnaaRwLW
namespace Go.Proofs.Ytomajfpincehnaa
open Go.RowKit

theorem rk_later {w w2 : World} {rb roff T rcap : Nat} {r : Nat → Nat} (h : RkAt w (.slice (some ⟨rb, roff, none⟩) T rcap) T r) (hb : Below w.heap.size w w2) {i : Nat} (hi : i < T) : ∀ x : Later w2, x.now.cell? ⟨rb, roff + i, none⟩ = some (.int .i64 (r i : Nat)) := fun x => by
  have hbx : Below w.heap.size w x.now := hb.trans (x.kept.mono hb.size)
  obtain ⟨b', off', cp', e, h1, h2⟩ := h.below hbx
  obtain ⟨⟨rfl, rfl⟩, rfl⟩ : (rb = b' ∧ roff = off') ∧ rcap = cp' := by simpa using e
  exact h2 _ hi
/-- What is answered of a bar. -/
def barE : Option Nat → Ending
  | some k => .returned (.tuple #[.int .i64 k, .int .i64 0])
  | none => .returned (.tuple #[.int .i64 0, .int .i64 5])
end Go.Proofs.Ytomajfpincehnaa
