/- A region that draws its order, whose operations read, or call what keeps all that lay: one walk of the text's order serves every order. -/
import Derived.Deep.QuietTactic
import Derived.BigQuiet
import Derived.Test.YtjnifcfcigcngaaIndQ
namespace Go.Proofs.Ytjnifcfcigcngaa
open Go.RowKit

/-- The worlds in which all that lay in w lies as it lay. -/
structure Later (w : World) where
  now : World
  kept : Below w.heap.size w now
theorem Later.on {w : World} (x : Later w) {w' : World} (h : Below x.now.heap.size x.now w') : ∃ y : Later w, w' = y.now := ⟨⟨w', x.kept.trans (h.mono x.kept.size)⟩, rfl⟩
instance (w : World) : Nonempty (Later w) := ⟨⟨w, Below.refl _ _⟩⟩
theorem region_later {P : Program} {id : Nat} {Q : Exit → Act → World → Prop} {a : Act} {w : World} {l : List Oper} (hm : P.follows .mixedOrders = true) (hB : Region.lexB .any l.toArray = true)
    (h : wpQuiet P l.toArray (fun w' => ∃ x : Later w, w' = x.now) (fun a' => ∀ w', (∃ x : Later w, w' = x.now) → Q .normal a' w') l a) : (Code.region id l.toArray true).wp P Q a w :=
  wp_region_quiet (C := fun w' => ∃ x : Later w, w' = x.now) hm hB ⟨⟨_, (Below.refl _ _).drew⟩, rfl⟩ (by simpa using h)
end Go.Proofs.Ytjnifcfcigcngaa
