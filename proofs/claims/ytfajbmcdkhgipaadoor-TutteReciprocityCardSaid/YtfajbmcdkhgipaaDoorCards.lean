/-
  DERIVED. GIVEN WITH THE SEED: THE CARDS: each row of YtfajbmcdkhgipaaDoorRows.lean that lists a variable, with what it lists TIED to the program's text (the seventh form; the later family's looks); each row that meets fmt, with fmt's text TOLD by the authors' own Lean function (tested against real Go, not proved from fmt's source: count such statements apart). THE CARD IS WHAT COUNTS. Prove the row's statement (the work); the ties are given (YtfajbmcdkhgipaaDoorTie.lean); close each card by the builder's one call (the guide's Derived/Test/ToyasCard.lean, 'card_holds'). Laid BY PROGRAM, IN A SANDBOX (cutbox-door.mjs). By AI agents, Wed Nov 11 2026. No macro, syntax, notation, axiom, sorry.
-/
import Derived.Test.YtfajbmcdkhgipaaDoorRows
import GoSem.ClaimSeven
namespace Go.Proofs.YtfajbmcdkhgipaaDoor
namespace Rows

/-- THE TIED CARD OF 'rotakeep.TutteReciprocity'. -/
def tutteReciprocityCard : Claim7 := { stood := { row := tutteReciprocityRow, standIns := [], harness := (true, "ff01c59edf95e70a1db0448d0979afac47a36299264ed3c316051b0b8c73115f"), looks := false }, kinds := [], alts := [], laidByText := true, laidKinds := [.data, .data, .data], laidTests := true, laidLooks := .later }
def TutteReciprocityCardSaid : Prop := Claim7.holds Tryd.pinned (.plain (OpenSpec.ofChange tutteReciprocitySpec)) tutteReciprocityCard

/-- THE SECOND FORM's CARD OF 'rotakeep.TutteReciprocity'. -/
def tutteReciprocityUptoCard : Claim7 := { stood := { row := tutteReciprocityUptoRow, standIns := [], harness := (true, "ff01c59edf95e70a1db0448d0979afac47a36299264ed3c316051b0b8c73115f"), looks := false }, kinds := [], alts := [], laidByText := true, laidKinds := [.data, .data, .data], laidTests := true, laidLooks := .later }
def TutteReciprocityUptoCardSaid : Prop := Claim7.holds Tryd.pinned (.plain (OpenSpec.upto tutteReciprocitySpec)) tutteReciprocityUptoCard
end Rows
end Go.Proofs.YtfajbmcdkhgipaaDoor
