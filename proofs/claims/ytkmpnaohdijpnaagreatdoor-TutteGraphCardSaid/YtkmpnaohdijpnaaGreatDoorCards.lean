/-
  DERIVED. GIVEN WITH THE SEED: THE CARDS: each row of YtkmpnaohdijpnaaGreatDoorRows.lean that lists a variable, with what it lists TIED to the program's text (the seventh form; the later family's looks); each row that meets fmt, with fmt's text TOLD by the authors' own Lean function (tested against real Go, not proved from fmt's source: count such statements apart). THE CARD IS WHAT COUNTS. Prove the row's statement (the work); the ties are given (YtkmpnaohdijpnaaGreatDoorTie.lean); close each card by the builder's one call (the guide's Derived/Test/ToyasCard.lean, 'card_holds'). Laid BY PROGRAM, IN A SANDBOX (cutbox-door.mjs). By AI agents, Wed Nov 11 2026. No macro, syntax, notation, axiom, sorry.
-/
import Derived.Test.YtkmpnaohdijpnaaGreatDoorRows
import GoSem.ClaimSeven
namespace Go.Proofs.YtkmpnaohdijpnaaGreatDoor
namespace Rows

/-- THE TIED CARD OF 'rotakeep.TutteGraph'. -/
def tutteGraphCard : Claim7 := { stood := { row := tutteGraphRow, standIns := [], harness := (true, "56da6c71b3bcf7c7e80557f762951f27836385a1c333bce566cc7cca86bc2496"), looks := false }, kinds := [], alts := [], laidByText := true, laidKinds := [.data, .data, .data], laidTests := true, laidLooks := .later }
def TutteGraphCardSaid : Prop := Claim7.holds Tryz.pinned (.plain (OpenSpec.ofChange tutteGraphSpec)) tutteGraphCard

/-- THE SECOND FORM's CARD OF 'rotakeep.TutteGraph'. -/
def tutteGraphUptoCard : Claim7 := { stood := { row := tutteGraphUptoRow, standIns := [], harness := (true, "56da6c71b3bcf7c7e80557f762951f27836385a1c333bce566cc7cca86bc2496"), looks := false }, kinds := [], alts := [], laidByText := true, laidKinds := [.data, .data, .data], laidTests := true, laidLooks := .later }
def TutteGraphUptoCardSaid : Prop := Claim7.holds Tryz.pinned (.plain (OpenSpec.upto tutteGraphSpec)) tutteGraphUptoCard
end Rows
end Go.Proofs.YtkmpnaohdijpnaaGreatDoor
