/-
  DERIVED. GIVEN WITH THE SEED: THE CARDS: each row of YtkebhhpfnalbfabDoorRows.lean that lists a variable, with what it lists TIED to the program's text (the seventh form; the later family's looks); each row that meets fmt, with fmt's text TOLD by the authors' own Lean function (tested against real Go, not proved from fmt's source: count such statements apart). THE CARD IS WHAT COUNTS. Prove the row's statement (the work); the ties are given (YtkebhhpfnalbfabDoorTie.lean); close each card by the builder's one call (the guide's Derived/Test/ToyasCard.lean, 'card_holds'). Laid BY PROGRAM, IN A SANDBOX (cutbox-door.mjs). By AI agents, Wed Nov 11 2026. No macro, syntax, notation, axiom, sorry.
-/
import Derived.Test.YtkebhhpfnalbfabDoorRows
import GoSem.ClaimSeven
namespace Go.Proofs.YtkebhhpfnalbfabDoor
namespace Rows

/-- THE TIED CARD OF 'rotalaw.SetsPicks'. -/
def setsPicksCard : Claim7 := { stood := { row := setsPicksRow, standIns := [], harness := (true, "3ee033cc2e592bc20f695efd020b3d7b8b1d294d11a30ec7203dec9a5486bfb5"), looks := false }, kinds := [], alts := [], laidByText := true, laidKinds := [.data, .data], laidTests := true, laidLooks := .later }
def SetsPicksCardSaid : Prop := Claim7.holds Tryd.pinned (.plain (OpenSpec.ofChange setsPicksSpec)) setsPicksCard

/-- THE SECOND FORM's CARD OF 'rotalaw.SetsPicks'. -/
def setsPicksUptoCard : Claim7 := { stood := { row := setsPicksUptoRow, standIns := [], harness := (true, "3ee033cc2e592bc20f695efd020b3d7b8b1d294d11a30ec7203dec9a5486bfb5"), looks := false }, kinds := [], alts := [], laidByText := true, laidKinds := [.data, .data], laidTests := true, laidLooks := .later }
def SetsPicksUptoCardSaid : Prop := Claim7.holds Tryd.pinned (.plain (OpenSpec.upto setsPicksSpec)) setsPicksUptoCard
end Rows
end Go.Proofs.YtkebhhpfnalbfabDoor
