/-
  DERIVED. GIVEN WITH THE SEED: THE CARDS: each row of YtbjijdjffefafabDoorRows.lean that lists a variable, with what it lists TIED to the program's text (the seventh form; the later family's looks); each row that meets fmt, with fmt's text TOLD by the authors' own Lean function (tested against real Go, not proved from fmt's source: count such statements apart). THE CARD IS WHAT COUNTS. Prove the row's statement (the work); the ties are given (YtbjijdjffefafabDoorTie.lean); close each card by the builder's one call (the guide's Derived/Test/ToyasCard.lean, 'card_holds'). Laid BY PROGRAM, IN A SANDBOX (cutbox-door.mjs). By AI agents, Wed Nov 11 2026. No macro, syntax, notation, axiom, sorry.
-/
import Derived.Test.YtbjijdjffefafabDoorRows
import GoSem.ClaimSeven
namespace Go.Proofs.YtbjijdjffefafabDoor
namespace Rows

/-- THE TIED CARD OF 'rotakeep.SetsKruskal'. -/
def setsKruskalCard : Claim7 := { stood := { row := setsKruskalRow, standIns := [], harness := (true, "716ab6a564cce854f99784dc8d532e17d9bc495c33130c6811107939d60fb4ed"), looks := false }, kinds := [], alts := [], laidByText := true, laidKinds := [.data, .data], laidTests := true, laidLooks := .later }
def SetsKruskalCardSaid : Prop := Claim7.holds Tryd.pinned (.plain (OpenSpec.ofChange setsKruskalSpec)) setsKruskalCard

/-- THE SECOND FORM's CARD OF 'rotakeep.SetsKruskal'. -/
def setsKruskalUptoCard : Claim7 := { stood := { row := setsKruskalUptoRow, standIns := [], harness := (true, "716ab6a564cce854f99784dc8d532e17d9bc495c33130c6811107939d60fb4ed"), looks := false }, kinds := [], alts := [], laidByText := true, laidKinds := [.data, .data], laidTests := true, laidLooks := .later }
def SetsKruskalUptoCardSaid : Prop := Claim7.holds Tryd.pinned (.plain (OpenSpec.upto setsKruskalSpec)) setsKruskalUptoCard
end Rows
end Go.Proofs.YtbjijdjffefafabDoor
