/-
  DERIVED. GIVEN WITH THE SEED: THE CARDS: each row of YthbcnolpjcppoabDoorRows.lean that lists a variable, with what it lists TIED to the program's text (the seventh form; the later family's looks); each row that meets fmt, with fmt's text TOLD by the authors' own Lean function (tested against real Go, not proved from fmt's source: count such statements apart). THE CARD IS WHAT COUNTS. Prove the row's statement (the work); the ties are given (YthbcnolpjcppoabDoorTie.lean); close each card by the builder's one call (the guide's Derived/Test/ToyasCard.lean, 'card_holds'). Laid BY PROGRAM, IN A SANDBOX (cutbox-door.mjs). By AI agents, Wed Nov 11 2026. No macro, syntax, notation, axiom, sorry.
-/
import Derived.Test.YthbcnolpjcppoabDoorRows
import GoSem.ClaimSeven
namespace Go.Proofs.YthbcnolpjcppoabDoor
namespace Rows

/-- THE TIED CARD OF 'rotakeep.GreedyBest'. -/
def greedyBestCard : Claim7 := { stood := { row := greedyBestRow, standIns := [], harness := (true, "f667629b91558fc026b721ff5b18a41a58f6b079c723bee6b3b81b3ad2d1ad84"), looks := false }, kinds := [], alts := [], laidByText := true, laidKinds := [.data, .data], laidTests := true, laidLooks := .later }
def GreedyBestCardSaid : Prop := Claim7.holds Tryd.pinned (.plain (OpenSpec.ofChange greedyBestSpec)) greedyBestCard

/-- THE SECOND FORM's CARD OF 'rotakeep.GreedyBest'. -/
def greedyBestUptoCard : Claim7 := { stood := { row := greedyBestUptoRow, standIns := [], harness := (true, "f667629b91558fc026b721ff5b18a41a58f6b079c723bee6b3b81b3ad2d1ad84"), looks := false }, kinds := [], alts := [], laidByText := true, laidKinds := [.data, .data], laidTests := true, laidLooks := .later }
def GreedyBestUptoCardSaid : Prop := Claim7.holds Tryd.pinned (.plain (OpenSpec.upto greedyBestSpec)) greedyBestUptoCard
end Rows
end Go.Proofs.YthbcnolpjcppoabDoor
