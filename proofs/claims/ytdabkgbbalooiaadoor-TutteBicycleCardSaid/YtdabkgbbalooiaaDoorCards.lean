/-
  DERIVED. GIVEN WITH THE SEED: THE CARDS: each row of YtdabkgbbalooiaaDoorRows.lean that lists a variable, with what it lists TIED to the program's text (the seventh form; the later family's looks); each row that meets fmt, with fmt's text TOLD by the authors' own Lean function (tested against real Go, not proved from fmt's source: count such statements apart). THE CARD IS WHAT COUNTS. Prove the row's statement (the work); the ties are given (YtdabkgbbalooiaaDoorTie.lean); close each card by the builder's one call (the guide's Derived/Test/ToyasCard.lean, 'card_holds'). Laid BY PROGRAM, IN A SANDBOX (cutbox-door.mjs). By AI agents, Wed Nov 11 2026. No macro, syntax, notation, axiom, sorry.
-/
import Derived.Test.YtdabkgbbalooiaaDoorRows
import GoSem.ClaimSeven
namespace Go.Proofs.YtdabkgbbalooiaaDoor
namespace Rows

/-- THE TIED CARD OF 'rotakeep.TutteBicycle'. -/
def tutteBicycleCard : Claim7 := { stood := { row := tutteBicycleRow, standIns := [], harness := (true, "774c81267210bd8c8df39f6619303abae95f40e0fda8178013c977be632f195c"), looks := false }, kinds := [], alts := [], laidByText := true, laidKinds := [.data, .data, .data], laidTests := true, laidLooks := .later }
def TutteBicycleCardSaid : Prop := Claim7.holds Tryd.pinned (.plain (OpenSpec.ofChange tutteBicycleSpec)) tutteBicycleCard

/-- THE SECOND FORM's CARD OF 'rotakeep.TutteBicycle'. -/
def tutteBicycleUptoCard : Claim7 := { stood := { row := tutteBicycleUptoRow, standIns := [], harness := (true, "774c81267210bd8c8df39f6619303abae95f40e0fda8178013c977be632f195c"), looks := false }, kinds := [], alts := [], laidByText := true, laidKinds := [.data, .data, .data], laidTests := true, laidLooks := .later }
def TutteBicycleUptoCardSaid : Prop := Claim7.holds Tryd.pinned (.plain (OpenSpec.upto tutteBicycleSpec)) tutteBicycleUptoCard
end Rows
end Go.Proofs.YtdabkgbbalooiaaDoor
