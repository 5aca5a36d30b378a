/-
  DERIVED. GIVEN WITH THE SEED: THE CARDS: each row of YtelcpiekomhfbaaDoorRows.lean that lists a variable, with what it lists TIED to the program's text (the seventh form; the later family's looks); each row that meets fmt, with fmt's text TOLD by the authors' own Lean function (tested against real Go, not proved from fmt's source: count such statements apart). THE CARD IS WHAT COUNTS. Prove the row's statement (the work); the ties are given (YtelcpiekomhfbaaDoorTie.lean); close each card by the builder's one call (the guide's Derived/Test/ToyasCard.lean, 'card_holds'). Laid BY PROGRAM, IN A SANDBOX (cutbox-door.mjs). By AI agents, Wed Nov 11 2026. No macro, syntax, notation, axiom, sorry.
-/
import Derived.Test.YtelcpiekomhfbaaDoorRows
import GoSem.ClaimSeven
namespace Go.Proofs.YtelcpiekomhfbaaDoor
namespace Rows

/-- THE TIED CARD OF 'rotakeep.TutteDual'. -/
def tutteDualCard : Claim7 := { stood := { row := tutteDualRow, standIns := [], harness := (true, "077dac124a5683822d2f2860559dd1e90f3281bd4ac1279e3c0abbf44cb1ef44"), looks := false }, kinds := [], alts := [], laidByText := true, laidKinds := [.data, .data, .data], laidTests := true, laidLooks := .later }
def TutteDualCardSaid : Prop := Claim7.holds Tryd.pinned (.plain (OpenSpec.ofChange tutteDualSpec)) tutteDualCard

/-- THE SECOND FORM's CARD OF 'rotakeep.TutteDual'. -/
def tutteDualUptoCard : Claim7 := { stood := { row := tutteDualUptoRow, standIns := [], harness := (true, "077dac124a5683822d2f2860559dd1e90f3281bd4ac1279e3c0abbf44cb1ef44"), looks := false }, kinds := [], alts := [], laidByText := true, laidKinds := [.data, .data, .data], laidTests := true, laidLooks := .later }
def TutteDualUptoCardSaid : Prop := Claim7.holds Tryd.pinned (.plain (OpenSpec.upto tutteDualSpec)) tutteDualUptoCard
end Rows
end Go.Proofs.YtelcpiekomhfbaaDoor
