/-
  DERIVED. GIVEN WITH THE SEED: THE CARDS: each row of YtgojjmfkominfaaDoorRows.lean that lists a variable, with what it lists TIED to the program's text (the seventh form; the later family's looks); each row that meets fmt, with fmt's text TOLD by the authors' own Lean function (tested against real Go, not proved from fmt's source: count such statements apart). THE CARD IS WHAT COUNTS. Prove the row's statement (the work); the ties are given (YtgojjmfkominfaaDoorTie.lean); close each card by the builder's one call (the guide's Derived/Test/ToyasCard.lean, 'card_holds'). Laid BY PROGRAM, IN A SANDBOX (cutbox-door.mjs). By AI agents, Wed Nov 11 2026. No macro, syntax, notation, axiom, sorry.
-/
import Derived.Test.YtgojjmfkominfaaDoorRows
import GoSem.ClaimSeven
namespace Go.Proofs.YtgojjmfkominfaaDoor
namespace Rows

/-- THE TIED CARD OF 'rotalaw.SetsSays'. -/
def setsSaysCard : Claim7 := { stood := { row := setsSaysRow, standIns := [], harness := (true, "57a2e4fc753966d07ccd01fb028e1590f6f5e2ddad19c62d76e5f441373593f0"), looks := false }, kinds := [], alts := [], laidByText := true, laidKinds := [.data, .data, .data], laidTests := true, laidLooks := .later }
def SetsSaysCardSaid : Prop := Claim7.holds Tryd.pinned (.plain (OpenSpec.ofChange setsSaysSpec)) setsSaysCard

/-- THE TIED CARD OF 'rotalaw.SetsPicks'. -/
def setsPicksCard : Claim7 := { stood := { row := setsPicksRow, standIns := [], harness := (true, "57a2e4fc753966d07ccd01fb028e1590f6f5e2ddad19c62d76e5f441373593f0"), looks := false }, kinds := [], alts := [], laidByText := true, laidKinds := [.data, .data], laidTests := true, laidLooks := .later }
def SetsPicksCardSaid : Prop := Claim7.holds Tryd.pinned (.plain (OpenSpec.ofChange setsPicksSpec)) setsPicksCard

/-- THE TIED CARD OF 'rotakeep.SetsBack'. -/
def setsBackCard : Claim7 := { stood := { row := setsBackRow, standIns := [], harness := (true, "57a2e4fc753966d07ccd01fb028e1590f6f5e2ddad19c62d76e5f441373593f0"), looks := false }, kinds := [], alts := [], laidByText := true, laidKinds := [.data, .data, .data], laidTests := true, laidLooks := .later }
def SetsBackCardSaid : Prop := Claim7.holds Tryd.pinned (.plain (OpenSpec.ofChange setsBackSpec)) setsBackCard

/-- THE TIED CARD OF 'rotakeep.SetsGale'. -/
def setsGaleCard : Claim7 := { stood := { row := setsGaleRow, standIns := [], harness := (true, "57a2e4fc753966d07ccd01fb028e1590f6f5e2ddad19c62d76e5f441373593f0"), looks := false }, kinds := [], alts := [], laidByText := true, laidKinds := [.data, .data], laidTests := true, laidLooks := .later }
def SetsGaleCardSaid : Prop := Claim7.holds Tryd.pinned (.plain (OpenSpec.ofChange setsGaleSpec)) setsGaleCard

/-- THE SECOND FORM's CARD OF 'rotalaw.SetsSays'. -/
def setsSaysUptoCard : Claim7 := { stood := { row := setsSaysUptoRow, standIns := [], harness := (true, "57a2e4fc753966d07ccd01fb028e1590f6f5e2ddad19c62d76e5f441373593f0"), looks := false }, kinds := [], alts := [], laidByText := true, laidKinds := [.data, .data, .data], laidTests := true, laidLooks := .later }
def SetsSaysUptoCardSaid : Prop := Claim7.holds Tryd.pinned (.plain (OpenSpec.upto setsSaysSpec)) setsSaysUptoCard

/-- THE SECOND FORM's CARD OF 'rotalaw.SetsPicks'. -/
def setsPicksUptoCard : Claim7 := { stood := { row := setsPicksUptoRow, standIns := [], harness := (true, "57a2e4fc753966d07ccd01fb028e1590f6f5e2ddad19c62d76e5f441373593f0"), looks := false }, kinds := [], alts := [], laidByText := true, laidKinds := [.data, .data], laidTests := true, laidLooks := .later }
def SetsPicksUptoCardSaid : Prop := Claim7.holds Tryd.pinned (.plain (OpenSpec.upto setsPicksSpec)) setsPicksUptoCard

/-- THE SECOND FORM's CARD OF 'rotakeep.SetsBack'. -/
def setsBackUptoCard : Claim7 := { stood := { row := setsBackUptoRow, standIns := [], harness := (true, "57a2e4fc753966d07ccd01fb028e1590f6f5e2ddad19c62d76e5f441373593f0"), looks := false }, kinds := [], alts := [], laidByText := true, laidKinds := [.data, .data, .data], laidTests := true, laidLooks := .later }
def SetsBackUptoCardSaid : Prop := Claim7.holds Tryd.pinned (.plain (OpenSpec.upto setsBackSpec)) setsBackUptoCard

/-- THE SECOND FORM's CARD OF 'rotakeep.SetsGale'. -/
def setsGaleUptoCard : Claim7 := { stood := { row := setsGaleUptoRow, standIns := [], harness := (true, "57a2e4fc753966d07ccd01fb028e1590f6f5e2ddad19c62d76e5f441373593f0"), looks := false }, kinds := [], alts := [], laidByText := true, laidKinds := [.data, .data], laidTests := true, laidLooks := .later }
def SetsGaleUptoCardSaid : Prop := Claim7.holds Tryd.pinned (.plain (OpenSpec.upto setsGaleSpec)) setsGaleUptoCard
end Rows
end Go.Proofs.YtgojjmfkominfaaDoor
