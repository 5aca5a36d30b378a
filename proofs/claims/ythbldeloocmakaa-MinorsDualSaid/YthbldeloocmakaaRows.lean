/-
  No cell of these rows narrows 'for every input' (looked for: loops, veiled, ifaces, maps, wideKeys, modest, calm, conditions, laid).
  DERIVED. THE GIVEN ROWS OF THIS SEAT. 6 by the template 'for every input the law returns true; each argument reads behind the call as it read before'; 0 by the template 'total and deterministic' (their statements: YthbldeloocmakaaTotals.lean).
  GIVEN WITH THE SEED: the statements are not yours to turn. If you find one false, say at which input.
  Laid BY PROGRAM, IN A SANDBOX (cutbox-rows.mjs): the forced cells as the released guide's own fill.sh prints them over the translation 2a24db43ac5bb981… (all of the seat's roots in one cut). By AI agents, Wed Nov 11 2026. No macro, syntax, notation, axiom, sorry.
-/
import Derived.Test.YthbldeloocmakaaChecked
import GoSem.Claim
import GoSem.ClaimJoined
import GoSem.ClaimMapViews
import Derived.JoinedTies
import Derived.KernelRfl
namespace Go.Proofs.Ythbldeloocmakaa
/- THE CELL 'sum', in the pinned program and in every row, IS THE sha256 OF THE DUMP (.gsa) THAT YthbldeloocmakaaProg.lean LOADS. Nothing in Lean hashes anything: it is a label: what it is worth is what the hold of that sum in a sandbox is worth. -/
noncomputable def Try.pinned : Pinned := { name := "ythbldeloocmakaa", sum := "2a24db43ac5bb9817d9a6b847b804ebda57d7e0a59bb9b4f4583761c64ccfb1a", checked := Try.checked }
namespace Rows
def none {H : Type} : Left H := { results := [], args := [] }

/-- 'rotalaw.AxiomsSays': WHATEVER THE INPUT: true; the input reads as it did. -/
def axiomsSaysSpec : ChangeSpec := { name := "axiomsSays", fn := fun _ => fun
  | [d1, d2] => { results := [.lit (.bool true)], args := [d1, d2] }
  | _ => none }
def axiomsSaysRow : OpenClaim := { program := "ythbldeloocmakaa", sum := "2a24db43ac5bb9817d9a6b847b804ebda57d7e0a59bb9b4f4583761c64ccfb1a", func := "rota/rotalaw.AxiomsSays", spec := "axiomsSays", unfollowed := true, recurses := true, apart := false }
def AxiomsSaysSaid : Prop := axiomsSaysRow.holds Try.pinned (OpenSpec.ofChange axiomsSaysSpec)

/-- ITS FALSE NEIGHBOUR: 'it returns false'. Refute it at one input. -/
def axiomsSaysWrong : ChangeSpec := { name := "axiomsSays", fn := fun _ => fun
  | [d1, d2] => { results := [.lit (.bool false)], args := [d1, d2] }
  | _ => none }
def AxiomsSaysWrongFalsely : Prop := axiomsSaysRow.holds Try.pinned (OpenSpec.ofChange axiomsSaysWrong)

/-- 'rotalaw.AxiomsMakes': WHATEVER THE INPUT: true; the input reads as it did. -/
def axiomsMakesSpec : ChangeSpec := { name := "axiomsMakes", fn := fun _ => fun
  | [d1, d2, d3] => { results := [.lit (.bool true)], args := [d1, d2, d3] }
  | _ => none }
def axiomsMakesRow : OpenClaim := { program := "ythbldeloocmakaa", sum := "2a24db43ac5bb9817d9a6b847b804ebda57d7e0a59bb9b4f4583761c64ccfb1a", func := "rota/rotalaw.AxiomsMakes", spec := "axiomsMakes", unfollowed := true, recurses := true, apart := false }
def AxiomsMakesSaid : Prop := axiomsMakesRow.holds Try.pinned (OpenSpec.ofChange axiomsMakesSpec)

/-- ITS FALSE NEIGHBOUR: 'it returns false'. Refute it at one input. -/
def axiomsMakesWrong : ChangeSpec := { name := "axiomsMakes", fn := fun _ => fun
  | [d1, d2, d3] => { results := [.lit (.bool false)], args := [d1, d2, d3] }
  | _ => none }
def AxiomsMakesWrongFalsely : Prop := axiomsMakesRow.holds Try.pinned (OpenSpec.ofChange axiomsMakesWrong)

/-- 'rotakeep.AxiomsBack': WHATEVER THE INPUT: true; the input reads as it did. -/
def axiomsBackSpec : ChangeSpec := { name := "axiomsBack", fn := fun _ => fun
  | [d] => { results := [.lit (.bool true)], args := [d] }
  | _ => none }
def axiomsBackRow : OpenClaim := { program := "ythbldeloocmakaa", sum := "2a24db43ac5bb9817d9a6b847b804ebda57d7e0a59bb9b4f4583761c64ccfb1a", func := "rota/rotakeep.AxiomsBack", spec := "axiomsBack", unfollowed := true, recurses := true, apart := false }
def AxiomsBackSaid : Prop := axiomsBackRow.holds Try.pinned (OpenSpec.ofChange axiomsBackSpec)

/-- ITS FALSE NEIGHBOUR: 'it returns false'. Refute it at one input. -/
def axiomsBackWrong : ChangeSpec := { name := "axiomsBack", fn := fun _ => fun
  | [d] => { results := [.lit (.bool false)], args := [d] }
  | _ => none }
def AxiomsBackWrongFalsely : Prop := axiomsBackRow.holds Try.pinned (OpenSpec.ofChange axiomsBackWrong)

/-- 'rotakeep.AxiomsMeet': WHATEVER THE INPUT: true; the input reads as it did. -/
def axiomsMeetSpec : ChangeSpec := { name := "axiomsMeet", fn := fun _ => fun
  | [d] => { results := [.lit (.bool true)], args := [d] }
  | _ => none }
def axiomsMeetRow : OpenClaim := { program := "ythbldeloocmakaa", sum := "2a24db43ac5bb9817d9a6b847b804ebda57d7e0a59bb9b4f4583761c64ccfb1a", func := "rota/rotakeep.AxiomsMeet", spec := "axiomsMeet", unfollowed := true, recurses := true, apart := false }
def AxiomsMeetSaid : Prop := axiomsMeetRow.holds Try.pinned (OpenSpec.ofChange axiomsMeetSpec)

/-- ITS FALSE NEIGHBOUR: 'it returns false'. Refute it at one input. -/
def axiomsMeetWrong : ChangeSpec := { name := "axiomsMeet", fn := fun _ => fun
  | [d] => { results := [.lit (.bool false)], args := [d] }
  | _ => none }
def AxiomsMeetWrongFalsely : Prop := axiomsMeetRow.holds Try.pinned (OpenSpec.ofChange axiomsMeetWrong)

/-- 'rotakeep.MinorsDual': WHATEVER THE INPUT: true; the input reads as it did. -/
def minorsDualSpec : ChangeSpec := { name := "minorsDual", fn := fun _ => fun
  | [d1, d2] => { results := [.lit (.bool true)], args := [d1, d2] }
  | _ => none }
def minorsDualRow : OpenClaim := { program := "ythbldeloocmakaa", sum := "2a24db43ac5bb9817d9a6b847b804ebda57d7e0a59bb9b4f4583761c64ccfb1a", func := "rota/rotakeep.MinorsDual", spec := "minorsDual", unfollowed := true, recurses := true, apart := false }
def MinorsDualSaid : Prop := minorsDualRow.holds Try.pinned (OpenSpec.ofChange minorsDualSpec)

/-- ITS FALSE NEIGHBOUR: 'it returns false'. Refute it at one input. -/
def minorsDualWrong : ChangeSpec := { name := "minorsDual", fn := fun _ => fun
  | [d1, d2] => { results := [.lit (.bool false)], args := [d1, d2] }
  | _ => none }
def MinorsDualWrongFalsely : Prop := minorsDualRow.holds Try.pinned (OpenSpec.ofChange minorsDualWrong)

/-- 'rotakeep.MinorsFree': WHATEVER THE INPUT: true; the input reads as it did. -/
def minorsFreeSpec : ChangeSpec := { name := "minorsFree", fn := fun _ => fun
  | [d1, d2] => { results := [.lit (.bool true)], args := [d1, d2] }
  | _ => none }
def minorsFreeRow : OpenClaim := { program := "ythbldeloocmakaa", sum := "2a24db43ac5bb9817d9a6b847b804ebda57d7e0a59bb9b4f4583761c64ccfb1a", func := "rota/rotakeep.MinorsFree", spec := "minorsFree", unfollowed := true, recurses := true, apart := false }
def MinorsFreeSaid : Prop := minorsFreeRow.holds Try.pinned (OpenSpec.ofChange minorsFreeSpec)

/-- ITS FALSE NEIGHBOUR: 'it returns false'. Refute it at one input. -/
def minorsFreeWrong : ChangeSpec := { name := "minorsFree", fn := fun _ => fun
  | [d1, d2] => { results := [.lit (.bool false)], args := [d1, d2] }
  | _ => none }
def MinorsFreeWrongFalsely : Prop := minorsFreeRow.holds Try.pinned (OpenSpec.ofChange minorsFreeWrong)

/- THE SECOND FORM. 'bulk': how many values and letters a reading holds, each counted each time it is reached (what is shared counts as often as it is met; a slice's spare places count too). A statement '..UptoSaid' is the law's where the arguments, and the package variables that the reading takes, are together of bulk at most 1048576: NARROWER than '..Said'. Prove '..Said' where nothing that the law and all that it calls make is longer than what came in: it says more and counts as full. Else prove '..UptoSaid'. A law counts once. -/
mutual
def uptoBulk {H : Type} : DataW H → Nat
  | .lit (.string bytes) => bytes.length + 1
  | .lit _ => 1
  | .nil => 1
  | .ptr d => uptoBulk d + 1
  | .slice elems spare => uptoBulkAll elems + uptoBulkAll spare + 1
  | .agg parts => uptoBulkAll parts + 1
  | .iface _ d => uptoBulk d + 1
  | .map entries => uptoBulkEntries entries + 1
  | .held _ => 1
def uptoBulkAll {H : Type} : List (DataW H) → Nat
  | [] => 0
  | d :: r => uptoBulk d + uptoBulkAll r
def uptoBulkEntries {H : Type} : List (Lit × DataW H) → Nat
  | [] => 0
  | x :: r => uptoBulkEntry x + uptoBulkEntries r
def uptoBulkEntry {H : Type} : Lit × DataW H → Nat
  | (.string bytes, d) => bytes.length + uptoBulk d + 1
  | (_, d) => uptoBulk d + 1
 end
def uptoSmall : (H : Type) → List (DataW H) → Bool := fun _ ds => decide (uptoBulkAll ds ≤ 1048576)
def OpenSpec.upto (s : _root_.Go.ChangeSpec) : _root_.Go.OpenSpec := { _root_.Go.OpenSpec.ofChange s with cond := some uptoSmall }

/-- 'rotalaw.AxiomsSays', WHERE WHAT IT READS IS OF BULK AT MOST 1048576: true; the input reads as it did. -/
def axiomsSaysUptoRow : OpenClaim := { program := "ythbldeloocmakaa", sum := "2a24db43ac5bb9817d9a6b847b804ebda57d7e0a59bb9b4f4583761c64ccfb1a", func := "rota/rotalaw.AxiomsSays", spec := "axiomsSays", unfollowed := true, recurses := true, apart := false, narrowed := true }
def AxiomsSaysUptoSaid : Prop := axiomsSaysUptoRow.holds Try.pinned (OpenSpec.upto axiomsSaysSpec)

/-- 'rotalaw.AxiomsMakes', WHERE WHAT IT READS IS OF BULK AT MOST 1048576: true; the input reads as it did. -/
def axiomsMakesUptoRow : OpenClaim := { program := "ythbldeloocmakaa", sum := "2a24db43ac5bb9817d9a6b847b804ebda57d7e0a59bb9b4f4583761c64ccfb1a", func := "rota/rotalaw.AxiomsMakes", spec := "axiomsMakes", unfollowed := true, recurses := true, apart := false, narrowed := true }
def AxiomsMakesUptoSaid : Prop := axiomsMakesUptoRow.holds Try.pinned (OpenSpec.upto axiomsMakesSpec)

/-- 'rotakeep.AxiomsBack', WHERE WHAT IT READS IS OF BULK AT MOST 1048576: true; the input reads as it did. -/
def axiomsBackUptoRow : OpenClaim := { program := "ythbldeloocmakaa", sum := "2a24db43ac5bb9817d9a6b847b804ebda57d7e0a59bb9b4f4583761c64ccfb1a", func := "rota/rotakeep.AxiomsBack", spec := "axiomsBack", unfollowed := true, recurses := true, apart := false, narrowed := true }
def AxiomsBackUptoSaid : Prop := axiomsBackUptoRow.holds Try.pinned (OpenSpec.upto axiomsBackSpec)

/-- 'rotakeep.AxiomsMeet', WHERE WHAT IT READS IS OF BULK AT MOST 1048576: true; the input reads as it did. -/
def axiomsMeetUptoRow : OpenClaim := { program := "ythbldeloocmakaa", sum := "2a24db43ac5bb9817d9a6b847b804ebda57d7e0a59bb9b4f4583761c64ccfb1a", func := "rota/rotakeep.AxiomsMeet", spec := "axiomsMeet", unfollowed := true, recurses := true, apart := false, narrowed := true }
def AxiomsMeetUptoSaid : Prop := axiomsMeetUptoRow.holds Try.pinned (OpenSpec.upto axiomsMeetSpec)

/-- 'rotakeep.MinorsDual', WHERE WHAT IT READS IS OF BULK AT MOST 1048576: true; the input reads as it did. -/
def minorsDualUptoRow : OpenClaim := { program := "ythbldeloocmakaa", sum := "2a24db43ac5bb9817d9a6b847b804ebda57d7e0a59bb9b4f4583761c64ccfb1a", func := "rota/rotakeep.MinorsDual", spec := "minorsDual", unfollowed := true, recurses := true, apart := false, narrowed := true }
def MinorsDualUptoSaid : Prop := minorsDualUptoRow.holds Try.pinned (OpenSpec.upto minorsDualSpec)

/-- 'rotakeep.MinorsFree', WHERE WHAT IT READS IS OF BULK AT MOST 1048576: true; the input reads as it did. -/
def minorsFreeUptoRow : OpenClaim := { program := "ythbldeloocmakaa", sum := "2a24db43ac5bb9817d9a6b847b804ebda57d7e0a59bb9b4f4583761c64ccfb1a", func := "rota/rotakeep.MinorsFree", spec := "minorsFree", unfollowed := true, recurses := true, apart := false, narrowed := true }
def MinorsFreeUptoSaid : Prop := minorsFreeUptoRow.holds Try.pinned (OpenSpec.upto minorsFreeSpec)

end Rows
end Go.Proofs.Ythbldeloocmakaa
