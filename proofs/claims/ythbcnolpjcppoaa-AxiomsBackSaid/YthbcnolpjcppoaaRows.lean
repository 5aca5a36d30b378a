/-
  No cell of these rows narrows 'for every input' (looked for: loops, veiled, ifaces, maps, wideKeys, modest, calm, conditions, laid).
  DERIVED. THE GIVEN ROWS OF THIS SEAT. 6 by the template 'for every input the law returns true; each argument reads behind the call as it read before'; 0 by the template 'total and deterministic' (their statements: YthbcnolpjcppoaaTotals.lean).
  GIVEN WITH THE SEED: the statements are not yours to turn. If you find one false, say at which input.
  Laid BY PROGRAM, IN A SANDBOX (cutbox-rows.mjs): the forced cells as the released guide's own fill.sh prints them over the translation 946de59758d0a864… (all of the seat's roots in one cut). By AI agents, Wed Nov 11 2026. No macro, syntax, notation, axiom, sorry.
-/
import Derived.Test.YthbcnolpjcppoaaChecked
import GoSem.Claim
import GoSem.ClaimJoined
import GoSem.ClaimMapViews
import Derived.JoinedTies
import Derived.KernelRfl
namespace Go.Proofs.Ythbcnolpjcppoaa
/- THE CELL 'sum', in the pinned program and in every row, IS THE sha256 OF THE DUMP (.gsa) THAT YthbcnolpjcppoaaProg.lean LOADS. Nothing in Lean hashes anything: it is a label: what it is worth is what the hold of that sum in a sandbox is worth. -/
noncomputable def Try.pinned : Pinned := { name := "ythbcnolpjcppoaa", sum := "946de59758d0a8641783eccb11acc5233e91a8a58901ee324856aece18059546", checked := Try.checked }
namespace Rows
def none {H : Type} : Left H := { results := [], args := [] }

/-- 'rotalaw.AxiomsSays': WHATEVER THE INPUT: true; the input reads as it did. -/
def axiomsSaysSpec : ChangeSpec := { name := "axiomsSays", fn := fun _ => fun
  | [d1, d2] => { results := [.lit (.bool true)], args := [d1, d2] }
  | _ => none }
def axiomsSaysRow : OpenClaim := { program := "ythbcnolpjcppoaa", sum := "946de59758d0a8641783eccb11acc5233e91a8a58901ee324856aece18059546", func := "rota/rotalaw.AxiomsSays", spec := "axiomsSays", unfollowed := true, recurses := true, apart := false }
def AxiomsSaysSaid : Prop := axiomsSaysRow.holds Try.pinned (OpenSpec.ofChange axiomsSaysSpec)

/-- ITS FALSE NEIGHBOUR: 'it returns false'. Refute it at one input. -/
def axiomsSaysWrong : ChangeSpec := { name := "axiomsSays", fn := fun _ => fun
  | [d1, d2] => { results := [.lit (.bool false)], args := [d1, d2] }
  | _ => none }
def AxiomsSaysWrongFalsely : Prop := axiomsSaysRow.holds Try.pinned (OpenSpec.ofChange axiomsSaysWrong)

/-- 'rotalaw.AxiomsMakes': WHATEVER THE INPUT: true; the input reads as it did. -/
def axiomsMakesSpec : ChangeSpec := { name := "axiomsMakes", fn := fun _ => fun
  | [d1, d2, d3] => { results := [.lit (.bool true)], args := [d1, d2, d3] }
  | _ => none }
def axiomsMakesRow : OpenClaim := { program := "ythbcnolpjcppoaa", sum := "946de59758d0a8641783eccb11acc5233e91a8a58901ee324856aece18059546", func := "rota/rotalaw.AxiomsMakes", spec := "axiomsMakes", unfollowed := true, recurses := true, apart := false }
def AxiomsMakesSaid : Prop := axiomsMakesRow.holds Try.pinned (OpenSpec.ofChange axiomsMakesSpec)

/-- ITS FALSE NEIGHBOUR: 'it returns false'. Refute it at one input. -/
def axiomsMakesWrong : ChangeSpec := { name := "axiomsMakes", fn := fun _ => fun
  | [d1, d2, d3] => { results := [.lit (.bool false)], args := [d1, d2, d3] }
  | _ => none }
def AxiomsMakesWrongFalsely : Prop := axiomsMakesRow.holds Try.pinned (OpenSpec.ofChange axiomsMakesWrong)

/-- 'rotakeep.AxiomsBack': WHATEVER THE INPUT: true; the input reads as it did. -/
def axiomsBackSpec : ChangeSpec := { name := "axiomsBack", fn := fun _ => fun
  | [d] => { results := [.lit (.bool true)], args := [d] }
  | _ => none }
def axiomsBackRow : OpenClaim := { program := "ythbcnolpjcppoaa", sum := "946de59758d0a8641783eccb11acc5233e91a8a58901ee324856aece18059546", func := "rota/rotakeep.AxiomsBack", spec := "axiomsBack", unfollowed := true, recurses := true, apart := false }
def AxiomsBackSaid : Prop := axiomsBackRow.holds Try.pinned (OpenSpec.ofChange axiomsBackSpec)

/-- ITS FALSE NEIGHBOUR: 'it returns false'. Refute it at one input. -/
def axiomsBackWrong : ChangeSpec := { name := "axiomsBack", fn := fun _ => fun
  | [d] => { results := [.lit (.bool false)], args := [d] }
  | _ => none }
def AxiomsBackWrongFalsely : Prop := axiomsBackRow.holds Try.pinned (OpenSpec.ofChange axiomsBackWrong)

/-- 'rotakeep.AxiomsRanks': WHATEVER THE INPUT: true; the input reads as it did. -/
def axiomsRanksSpec : ChangeSpec := { name := "axiomsRanks", fn := fun _ => fun
  | [d1, d2, d3] => { results := [.lit (.bool true)], args := [d1, d2, d3] }
  | _ => none }
def axiomsRanksRow : OpenClaim := { program := "ythbcnolpjcppoaa", sum := "946de59758d0a8641783eccb11acc5233e91a8a58901ee324856aece18059546", func := "rota/rotakeep.AxiomsRanks", spec := "axiomsRanks", unfollowed := true, recurses := true, apart := false }
def AxiomsRanksSaid : Prop := axiomsRanksRow.holds Try.pinned (OpenSpec.ofChange axiomsRanksSpec)

/-- ITS FALSE NEIGHBOUR: 'it returns false'. Refute it at one input. -/
def axiomsRanksWrong : ChangeSpec := { name := "axiomsRanks", fn := fun _ => fun
  | [d1, d2, d3] => { results := [.lit (.bool false)], args := [d1, d2, d3] }
  | _ => none }
def AxiomsRanksWrongFalsely : Prop := axiomsRanksRow.holds Try.pinned (OpenSpec.ofChange axiomsRanksWrong)

/-- 'rotakeep.AxiomsMeet': WHATEVER THE INPUT: true; the input reads as it did. -/
def axiomsMeetSpec : ChangeSpec := { name := "axiomsMeet", fn := fun _ => fun
  | [d] => { results := [.lit (.bool true)], args := [d] }
  | _ => none }
def axiomsMeetRow : OpenClaim := { program := "ythbcnolpjcppoaa", sum := "946de59758d0a8641783eccb11acc5233e91a8a58901ee324856aece18059546", func := "rota/rotakeep.AxiomsMeet", spec := "axiomsMeet", unfollowed := true, recurses := true, apart := false }
def AxiomsMeetSaid : Prop := axiomsMeetRow.holds Try.pinned (OpenSpec.ofChange axiomsMeetSpec)

/-- ITS FALSE NEIGHBOUR: 'it returns false'. Refute it at one input. -/
def axiomsMeetWrong : ChangeSpec := { name := "axiomsMeet", fn := fun _ => fun
  | [d] => { results := [.lit (.bool false)], args := [d] }
  | _ => none }
def AxiomsMeetWrongFalsely : Prop := axiomsMeetRow.holds Try.pinned (OpenSpec.ofChange axiomsMeetWrong)

/-- 'rotakeep.MinorsDual': WHATEVER THE INPUT: true; the input reads as it did. -/
def minorsDualSpec : ChangeSpec := { name := "minorsDual", fn := fun _ => fun
  | [d1, d2] => { results := [.lit (.bool true)], args := [d1, d2] }
  | _ => none }
def minorsDualRow : OpenClaim := { program := "ythbcnolpjcppoaa", sum := "946de59758d0a8641783eccb11acc5233e91a8a58901ee324856aece18059546", func := "rota/rotakeep.MinorsDual", spec := "minorsDual", unfollowed := true, recurses := true, apart := false }
def MinorsDualSaid : Prop := minorsDualRow.holds Try.pinned (OpenSpec.ofChange minorsDualSpec)

/-- ITS FALSE NEIGHBOUR: 'it returns false'. Refute it at one input. -/
def minorsDualWrong : ChangeSpec := { name := "minorsDual", fn := fun _ => fun
  | [d1, d2] => { results := [.lit (.bool false)], args := [d1, d2] }
  | _ => none }
def MinorsDualWrongFalsely : Prop := minorsDualRow.holds Try.pinned (OpenSpec.ofChange minorsDualWrong)

/- THE SECOND FORM. 'bulk': how many values and letters a reading holds, each counted each time it is reached (what is shared counts as often as it is met; a slice's spare places count too). A statement '..UptoSaid' is the law's where the arguments, and the package variables that the reading takes, are together of bulk at most 1048576: NARROWER than '..Said'. Prove '..Said' where nothing that the law and all that it calls make is longer than what came in: it says more and counts as full. Else prove '..UptoSaid'. A law counts once. -/
mutual
def uptoBulk {H : Type} : DataW H → Nat
  | .lit (.string bytes) => bytes.length + 1
  | .lit _ => 1
  | .nil => 1
  | .ptr d => uptoBulk d + 1
  | .slice elems spare => uptoBulkAll elems + uptoBulkAll spare + 1
  | .agg parts => uptoBulkAll parts + 1
  | .iface _ d => uptoBulk d + 1
  | .map entries => uptoBulkEntries entries + 1
  | .held _ => 1
def uptoBulkAll {H : Type} : List (DataW H) → Nat
  | [] => 0
  | d :: r => uptoBulk d + uptoBulkAll r
def uptoBulkEntries {H : Type} : List (Lit × DataW H) → Nat
  | [] => 0
  | x :: r => uptoBulkEntry x + uptoBulkEntries r
def uptoBulkEntry {H : Type} : Lit × DataW H → Nat
  | (.string bytes, d) => bytes.length + uptoBulk d + 1
  | (_, d) => uptoBulk d + 1
 end
def uptoSmall : (H : Type) → List (DataW H) → Bool := fun _ ds => decide (uptoBulkAll ds ≤ 1048576)
def OpenSpec.upto (s : _root_.Go.ChangeSpec) : _root_.Go.OpenSpec := { _root_.Go.OpenSpec.ofChange s with cond := some uptoSmall }

/-- 'rotalaw.AxiomsSays', WHERE WHAT IT READS IS OF BULK AT MOST 1048576: true; the input reads as it did. -/
def axiomsSaysUptoRow : OpenClaim := { program := "ythbcnolpjcppoaa", sum := "946de59758d0a8641783eccb11acc5233e91a8a58901ee324856aece18059546", func := "rota/rotalaw.AxiomsSays", spec := "axiomsSays", unfollowed := true, recurses := true, apart := false, narrowed := true }
def AxiomsSaysUptoSaid : Prop := axiomsSaysUptoRow.holds Try.pinned (OpenSpec.upto axiomsSaysSpec)

/-- 'rotalaw.AxiomsMakes', WHERE WHAT IT READS IS OF BULK AT MOST 1048576: true; the input reads as it did. -/
def axiomsMakesUptoRow : OpenClaim := { program := "ythbcnolpjcppoaa", sum := "946de59758d0a8641783eccb11acc5233e91a8a58901ee324856aece18059546", func := "rota/rotalaw.AxiomsMakes", spec := "axiomsMakes", unfollowed := true, recurses := true, apart := false, narrowed := true }
def AxiomsMakesUptoSaid : Prop := axiomsMakesUptoRow.holds Try.pinned (OpenSpec.upto axiomsMakesSpec)

/-- 'rotakeep.AxiomsBack', WHERE WHAT IT READS IS OF BULK AT MOST 1048576: true; the input reads as it did. -/
def axiomsBackUptoRow : OpenClaim := { program := "ythbcnolpjcppoaa", sum := "946de59758d0a8641783eccb11acc5233e91a8a58901ee324856aece18059546", func := "rota/rotakeep.AxiomsBack", spec := "axiomsBack", unfollowed := true, recurses := true, apart := false, narrowed := true }
def AxiomsBackUptoSaid : Prop := axiomsBackUptoRow.holds Try.pinned (OpenSpec.upto axiomsBackSpec)

/-- 'rotakeep.AxiomsRanks', WHERE WHAT IT READS IS OF BULK AT MOST 1048576: true; the input reads as it did. -/
def axiomsRanksUptoRow : OpenClaim := { program := "ythbcnolpjcppoaa", sum := "946de59758d0a8641783eccb11acc5233e91a8a58901ee324856aece18059546", func := "rota/rotakeep.AxiomsRanks", spec := "axiomsRanks", unfollowed := true, recurses := true, apart := false, narrowed := true }
def AxiomsRanksUptoSaid : Prop := axiomsRanksUptoRow.holds Try.pinned (OpenSpec.upto axiomsRanksSpec)

/-- 'rotakeep.AxiomsMeet', WHERE WHAT IT READS IS OF BULK AT MOST 1048576: true; the input reads as it did. -/
def axiomsMeetUptoRow : OpenClaim := { program := "ythbcnolpjcppoaa", sum := "946de59758d0a8641783eccb11acc5233e91a8a58901ee324856aece18059546", func := "rota/rotakeep.AxiomsMeet", spec := "axiomsMeet", unfollowed := true, recurses := true, apart := false, narrowed := true }
def AxiomsMeetUptoSaid : Prop := axiomsMeetUptoRow.holds Try.pinned (OpenSpec.upto axiomsMeetSpec)

/-- 'rotakeep.MinorsDual', WHERE WHAT IT READS IS OF BULK AT MOST 1048576: true; the input reads as it did. -/
def minorsDualUptoRow : OpenClaim := { program := "ythbcnolpjcppoaa", sum := "946de59758d0a8641783eccb11acc5233e91a8a58901ee324856aece18059546", func := "rota/rotakeep.MinorsDual", spec := "minorsDual", unfollowed := true, recurses := true, apart := false, narrowed := true }
def MinorsDualUptoSaid : Prop := minorsDualUptoRow.holds Try.pinned (OpenSpec.upto minorsDualSpec)

end Rows
end Go.Proofs.Ythbcnolpjcppoaa
