/-
  No cell of these rows narrows 'for every input' (looked for: loops, veiled, ifaces, maps, wideKeys, modest, calm, conditions, laid).
  DERIVED. THE GIVEN ROWS OF THIS SEAT. 5 by the template 'for every input the law returns true; each argument reads behind the call as it read before'; 0 by the template 'total and deterministic' (their statements: YtimciginbiobmaaTotals.lean).
  GIVEN WITH THE SEED: the statements are not yours to turn. If you find one false, say at which input.
  Laid BY PROGRAM, IN A SANDBOX (cutbox-rows.mjs): the forced cells as the released guide's own fill.sh prints them over the translation 95b9015cfc6bf653… (all of the seat's roots in one cut). By AI agents, Wed Nov 11 2026. No macro, syntax, notation, axiom, sorry.
-/
import Derived.Test.YtimciginbiobmaaChecked
import GoSem.Claim
import GoSem.ClaimJoined
import GoSem.ClaimMapViews
import Derived.JoinedTies
import Derived.KernelRfl
namespace Go.Proofs.Ytimciginbiobmaa
/- THE CELL 'sum', in the pinned program and in every row, IS THE sha256 OF THE DUMP (.gsa) THAT YtimciginbiobmaaProg.lean LOADS. Nothing in Lean hashes anything: it is a label: what it is worth is what the hold of that sum in a sandbox is worth. -/
noncomputable def Try.pinned : Pinned := { name := "ytimciginbiobmaa", sum := "95b9015cfc6bf653cf6ee889c869dce5b680749145047621f01eb8b8fb960623", checked := Try.checked }
namespace Rows
def none {H : Type} : Left H := { results := [], args := [] }

/-- 'rotalaw.KindsSays': WHATEVER THE INPUT: true; the input reads as it did. -/
def kindsSaysSpec : ChangeSpec := { name := "kindsSays", fn := fun _ => fun
  | [d1, d2, d3, d4] => { results := [.lit (.bool true)], args := [d1, d2, d3, d4] }
  | _ => none }
def kindsSaysRow : OpenClaim := { program := "ytimciginbiobmaa", sum := "95b9015cfc6bf653cf6ee889c869dce5b680749145047621f01eb8b8fb960623", func := "rota/rotalaw.KindsSays", spec := "kindsSays", unfollowed := true, recurses := true, apart := false }
def KindsSaysSaid : Prop := kindsSaysRow.holds Try.pinned (OpenSpec.ofChange kindsSaysSpec)

/-- ITS FALSE NEIGHBOUR: 'it returns false'. Refute it at one input. -/
def kindsSaysWrong : ChangeSpec := { name := "kindsSays", fn := fun _ => fun
  | [d1, d2, d3, d4] => { results := [.lit (.bool false)], args := [d1, d2, d3, d4] }
  | _ => none }
def KindsSaysWrongFalsely : Prop := kindsSaysRow.holds Try.pinned (OpenSpec.ofChange kindsSaysWrong)

/-- 'rotakeep.KindsAre': WHATEVER THE INPUT: true; the input reads as it did. -/
def kindsAreSpec : ChangeSpec := { name := "kindsAre", fn := fun _ => fun
  | [d1, d2, d3, d4, d5] => { results := [.lit (.bool true)], args := [d1, d2, d3, d4, d5] }
  | _ => none }
def kindsAreRow : OpenClaim := { program := "ytimciginbiobmaa", sum := "95b9015cfc6bf653cf6ee889c869dce5b680749145047621f01eb8b8fb960623", func := "rota/rotakeep.KindsAre", spec := "kindsAre", unfollowed := true, recurses := true, apart := false }
def KindsAreSaid : Prop := kindsAreRow.holds Try.pinned (OpenSpec.ofChange kindsAreSpec)

/-- ITS FALSE NEIGHBOUR: 'it returns false'. Refute it at one input. -/
def kindsAreWrong : ChangeSpec := { name := "kindsAre", fn := fun _ => fun
  | [d1, d2, d3, d4, d5] => { results := [.lit (.bool false)], args := [d1, d2, d3, d4, d5] }
  | _ => none }
def KindsAreWrongFalsely : Prop := kindsAreRow.holds Try.pinned (OpenSpec.ofChange kindsAreWrong)

/-- 'rotakeep.KindsTotal': WHATEVER THE INPUT: true; the input reads as it did. -/
def kindsTotalSpec : ChangeSpec := { name := "kindsTotal", fn := fun _ => fun
  | [d1, d2] => { results := [.lit (.bool true)], args := [d1, d2] }
  | _ => none }
def kindsTotalRow : OpenClaim := { program := "ytimciginbiobmaa", sum := "95b9015cfc6bf653cf6ee889c869dce5b680749145047621f01eb8b8fb960623", func := "rota/rotakeep.KindsTotal", spec := "kindsTotal", unfollowed := true, recurses := true, apart := false }
def KindsTotalSaid : Prop := kindsTotalRow.holds Try.pinned (OpenSpec.ofChange kindsTotalSpec)

/-- ITS FALSE NEIGHBOUR: 'it returns false'. Refute it at one input. -/
def kindsTotalWrong : ChangeSpec := { name := "kindsTotal", fn := fun _ => fun
  | [d1, d2] => { results := [.lit (.bool false)], args := [d1, d2] }
  | _ => none }
def KindsTotalWrongFalsely : Prop := kindsTotalRow.holds Try.pinned (OpenSpec.ofChange kindsTotalWrong)

/-- 'rotalaw.GreedySwaps': WHATEVER THE INPUT: true; the input reads as it did. -/
def greedySwapsSpec : ChangeSpec := { name := "greedySwaps", fn := fun _ => fun
  | [d1, d2, d3, d4, d5] => { results := [.lit (.bool true)], args := [d1, d2, d3, d4, d5] }
  | _ => none }
def greedySwapsRow : OpenClaim := { program := "ytimciginbiobmaa", sum := "95b9015cfc6bf653cf6ee889c869dce5b680749145047621f01eb8b8fb960623", func := "rota/rotalaw.GreedySwaps", spec := "greedySwaps", unfollowed := true, recurses := true, apart := false }
def GreedySwapsSaid : Prop := greedySwapsRow.holds Try.pinned (OpenSpec.ofChange greedySwapsSpec)

/-- ITS FALSE NEIGHBOUR: 'it returns false'. Refute it at one input. -/
def greedySwapsWrong : ChangeSpec := { name := "greedySwaps", fn := fun _ => fun
  | [d1, d2, d3, d4, d5] => { results := [.lit (.bool false)], args := [d1, d2, d3, d4, d5] }
  | _ => none }
def GreedySwapsWrongFalsely : Prop := greedySwapsRow.holds Try.pinned (OpenSpec.ofChange greedySwapsWrong)

/-- 'rotakeep.GreedySwap': WHATEVER THE INPUT: true; the input reads as it did. -/
def greedySwapSpec : ChangeSpec := { name := "greedySwap", fn := fun _ => fun
  | [d1, d2, d3, d4] => { results := [.lit (.bool true)], args := [d1, d2, d3, d4] }
  | _ => none }
def greedySwapRow : OpenClaim := { program := "ytimciginbiobmaa", sum := "95b9015cfc6bf653cf6ee889c869dce5b680749145047621f01eb8b8fb960623", func := "rota/rotakeep.GreedySwap", spec := "greedySwap", unfollowed := true, recurses := true, apart := false }
def GreedySwapSaid : Prop := greedySwapRow.holds Try.pinned (OpenSpec.ofChange greedySwapSpec)

/-- ITS FALSE NEIGHBOUR: 'it returns false'. Refute it at one input. -/
def greedySwapWrong : ChangeSpec := { name := "greedySwap", fn := fun _ => fun
  | [d1, d2, d3, d4] => { results := [.lit (.bool false)], args := [d1, d2, d3, d4] }
  | _ => none }
def GreedySwapWrongFalsely : Prop := greedySwapRow.holds Try.pinned (OpenSpec.ofChange greedySwapWrong)

/- THE SECOND FORM. 'bulk': how many values and letters a reading holds, each counted each time it is reached (what is shared counts as often as it is met; a slice's spare places count too). A statement '..UptoSaid' is the law's where the arguments, and the package variables that the reading takes, are together of bulk at most 1048576: NARROWER than '..Said'. Prove '..Said' where nothing that the law and all that it calls make is longer than what came in: it says more and counts as full. Else prove '..UptoSaid'. A law counts once. -/
mutual
def uptoBulk {H : Type} : DataW H → Nat
  | .lit (.string bytes) => bytes.length + 1
  | .lit _ => 1
  | .nil => 1
  | .ptr d => uptoBulk d + 1
  | .slice elems spare => uptoBulkAll elems + uptoBulkAll spare + 1
  | .agg parts => uptoBulkAll parts + 1
  | .iface _ d => uptoBulk d + 1
  | .map entries => uptoBulkEntries entries + 1
  | .held _ => 1
def uptoBulkAll {H : Type} : List (DataW H) → Nat
  | [] => 0
  | d :: r => uptoBulk d + uptoBulkAll r
def uptoBulkEntries {H : Type} : List (Lit × DataW H) → Nat
  | [] => 0
  | x :: r => uptoBulkEntry x + uptoBulkEntries r
def uptoBulkEntry {H : Type} : Lit × DataW H → Nat
  | (.string bytes, d) => bytes.length + uptoBulk d + 1
  | (_, d) => uptoBulk d + 1
 end
def uptoSmall : (H : Type) → List (DataW H) → Bool := fun _ ds => decide (uptoBulkAll ds ≤ 1048576)
def OpenSpec.upto (s : _root_.Go.ChangeSpec) : _root_.Go.OpenSpec := { _root_.Go.OpenSpec.ofChange s with cond := some uptoSmall }

/-- 'rotalaw.KindsSays', WHERE WHAT IT READS IS OF BULK AT MOST 1048576: true; the input reads as it did. -/
def kindsSaysUptoRow : OpenClaim := { program := "ytimciginbiobmaa", sum := "95b9015cfc6bf653cf6ee889c869dce5b680749145047621f01eb8b8fb960623", func := "rota/rotalaw.KindsSays", spec := "kindsSays", unfollowed := true, recurses := true, apart := false, narrowed := true }
def KindsSaysUptoSaid : Prop := kindsSaysUptoRow.holds Try.pinned (OpenSpec.upto kindsSaysSpec)

/-- 'rotakeep.KindsAre', WHERE WHAT IT READS IS OF BULK AT MOST 1048576: true; the input reads as it did. -/
def kindsAreUptoRow : OpenClaim := { program := "ytimciginbiobmaa", sum := "95b9015cfc6bf653cf6ee889c869dce5b680749145047621f01eb8b8fb960623", func := "rota/rotakeep.KindsAre", spec := "kindsAre", unfollowed := true, recurses := true, apart := false, narrowed := true }
def KindsAreUptoSaid : Prop := kindsAreUptoRow.holds Try.pinned (OpenSpec.upto kindsAreSpec)

/-- 'rotakeep.KindsTotal', WHERE WHAT IT READS IS OF BULK AT MOST 1048576: true; the input reads as it did. -/
def kindsTotalUptoRow : OpenClaim := { program := "ytimciginbiobmaa", sum := "95b9015cfc6bf653cf6ee889c869dce5b680749145047621f01eb8b8fb960623", func := "rota/rotakeep.KindsTotal", spec := "kindsTotal", unfollowed := true, recurses := true, apart := false, narrowed := true }
def KindsTotalUptoSaid : Prop := kindsTotalUptoRow.holds Try.pinned (OpenSpec.upto kindsTotalSpec)

/-- 'rotalaw.GreedySwaps', WHERE WHAT IT READS IS OF BULK AT MOST 1048576: true; the input reads as it did. -/
def greedySwapsUptoRow : OpenClaim := { program := "ytimciginbiobmaa", sum := "95b9015cfc6bf653cf6ee889c869dce5b680749145047621f01eb8b8fb960623", func := "rota/rotalaw.GreedySwaps", spec := "greedySwaps", unfollowed := true, recurses := true, apart := false, narrowed := true }
def GreedySwapsUptoSaid : Prop := greedySwapsUptoRow.holds Try.pinned (OpenSpec.upto greedySwapsSpec)

/-- 'rotakeep.GreedySwap', WHERE WHAT IT READS IS OF BULK AT MOST 1048576: true; the input reads as it did. -/
def greedySwapUptoRow : OpenClaim := { program := "ytimciginbiobmaa", sum := "95b9015cfc6bf653cf6ee889c869dce5b680749145047621f01eb8b8fb960623", func := "rota/rotakeep.GreedySwap", spec := "greedySwap", unfollowed := true, recurses := true, apart := false, narrowed := true }
def GreedySwapUptoSaid : Prop := greedySwapUptoRow.holds Try.pinned (OpenSpec.upto greedySwapSpec)

end Rows
end Go.Proofs.Ytimciginbiobmaa
