/-
  No cell of these rows narrows 'for every input' (looked for: loops, veiled, ifaces, maps, wideKeys, modest, calm, conditions, laid).
  DERIVED. THE GIVEN ROWS OF THIS SEAT. 5 by the template 'for every input the law returns true; each argument reads behind the call as it read before'; 0 by the template 'total and deterministic' (their statements: YtkebhhpfnalbfabTotals.lean).
  GIVEN WITH THE SEED: the statements are not yours to turn. If you find one false, say at which input.
  Laid BY PROGRAM, IN A SANDBOX (cutbox-rows.mjs): the forced cells as the released guide's own fill.sh prints them over the translation ec397942e1c8e5c1… (all of the seat's roots in one cut). By AI agents, Wed Nov 11 2026. No macro, syntax, notation, axiom, sorry.
-/
import Derived.Test.YtkebhhpfnalbfabChecked
import GoSem.Claim
import GoSem.ClaimJoined
import GoSem.ClaimMapViews
import Derived.JoinedTies
import Derived.KernelRfl
namespace Go.Proofs.Ytkebhhpfnalbfab
/- THE CELL 'sum', in the pinned program and in every row, IS THE sha256 OF THE DUMP (.gsa) THAT YtkebhhpfnalbfabProg.lean LOADS. Nothing in Lean hashes anything: it is a label: what it is worth is what the hold of that sum in a sandbox is worth. -/
noncomputable def Try.pinned : Pinned := { name := "ytkebhhpfnalbfab", sum := "ec397942e1c8e5c15b08eb66722fe439bb7fb56c76bb9fd570719ca048d3d991", checked := Try.checked }
namespace Rows
def none {H : Type} : Left H := { results := [], args := [] }

/-- 'rotakeep.SetsBlock': WHATEVER THE INPUT: true; the input reads as it did. -/
def setsBlockSpec : ChangeSpec := { name := "setsBlock", fn := fun _ => fun
  | [d1, d2] => { results := [.lit (.bool true)], args := [d1, d2] }
  | _ => none }
def setsBlockRow : OpenClaim := { program := "ytkebhhpfnalbfab", sum := "ec397942e1c8e5c15b08eb66722fe439bb7fb56c76bb9fd570719ca048d3d991", func := "rota/rotakeep.SetsBlock", spec := "setsBlock", unfollowed := true, recurses := true, apart := false }
def SetsBlockSaid : Prop := setsBlockRow.holds Try.pinned (OpenSpec.ofChange setsBlockSpec)

/-- ITS FALSE NEIGHBOUR: 'it returns false'. Refute it at one input. -/
def setsBlockWrong : ChangeSpec := { name := "setsBlock", fn := fun _ => fun
  | [d1, d2] => { results := [.lit (.bool false)], args := [d1, d2] }
  | _ => none }
def SetsBlockWrongFalsely : Prop := setsBlockRow.holds Try.pinned (OpenSpec.ofChange setsBlockWrong)

/-- 'rotakeep.SetsKruskal': WHATEVER THE INPUT: true; the input reads as it did. -/
def setsKruskalSpec : ChangeSpec := { name := "setsKruskal", fn := fun _ => fun
  | [d1, d2, d3] => { results := [.lit (.bool true)], args := [d1, d2, d3] }
  | _ => none }
def setsKruskalRow : OpenClaim := { program := "ytkebhhpfnalbfab", sum := "ec397942e1c8e5c15b08eb66722fe439bb7fb56c76bb9fd570719ca048d3d991", func := "rota/rotakeep.SetsKruskal", spec := "setsKruskal", unfollowed := true, recurses := true, apart := false }
def SetsKruskalSaid : Prop := setsKruskalRow.holds Try.pinned (OpenSpec.ofChange setsKruskalSpec)

/-- ITS FALSE NEIGHBOUR: 'it returns false'. Refute it at one input. -/
def setsKruskalWrong : ChangeSpec := { name := "setsKruskal", fn := fun _ => fun
  | [d1, d2, d3] => { results := [.lit (.bool false)], args := [d1, d2, d3] }
  | _ => none }
def SetsKruskalWrongFalsely : Prop := setsKruskalRow.holds Try.pinned (OpenSpec.ofChange setsKruskalWrong)

/-- 'rotakeep.AxiomsRanks': WHATEVER THE INPUT: true; the input reads as it did. -/
def axiomsRanksSpec : ChangeSpec := { name := "axiomsRanks", fn := fun _ => fun
  | [d1, d2, d3] => { results := [.lit (.bool true)], args := [d1, d2, d3] }
  | _ => none }
def axiomsRanksRow : OpenClaim := { program := "ytkebhhpfnalbfab", sum := "ec397942e1c8e5c15b08eb66722fe439bb7fb56c76bb9fd570719ca048d3d991", func := "rota/rotakeep.AxiomsRanks", spec := "axiomsRanks", unfollowed := true, recurses := true, apart := false }
def AxiomsRanksSaid : Prop := axiomsRanksRow.holds Try.pinned (OpenSpec.ofChange axiomsRanksSpec)

/-- ITS FALSE NEIGHBOUR: 'it returns false'. Refute it at one input. -/
def axiomsRanksWrong : ChangeSpec := { name := "axiomsRanks", fn := fun _ => fun
  | [d1, d2, d3] => { results := [.lit (.bool false)], args := [d1, d2, d3] }
  | _ => none }
def AxiomsRanksWrongFalsely : Prop := axiomsRanksRow.holds Try.pinned (OpenSpec.ofChange axiomsRanksWrong)

/-- 'rotakeep.AxiomsMeet': WHATEVER THE INPUT: true; the input reads as it did. -/
def axiomsMeetSpec : ChangeSpec := { name := "axiomsMeet", fn := fun _ => fun
  | [d] => { results := [.lit (.bool true)], args := [d] }
  | _ => none }
def axiomsMeetRow : OpenClaim := { program := "ytkebhhpfnalbfab", sum := "ec397942e1c8e5c15b08eb66722fe439bb7fb56c76bb9fd570719ca048d3d991", func := "rota/rotakeep.AxiomsMeet", spec := "axiomsMeet", unfollowed := true, recurses := true, apart := false }
def AxiomsMeetSaid : Prop := axiomsMeetRow.holds Try.pinned (OpenSpec.ofChange axiomsMeetSpec)

/-- ITS FALSE NEIGHBOUR: 'it returns false'. Refute it at one input. -/
def axiomsMeetWrong : ChangeSpec := { name := "axiomsMeet", fn := fun _ => fun
  | [d] => { results := [.lit (.bool false)], args := [d] }
  | _ => none }
def AxiomsMeetWrongFalsely : Prop := axiomsMeetRow.holds Try.pinned (OpenSpec.ofChange axiomsMeetWrong)

/-- 'rotakeep.AxiomsStrong': WHATEVER THE INPUT: true; the input reads as it did. -/
def axiomsStrongSpec : ChangeSpec := { name := "axiomsStrong", fn := fun _ => fun
  | [d] => { results := [.lit (.bool true)], args := [d] }
  | _ => none }
def axiomsStrongRow : OpenClaim := { program := "ytkebhhpfnalbfab", sum := "ec397942e1c8e5c15b08eb66722fe439bb7fb56c76bb9fd570719ca048d3d991", func := "rota/rotakeep.AxiomsStrong", spec := "axiomsStrong", unfollowed := true, recurses := true, apart := false }
def AxiomsStrongSaid : Prop := axiomsStrongRow.holds Try.pinned (OpenSpec.ofChange axiomsStrongSpec)

/-- ITS FALSE NEIGHBOUR: 'it returns false'. Refute it at one input. -/
def axiomsStrongWrong : ChangeSpec := { name := "axiomsStrong", fn := fun _ => fun
  | [d] => { results := [.lit (.bool false)], args := [d] }
  | _ => none }
def AxiomsStrongWrongFalsely : Prop := axiomsStrongRow.holds Try.pinned (OpenSpec.ofChange axiomsStrongWrong)

/- THE SECOND FORM. 'bulk': how many values and letters a reading holds, each counted each time it is reached (what is shared counts as often as it is met; a slice's spare places count too). A statement '..UptoSaid' is the law's where the arguments, and the package variables that the reading takes, are together of bulk at most 1048576: NARROWER than '..Said'. Prove '..Said' where nothing that the law and all that it calls make is longer than what came in: it says more and counts as full. Else prove '..UptoSaid'. A law counts once. -/
mutual
def uptoBulk {H : Type} : DataW H → Nat
  | .lit (.string bytes) => bytes.length + 1
  | .lit _ => 1
  | .nil => 1
  | .ptr d => uptoBulk d + 1
  | .slice elems spare => uptoBulkAll elems + uptoBulkAll spare + 1
  | .agg parts => uptoBulkAll parts + 1
  | .iface _ d => uptoBulk d + 1
  | .map entries => uptoBulkEntries entries + 1
  | .held _ => 1
def uptoBulkAll {H : Type} : List (DataW H) → Nat
  | [] => 0
  | d :: r => uptoBulk d + uptoBulkAll r
def uptoBulkEntries {H : Type} : List (Lit × DataW H) → Nat
  | [] => 0
  | x :: r => uptoBulkEntry x + uptoBulkEntries r
def uptoBulkEntry {H : Type} : Lit × DataW H → Nat
  | (.string bytes, d) => bytes.length + uptoBulk d + 1
  | (_, d) => uptoBulk d + 1
 end
def uptoSmall : (H : Type) → List (DataW H) → Bool := fun _ ds => decide (uptoBulkAll ds ≤ 1048576)
def OpenSpec.upto (s : _root_.Go.ChangeSpec) : _root_.Go.OpenSpec := { _root_.Go.OpenSpec.ofChange s with cond := some uptoSmall }

/-- 'rotakeep.SetsBlock', WHERE WHAT IT READS IS OF BULK AT MOST 1048576: true; the input reads as it did. -/
def setsBlockUptoRow : OpenClaim := { program := "ytkebhhpfnalbfab", sum := "ec397942e1c8e5c15b08eb66722fe439bb7fb56c76bb9fd570719ca048d3d991", func := "rota/rotakeep.SetsBlock", spec := "setsBlock", unfollowed := true, recurses := true, apart := false, narrowed := true }
def SetsBlockUptoSaid : Prop := setsBlockUptoRow.holds Try.pinned (OpenSpec.upto setsBlockSpec)

/-- 'rotakeep.SetsKruskal', WHERE WHAT IT READS IS OF BULK AT MOST 1048576: true; the input reads as it did. -/
def setsKruskalUptoRow : OpenClaim := { program := "ytkebhhpfnalbfab", sum := "ec397942e1c8e5c15b08eb66722fe439bb7fb56c76bb9fd570719ca048d3d991", func := "rota/rotakeep.SetsKruskal", spec := "setsKruskal", unfollowed := true, recurses := true, apart := false, narrowed := true }
def SetsKruskalUptoSaid : Prop := setsKruskalUptoRow.holds Try.pinned (OpenSpec.upto setsKruskalSpec)

/-- 'rotakeep.AxiomsRanks', WHERE WHAT IT READS IS OF BULK AT MOST 1048576: true; the input reads as it did. -/
def axiomsRanksUptoRow : OpenClaim := { program := "ytkebhhpfnalbfab", sum := "ec397942e1c8e5c15b08eb66722fe439bb7fb56c76bb9fd570719ca048d3d991", func := "rota/rotakeep.AxiomsRanks", spec := "axiomsRanks", unfollowed := true, recurses := true, apart := false, narrowed := true }
def AxiomsRanksUptoSaid : Prop := axiomsRanksUptoRow.holds Try.pinned (OpenSpec.upto axiomsRanksSpec)

/-- 'rotakeep.AxiomsMeet', WHERE WHAT IT READS IS OF BULK AT MOST 1048576: true; the input reads as it did. -/
def axiomsMeetUptoRow : OpenClaim := { program := "ytkebhhpfnalbfab", sum := "ec397942e1c8e5c15b08eb66722fe439bb7fb56c76bb9fd570719ca048d3d991", func := "rota/rotakeep.AxiomsMeet", spec := "axiomsMeet", unfollowed := true, recurses := true, apart := false, narrowed := true }
def AxiomsMeetUptoSaid : Prop := axiomsMeetUptoRow.holds Try.pinned (OpenSpec.upto axiomsMeetSpec)

/-- 'rotakeep.AxiomsStrong', WHERE WHAT IT READS IS OF BULK AT MOST 1048576: true; the input reads as it did. -/
def axiomsStrongUptoRow : OpenClaim := { program := "ytkebhhpfnalbfab", sum := "ec397942e1c8e5c15b08eb66722fe439bb7fb56c76bb9fd570719ca048d3d991", func := "rota/rotakeep.AxiomsStrong", spec := "axiomsStrong", unfollowed := true, recurses := true, apart := false, narrowed := true }
def AxiomsStrongUptoSaid : Prop := axiomsStrongUptoRow.holds Try.pinned (OpenSpec.upto axiomsStrongSpec)

end Rows
end Go.Proofs.Ytkebhhpfnalbfab
