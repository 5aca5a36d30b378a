/-
  No cell of these rows narrows 'for every input' (looked for: loops, veiled, ifaces, maps, wideKeys, modest, calm, conditions, laid).
  DERIVED. THE GIVEN ROWS OF THIS SEAT. 2 by the template 'for every input the law returns true; each argument reads behind the call as it read before'; 0 by the template 'total and deterministic' (their statements: YtioaonmlnikbdaaTotals.lean).
  GIVEN WITH THE SEED: the statements are not yours to turn. If you find one false, say at which input.
  Laid BY PROGRAM, IN A SANDBOX (cutbox-rows.mjs): the forced cells as the released guide's own fill.sh prints them over the translation 662ed7a2cb1c659f… (all of the seat's roots in one cut). By AI agents, Wed Nov 11 2026. No macro, syntax, notation, axiom, sorry.
-/
import Derived.Test.YtioaonmlnikbdaaChecked
import GoSem.Claim
import GoSem.ClaimJoined
import GoSem.ClaimMapViews
import Derived.JoinedTies
import Derived.KernelRfl
namespace Go.Proofs.Ytioaonmlnikbdaa
/- THE CELL 'sum', in the pinned program and in every row, IS THE sha256 OF THE DUMP (.gsa) THAT YtioaonmlnikbdaaProg.lean LOADS. Nothing in Lean hashes anything: it is a label: what it is worth is what the hold of that sum in a sandbox is worth. -/
noncomputable def Try.pinned : Pinned := { name := "ytioaonmlnikbdaa", sum := "662ed7a2cb1c659f73f2bef3703dbb9a12fd0da098b217be4e4758b64aaf5140", checked := Try.checked }
namespace Rows
def none {H : Type} : Left H := { results := [], args := [] }

/-- 'rotakeep.TutteCrapo': WHATEVER THE INPUT: true; the input reads as it did. -/
def tutteCrapoSpec : ChangeSpec := { name := "tutteCrapo", fn := fun _ => fun
  | [d] => { results := [.lit (.bool true)], args := [d] }
  | _ => none }
def tutteCrapoRow : OpenClaim := { program := "ytioaonmlnikbdaa", sum := "662ed7a2cb1c659f73f2bef3703dbb9a12fd0da098b217be4e4758b64aaf5140", func := "rota/rotakeep.TutteCrapo", spec := "tutteCrapo", unfollowed := true, recurses := true, apart := false }
def TutteCrapoSaid : Prop := tutteCrapoRow.holds Try.pinned (OpenSpec.ofChange tutteCrapoSpec)

/-- ITS FALSE NEIGHBOUR: 'it returns false'. Refute it at one input. -/
def tutteCrapoWrong : ChangeSpec := { name := "tutteCrapo", fn := fun _ => fun
  | [d] => { results := [.lit (.bool false)], args := [d] }
  | _ => none }
def TutteCrapoWrongFalsely : Prop := tutteCrapoRow.holds Try.pinned (OpenSpec.ofChange tutteCrapoWrong)

/-- 'rotakeep.TutteSplits': WHATEVER THE INPUT: true; the input reads as it did. -/
def tutteSplitsSpec : ChangeSpec := { name := "tutteSplits", fn := fun _ => fun
  | [d1, d2, d3] => { results := [.lit (.bool true)], args := [d1, d2, d3] }
  | _ => none }
def tutteSplitsRow : OpenClaim := { program := "ytioaonmlnikbdaa", sum := "662ed7a2cb1c659f73f2bef3703dbb9a12fd0da098b217be4e4758b64aaf5140", func := "rota/rotakeep.TutteSplits", spec := "tutteSplits", inPlace := ["math/bits.Add64", "math/bits.Sub64"], unfollowed := true, recurses := true, apart := false }
def TutteSplitsSaid : Prop := tutteSplitsRow.holds Try.pinned (OpenSpec.ofChange tutteSplitsSpec)

/-- ITS FALSE NEIGHBOUR: 'it returns false'. Refute it at one input. -/
def tutteSplitsWrong : ChangeSpec := { name := "tutteSplits", fn := fun _ => fun
  | [d1, d2, d3] => { results := [.lit (.bool false)], args := [d1, d2, d3] }
  | _ => none }
def TutteSplitsWrongFalsely : Prop := tutteSplitsRow.holds Try.pinned (OpenSpec.ofChange tutteSplitsWrong)

/- THE SECOND FORM. 'bulk': how many values and letters a reading holds, each counted each time it is reached (what is shared counts as often as it is met; a slice's spare places count too). A statement '..UptoSaid' is the law's where the arguments, and the package variables that the reading takes, are together of bulk at most 1048576: NARROWER than '..Said'. Prove '..Said' where nothing that the law and all that it calls make is longer than what came in: it says more and counts as full. Else prove '..UptoSaid'. A law counts once. -/
mutual
def uptoBulk {H : Type} : DataW H → Nat
  | .lit (.string bytes) => bytes.length + 1
  | .lit _ => 1
  | .nil => 1
  | .ptr d => uptoBulk d + 1
  | .slice elems spare => uptoBulkAll elems + uptoBulkAll spare + 1
  | .agg parts => uptoBulkAll parts + 1
  | .iface _ d => uptoBulk d + 1
  | .map entries => uptoBulkEntries entries + 1
  | .held _ => 1
def uptoBulkAll {H : Type} : List (DataW H) → Nat
  | [] => 0
  | d :: r => uptoBulk d + uptoBulkAll r
def uptoBulkEntries {H : Type} : List (Lit × DataW H) → Nat
  | [] => 0
  | x :: r => uptoBulkEntry x + uptoBulkEntries r
def uptoBulkEntry {H : Type} : Lit × DataW H → Nat
  | (.string bytes, d) => bytes.length + uptoBulk d + 1
  | (_, d) => uptoBulk d + 1
 end
def uptoSmall : (H : Type) → List (DataW H) → Bool := fun _ ds => decide (uptoBulkAll ds ≤ 1048576)
def OpenSpec.upto (s : _root_.Go.ChangeSpec) : _root_.Go.OpenSpec := { _root_.Go.OpenSpec.ofChange s with cond := some uptoSmall }

/-- 'rotakeep.TutteCrapo', WHERE WHAT IT READS IS OF BULK AT MOST 1048576: true; the input reads as it did. -/
def tutteCrapoUptoRow : OpenClaim := { program := "ytioaonmlnikbdaa", sum := "662ed7a2cb1c659f73f2bef3703dbb9a12fd0da098b217be4e4758b64aaf5140", func := "rota/rotakeep.TutteCrapo", spec := "tutteCrapo", unfollowed := true, recurses := true, apart := false, narrowed := true }
def TutteCrapoUptoSaid : Prop := tutteCrapoUptoRow.holds Try.pinned (OpenSpec.upto tutteCrapoSpec)

/-- 'rotakeep.TutteSplits', WHERE WHAT IT READS IS OF BULK AT MOST 1048576: true; the input reads as it did. -/
def tutteSplitsUptoRow : OpenClaim := { program := "ytioaonmlnikbdaa", sum := "662ed7a2cb1c659f73f2bef3703dbb9a12fd0da098b217be4e4758b64aaf5140", func := "rota/rotakeep.TutteSplits", spec := "tutteSplits", inPlace := ["math/bits.Add64", "math/bits.Sub64"], unfollowed := true, recurses := true, apart := false, narrowed := true }
def TutteSplitsUptoSaid : Prop := tutteSplitsUptoRow.holds Try.pinned (OpenSpec.upto tutteSplitsSpec)

end Rows
end Go.Proofs.Ytioaonmlnikbdaa
