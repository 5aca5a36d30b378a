/-
  No cell of these rows narrows 'for every input' (looked for: loops, veiled, ifaces, maps, wideKeys, modest, calm, conditions, laid).
  DERIVED. THE GIVEN ROWS OF THIS SEAT. 3 by the template 'for every input the law returns true; each argument reads behind the call as it read before'; 0 by the template 'total and deterministic' (their statements: YtpmpfnbgjgjlgabTotals.lean).
  GIVEN WITH THE SEED: the statements are not yours to turn. If you find one false, say at which input.
  Laid BY PROGRAM, IN A SANDBOX (cutbox-rows.mjs): the forced cells as the released guide's own fill.sh prints them over the translation 694ebb9852641886… (all of the seat's roots in one cut). By AI agents, Wed Nov 11 2026. No macro, syntax, notation, axiom, sorry.
-/
import Derived.Test.YtpmpfnbgjgjlgabChecked
import GoSem.Claim
import GoSem.ClaimJoined
import GoSem.ClaimMapViews
import Derived.JoinedTies
import Derived.KernelRfl
namespace Go.Proofs.Ytpmpfnbgjgjlgab
/- THE CELL 'sum', in the pinned program and in every row, IS THE sha256 OF THE DUMP (.gsa) THAT YtpmpfnbgjgjlgabProg.lean LOADS. Nothing in Lean hashes anything: it is a label: what it is worth is what the hold of that sum in a sandbox is worth. -/
noncomputable def Try.pinned : Pinned := { name := "ytpmpfnbgjgjlgab", sum := "694ebb98526418866b6e38bf1aae9b18cda1afb576244e528e584fd3370ff29a", checked := Try.checked }
namespace Rows
def none {H : Type} : Left H := { results := [], args := [] }

/-- 'rotakeep.FlatsModular': WHATEVER THE INPUT: true; the input reads as it did. -/
def flatsModularSpec : ChangeSpec := { name := "flatsModular", fn := fun _ => fun
  | [d1, d2] => { results := [.lit (.bool true)], args := [d1, d2] }
  | _ => none }
def flatsModularRow : OpenClaim := { program := "ytpmpfnbgjgjlgab", sum := "694ebb98526418866b6e38bf1aae9b18cda1afb576244e528e584fd3370ff29a", func := "rota/rotakeep.FlatsModular", spec := "flatsModular", unfollowed := true, recurses := true, apart := false }
def FlatsModularSaid : Prop := flatsModularRow.holds Try.pinned (OpenSpec.ofChange flatsModularSpec)

/-- ITS FALSE NEIGHBOUR: 'it returns false'. Refute it at one input. -/
def flatsModularWrong : ChangeSpec := { name := "flatsModular", fn := fun _ => fun
  | [d1, d2] => { results := [.lit (.bool false)], args := [d1, d2] }
  | _ => none }
def FlatsModularWrongFalsely : Prop := flatsModularRow.holds Try.pinned (OpenSpec.ofChange flatsModularWrong)

/-- 'rotakeep.FlatsBeta': WHATEVER THE INPUT: true; the input reads as it did. -/
def flatsBetaSpec : ChangeSpec := { name := "flatsBeta", fn := fun _ => fun
  | [d] => { results := [.lit (.bool true)], args := [d] }
  | _ => none }
def flatsBetaRow : OpenClaim := { program := "ytpmpfnbgjgjlgab", sum := "694ebb98526418866b6e38bf1aae9b18cda1afb576244e528e584fd3370ff29a", func := "rota/rotakeep.FlatsBeta", spec := "flatsBeta", unfollowed := true, recurses := true, apart := false }
def FlatsBetaSaid : Prop := flatsBetaRow.holds Try.pinned (OpenSpec.ofChange flatsBetaSpec)

/-- ITS FALSE NEIGHBOUR: 'it returns false'. Refute it at one input. -/
def flatsBetaWrong : ChangeSpec := { name := "flatsBeta", fn := fun _ => fun
  | [d] => { results := [.lit (.bool false)], args := [d] }
  | _ => none }
def FlatsBetaWrongFalsely : Prop := flatsBetaRow.holds Try.pinned (OpenSpec.ofChange flatsBetaWrong)

/-- 'rotakeep.FlatsSimple': WHATEVER THE INPUT: true; the input reads as it did. -/
def flatsSimpleSpec : ChangeSpec := { name := "flatsSimple", fn := fun _ => fun
  | [d] => { results := [.lit (.bool true)], args := [d] }
  | _ => none }
def flatsSimpleRow : OpenClaim := { program := "ytpmpfnbgjgjlgab", sum := "694ebb98526418866b6e38bf1aae9b18cda1afb576244e528e584fd3370ff29a", func := "rota/rotakeep.FlatsSimple", spec := "flatsSimple", unfollowed := true, recurses := true, apart := false }
def FlatsSimpleSaid : Prop := flatsSimpleRow.holds Try.pinned (OpenSpec.ofChange flatsSimpleSpec)

/-- ITS FALSE NEIGHBOUR: 'it returns false'. Refute it at one input. -/
def flatsSimpleWrong : ChangeSpec := { name := "flatsSimple", fn := fun _ => fun
  | [d] => { results := [.lit (.bool false)], args := [d] }
  | _ => none }
def FlatsSimpleWrongFalsely : Prop := flatsSimpleRow.holds Try.pinned (OpenSpec.ofChange flatsSimpleWrong)

/- THE SECOND FORM. 'bulk': how many values and letters a reading holds, each counted each time it is reached (what is shared counts as often as it is met; a slice's spare places count too). A statement '..UptoSaid' is the law's where the arguments, and the package variables that the reading takes, are together of bulk at most 1048576: NARROWER than '..Said'. Prove '..Said' where nothing that the law and all that it calls make is longer than what came in: it says more and counts as full. Else prove '..UptoSaid'. A law counts once. -/
mutual
def uptoBulk {H : Type} : DataW H → Nat
  | .lit (.string bytes) => bytes.length + 1
  | .lit _ => 1
  | .nil => 1
  | .ptr d => uptoBulk d + 1
  | .slice elems spare => uptoBulkAll elems + uptoBulkAll spare + 1
  | .agg parts => uptoBulkAll parts + 1
  | .iface _ d => uptoBulk d + 1
  | .map entries => uptoBulkEntries entries + 1
  | .held _ => 1
def uptoBulkAll {H : Type} : List (DataW H) → Nat
  | [] => 0
  | d :: r => uptoBulk d + uptoBulkAll r
def uptoBulkEntries {H : Type} : List (Lit × DataW H) → Nat
  | [] => 0
  | x :: r => uptoBulkEntry x + uptoBulkEntries r
def uptoBulkEntry {H : Type} : Lit × DataW H → Nat
  | (.string bytes, d) => bytes.length + uptoBulk d + 1
  | (_, d) => uptoBulk d + 1
 end
def uptoSmall : (H : Type) → List (DataW H) → Bool := fun _ ds => decide (uptoBulkAll ds ≤ 1048576)
def OpenSpec.upto (s : _root_.Go.ChangeSpec) : _root_.Go.OpenSpec := { _root_.Go.OpenSpec.ofChange s with cond := some uptoSmall }

/-- 'rotakeep.FlatsModular', WHERE WHAT IT READS IS OF BULK AT MOST 1048576: true; the input reads as it did. -/
def flatsModularUptoRow : OpenClaim := { program := "ytpmpfnbgjgjlgab", sum := "694ebb98526418866b6e38bf1aae9b18cda1afb576244e528e584fd3370ff29a", func := "rota/rotakeep.FlatsModular", spec := "flatsModular", unfollowed := true, recurses := true, apart := false, narrowed := true }
def FlatsModularUptoSaid : Prop := flatsModularUptoRow.holds Try.pinned (OpenSpec.upto flatsModularSpec)

/-- 'rotakeep.FlatsBeta', WHERE WHAT IT READS IS OF BULK AT MOST 1048576: true; the input reads as it did. -/
def flatsBetaUptoRow : OpenClaim := { program := "ytpmpfnbgjgjlgab", sum := "694ebb98526418866b6e38bf1aae9b18cda1afb576244e528e584fd3370ff29a", func := "rota/rotakeep.FlatsBeta", spec := "flatsBeta", unfollowed := true, recurses := true, apart := false, narrowed := true }
def FlatsBetaUptoSaid : Prop := flatsBetaUptoRow.holds Try.pinned (OpenSpec.upto flatsBetaSpec)

/-- 'rotakeep.FlatsSimple', WHERE WHAT IT READS IS OF BULK AT MOST 1048576: true; the input reads as it did. -/
def flatsSimpleUptoRow : OpenClaim := { program := "ytpmpfnbgjgjlgab", sum := "694ebb98526418866b6e38bf1aae9b18cda1afb576244e528e584fd3370ff29a", func := "rota/rotakeep.FlatsSimple", spec := "flatsSimple", unfollowed := true, recurses := true, apart := false, narrowed := true }
def FlatsSimpleUptoSaid : Prop := flatsSimpleUptoRow.holds Try.pinned (OpenSpec.upto flatsSimpleSpec)

end Rows
end Go.Proofs.Ytpmpfnbgjgjlgab
