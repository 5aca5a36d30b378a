/-
  No cell of these rows narrows 'for every input' (looked for: loops, veiled, ifaces, maps, wideKeys, modest, calm, conditions, laid).
  DERIVED. THE GIVEN ROWS OF THIS SEAT. 5 by the template 'for every input the law returns true; each argument reads behind the call as it read before'; 0 by the template 'total and deterministic' (their statements: YthlmnhcnpffjdaaTotals.lean).
  GIVEN WITH THE SEED: the statements are not yours to turn. If you find one false, say at which input.
  Laid BY PROGRAM, IN A SANDBOX (cutbox-rows.mjs): the forced cells as the released guide's own fill.sh prints them over the translation e82f0e24e54c3ca2… (all of the seat's roots in one cut). By AI agents, Wed Nov 11 2026. No macro, syntax, notation, axiom, sorry.
-/
import Derived.Test.YthlmnhcnpffjdaaChecked
import GoSem.Claim
import GoSem.ClaimJoined
import GoSem.ClaimMapViews
import Derived.JoinedTies
import Derived.KernelRfl
namespace Go.Proofs.Ythlmnhcnpffjdaa
/- THE CELL 'sum', in the pinned program and in every row, IS THE sha256 OF THE DUMP (.gsa) THAT YthlmnhcnpffjdaaProg.lean LOADS. Nothing in Lean hashes anything: it is a label: what it is worth is what the hold of that sum in a sandbox is worth. -/
noncomputable def Try.pinned : Pinned := { name := "ythlmnhcnpffjdaa", sum := "e82f0e24e54c3ca2a4f65c9b8eb641935d297f6a4bc6babe399654b2674e44a8", checked := Try.checked }
namespace Rows
def none {H : Type} : Left H := { results := [], args := [] }

/-- 'rotalaw.SameMinor': WHATEVER THE INPUT: true; the input reads as it did. -/
def sameMinorSpec : ChangeSpec := { name := "sameMinor", fn := fun _ => fun
  | [d1, d2] => { results := [.lit (.bool true)], args := [d1, d2] }
  | _ => none }
def sameMinorRow : OpenClaim := { program := "ythlmnhcnpffjdaa", sum := "e82f0e24e54c3ca2a4f65c9b8eb641935d297f6a4bc6babe399654b2674e44a8", func := "rota/rotalaw.SameMinor", spec := "sameMinor", unfollowed := true, recurses := true, apart := false }
def SameMinorSaid : Prop := sameMinorRow.holds Try.pinned (OpenSpec.ofChange sameMinorSpec)

/-- ITS FALSE NEIGHBOUR: 'it returns false'. Refute it at one input. -/
def sameMinorWrong : ChangeSpec := { name := "sameMinor", fn := fun _ => fun
  | [d1, d2] => { results := [.lit (.bool false)], args := [d1, d2] }
  | _ => none }
def SameMinorWrongFalsely : Prop := sameMinorRow.holds Try.pinned (OpenSpec.ofChange sameMinorWrong)

/-- 'rotakeep.SameIs': WHATEVER THE INPUT: true; the input reads as it did. -/
def sameIsSpec : ChangeSpec := { name := "sameIs", fn := fun _ => fun
  | [d1, d2] => { results := [.lit (.bool true)], args := [d1, d2] }
  | _ => none }
def sameIsRow : OpenClaim := { program := "ythlmnhcnpffjdaa", sum := "e82f0e24e54c3ca2a4f65c9b8eb641935d297f6a4bc6babe399654b2674e44a8", func := "rota/rotakeep.SameIs", spec := "sameIs", unfollowed := true, recurses := true, apart := false }
def SameIsSaid : Prop := sameIsRow.holds Try.pinned (OpenSpec.ofChange sameIsSpec)

/-- ITS FALSE NEIGHBOUR: 'it returns false'. Refute it at one input. -/
def sameIsWrong : ChangeSpec := { name := "sameIs", fn := fun _ => fun
  | [d1, d2] => { results := [.lit (.bool false)], args := [d1, d2] }
  | _ => none }
def SameIsWrongFalsely : Prop := sameIsRow.holds Try.pinned (OpenSpec.ofChange sameIsWrong)

/-- 'rotakeep.SameMinors': WHATEVER THE INPUT: true; the input reads as it did. -/
def sameMinorsSpec : ChangeSpec := { name := "sameMinors", fn := fun _ => fun
  | [d1, d2, d3, d4] => { results := [.lit (.bool true)], args := [d1, d2, d3, d4] }
  | _ => none }
def sameMinorsRow : OpenClaim := { program := "ythlmnhcnpffjdaa", sum := "e82f0e24e54c3ca2a4f65c9b8eb641935d297f6a4bc6babe399654b2674e44a8", func := "rota/rotakeep.SameMinors", spec := "sameMinors", unfollowed := true, recurses := true, apart := false }
def SameMinorsSaid : Prop := sameMinorsRow.holds Try.pinned (OpenSpec.ofChange sameMinorsSpec)

/-- ITS FALSE NEIGHBOUR: 'it returns false'. Refute it at one input. -/
def sameMinorsWrong : ChangeSpec := { name := "sameMinors", fn := fun _ => fun
  | [d1, d2, d3, d4] => { results := [.lit (.bool false)], args := [d1, d2, d3, d4] }
  | _ => none }
def SameMinorsWrongFalsely : Prop := sameMinorsRow.holds Try.pinned (OpenSpec.ofChange sameMinorsWrong)

/-- 'rotakeep.SameOrbit': WHATEVER THE INPUT: true; the input reads as it did. -/
def sameOrbitSpec : ChangeSpec := { name := "sameOrbit", fn := fun _ => fun
  | [d] => { results := [.lit (.bool true)], args := [d] }
  | _ => none }
def sameOrbitRow : OpenClaim := { program := "ythlmnhcnpffjdaa", sum := "e82f0e24e54c3ca2a4f65c9b8eb641935d297f6a4bc6babe399654b2674e44a8", func := "rota/rotakeep.SameOrbit", spec := "sameOrbit", unfollowed := true, recurses := true, apart := false }
def SameOrbitSaid : Prop := sameOrbitRow.holds Try.pinned (OpenSpec.ofChange sameOrbitSpec)

/-- ITS FALSE NEIGHBOUR: 'it returns false'. Refute it at one input. -/
def sameOrbitWrong : ChangeSpec := { name := "sameOrbit", fn := fun _ => fun
  | [d] => { results := [.lit (.bool false)], args := [d] }
  | _ => none }
def SameOrbitWrongFalsely : Prop := sameOrbitRow.holds Try.pinned (OpenSpec.ofChange sameOrbitWrong)

/-- 'rotakeep.SameChain': WHATEVER THE INPUT: true; the input reads as it did. -/
def sameChainSpec : ChangeSpec := { name := "sameChain", fn := fun _ => fun
  | [d1, d2, d3] => { results := [.lit (.bool true)], args := [d1, d2, d3] }
  | _ => none }
def sameChainRow : OpenClaim := { program := "ythlmnhcnpffjdaa", sum := "e82f0e24e54c3ca2a4f65c9b8eb641935d297f6a4bc6babe399654b2674e44a8", func := "rota/rotakeep.SameChain", spec := "sameChain", unfollowed := true, recurses := true, apart := false }
def SameChainSaid : Prop := sameChainRow.holds Try.pinned (OpenSpec.ofChange sameChainSpec)

/-- ITS FALSE NEIGHBOUR: 'it returns false'. Refute it at one input. -/
def sameChainWrong : ChangeSpec := { name := "sameChain", fn := fun _ => fun
  | [d1, d2, d3] => { results := [.lit (.bool false)], args := [d1, d2, d3] }
  | _ => none }
def SameChainWrongFalsely : Prop := sameChainRow.holds Try.pinned (OpenSpec.ofChange sameChainWrong)

/- THE SECOND FORM. 'bulk': how many values and letters a reading holds, each counted each time it is reached (what is shared counts as often as it is met; a slice's spare places count too). A statement '..UptoSaid' is the law's where the arguments, and the package variables that the reading takes, are together of bulk at most 1048576: NARROWER than '..Said'. Prove '..Said' where nothing that the law and all that it calls make is longer than what came in: it says more and counts as full. Else prove '..UptoSaid'. A law counts once. -/
mutual
def uptoBulk {H : Type} : DataW H → Nat
  | .lit (.string bytes) => bytes.length + 1
  | .lit _ => 1
  | .nil => 1
  | .ptr d => uptoBulk d + 1
  | .slice elems spare => uptoBulkAll elems + uptoBulkAll spare + 1
  | .agg parts => uptoBulkAll parts + 1
  | .iface _ d => uptoBulk d + 1
  | .map entries => uptoBulkEntries entries + 1
  | .held _ => 1
def uptoBulkAll {H : Type} : List (DataW H) → Nat
  | [] => 0
  | d :: r => uptoBulk d + uptoBulkAll r
def uptoBulkEntries {H : Type} : List (Lit × DataW H) → Nat
  | [] => 0
  | x :: r => uptoBulkEntry x + uptoBulkEntries r
def uptoBulkEntry {H : Type} : Lit × DataW H → Nat
  | (.string bytes, d) => bytes.length + uptoBulk d + 1
  | (_, d) => uptoBulk d + 1
 end
def uptoSmall : (H : Type) → List (DataW H) → Bool := fun _ ds => decide (uptoBulkAll ds ≤ 1048576)
def OpenSpec.upto (s : _root_.Go.ChangeSpec) : _root_.Go.OpenSpec := { _root_.Go.OpenSpec.ofChange s with cond := some uptoSmall }

/-- 'rotalaw.SameMinor', WHERE WHAT IT READS IS OF BULK AT MOST 1048576: true; the input reads as it did. -/
def sameMinorUptoRow : OpenClaim := { program := "ythlmnhcnpffjdaa", sum := "e82f0e24e54c3ca2a4f65c9b8eb641935d297f6a4bc6babe399654b2674e44a8", func := "rota/rotalaw.SameMinor", spec := "sameMinor", unfollowed := true, recurses := true, apart := false, narrowed := true }
def SameMinorUptoSaid : Prop := sameMinorUptoRow.holds Try.pinned (OpenSpec.upto sameMinorSpec)

/-- 'rotakeep.SameIs', WHERE WHAT IT READS IS OF BULK AT MOST 1048576: true; the input reads as it did. -/
def sameIsUptoRow : OpenClaim := { program := "ythlmnhcnpffjdaa", sum := "e82f0e24e54c3ca2a4f65c9b8eb641935d297f6a4bc6babe399654b2674e44a8", func := "rota/rotakeep.SameIs", spec := "sameIs", unfollowed := true, recurses := true, apart := false, narrowed := true }
def SameIsUptoSaid : Prop := sameIsUptoRow.holds Try.pinned (OpenSpec.upto sameIsSpec)

/-- 'rotakeep.SameMinors', WHERE WHAT IT READS IS OF BULK AT MOST 1048576: true; the input reads as it did. -/
def sameMinorsUptoRow : OpenClaim := { program := "ythlmnhcnpffjdaa", sum := "e82f0e24e54c3ca2a4f65c9b8eb641935d297f6a4bc6babe399654b2674e44a8", func := "rota/rotakeep.SameMinors", spec := "sameMinors", unfollowed := true, recurses := true, apart := false, narrowed := true }
def SameMinorsUptoSaid : Prop := sameMinorsUptoRow.holds Try.pinned (OpenSpec.upto sameMinorsSpec)

/-- 'rotakeep.SameOrbit', WHERE WHAT IT READS IS OF BULK AT MOST 1048576: true; the input reads as it did. -/
def sameOrbitUptoRow : OpenClaim := { program := "ythlmnhcnpffjdaa", sum := "e82f0e24e54c3ca2a4f65c9b8eb641935d297f6a4bc6babe399654b2674e44a8", func := "rota/rotakeep.SameOrbit", spec := "sameOrbit", unfollowed := true, recurses := true, apart := false, narrowed := true }
def SameOrbitUptoSaid : Prop := sameOrbitUptoRow.holds Try.pinned (OpenSpec.upto sameOrbitSpec)

/-- 'rotakeep.SameChain', WHERE WHAT IT READS IS OF BULK AT MOST 1048576: true; the input reads as it did. -/
def sameChainUptoRow : OpenClaim := { program := "ythlmnhcnpffjdaa", sum := "e82f0e24e54c3ca2a4f65c9b8eb641935d297f6a4bc6babe399654b2674e44a8", func := "rota/rotakeep.SameChain", spec := "sameChain", unfollowed := true, recurses := true, apart := false, narrowed := true }
def SameChainUptoSaid : Prop := sameChainUptoRow.holds Try.pinned (OpenSpec.upto sameChainSpec)

end Rows
end Go.Proofs.Ythlmnhcnpffjdaa
