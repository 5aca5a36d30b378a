/-
  No cell of these rows narrows 'for every input' (looked for: loops, veiled, ifaces, maps, wideKeys, modest, calm, conditions, laid).
  DERIVED. THE GIVEN ROWS OF THIS SEAT. 6 by the template 'for every input the law returns true; each argument reads behind the call as it read before'; 0 by the template 'total and deterministic' (their statements: YtpmpfnbgjgjlgaaTotals.lean).
  GIVEN WITH THE SEED: the statements are not yours to turn. If you find one false, say at which input.
  Laid BY PROGRAM, IN A SANDBOX (cutbox-rows.mjs): the forced cells as the released guide's own fill.sh prints them over the translation 7981d6ddf5ca6831… (all of the seat's roots in one cut). By AI agents, Wed Nov 11 2026. No macro, syntax, notation, axiom, sorry.
-/
import Derived.Test.YtpmpfnbgjgjlgaaChecked
import GoSem.Claim
import GoSem.ClaimJoined
import GoSem.ClaimMapViews
import Derived.JoinedTies
import Derived.KernelRfl
namespace Go.Proofs.Ytpmpfnbgjgjlgaa
/- THE CELL 'sum', in the pinned program and in every row, IS THE sha256 OF THE DUMP (.gsa) THAT YtpmpfnbgjgjlgaaProg.lean LOADS. Nothing in Lean hashes anything: it is a label: what it is worth is what the hold of that sum in a sandbox is worth. -/
noncomputable def Try.pinned : Pinned := { name := "ytpmpfnbgjgjlgaa", sum := "7981d6ddf5ca6831ead596c6bd730768780ddd8d4e65d68005d277eed41c4862", checked := Try.checked }
namespace Rows
def none {H : Type} : Left H := { results := [], args := [] }

/-- 'rotalaw.FlatsSays': WHATEVER THE INPUT: true; the input reads as it did. -/
def flatsSaysSpec : ChangeSpec := { name := "flatsSays", fn := fun _ => fun
  | [d] => { results := [.lit (.bool true)], args := [d] }
  | _ => none }
def flatsSaysRow : OpenClaim := { program := "ytpmpfnbgjgjlgaa", sum := "7981d6ddf5ca6831ead596c6bd730768780ddd8d4e65d68005d277eed41c4862", func := "rota/rotalaw.FlatsSays", spec := "flatsSays", unfollowed := true, recurses := true, apart := false }
def FlatsSaysSaid : Prop := flatsSaysRow.holds Try.pinned (OpenSpec.ofChange flatsSaysSpec)

/-- ITS FALSE NEIGHBOUR: 'it returns false'. Refute it at one input. -/
def flatsSaysWrong : ChangeSpec := { name := "flatsSays", fn := fun _ => fun
  | [d] => { results := [.lit (.bool false)], args := [d] }
  | _ => none }
def FlatsSaysWrongFalsely : Prop := flatsSaysRow.holds Try.pinned (OpenSpec.ofChange flatsSaysWrong)

/-- 'rotalaw.FlatsLattice': WHATEVER THE INPUT: true; the input reads as it did. -/
def flatsLatticeSpec : ChangeSpec := { name := "flatsLattice", fn := fun _ => fun
  | [d1, d2] => { results := [.lit (.bool true)], args := [d1, d2] }
  | _ => none }
def flatsLatticeRow : OpenClaim := { program := "ytpmpfnbgjgjlgaa", sum := "7981d6ddf5ca6831ead596c6bd730768780ddd8d4e65d68005d277eed41c4862", func := "rota/rotalaw.FlatsLattice", spec := "flatsLattice", unfollowed := true, recurses := true, apart := false }
def FlatsLatticeSaid : Prop := flatsLatticeRow.holds Try.pinned (OpenSpec.ofChange flatsLatticeSpec)

/-- ITS FALSE NEIGHBOUR: 'it returns false'. Refute it at one input. -/
def flatsLatticeWrong : ChangeSpec := { name := "flatsLattice", fn := fun _ => fun
  | [d1, d2] => { results := [.lit (.bool false)], args := [d1, d2] }
  | _ => none }
def FlatsLatticeWrongFalsely : Prop := flatsLatticeRow.holds Try.pinned (OpenSpec.ofChange flatsLatticeWrong)

/-- 'rotakeep.FlatsWhitney': WHATEVER THE INPUT: true; the input reads as it did. -/
def flatsWhitneySpec : ChangeSpec := { name := "flatsWhitney", fn := fun _ => fun
  | [d] => { results := [.lit (.bool true)], args := [d] }
  | _ => none }
def flatsWhitneyRow : OpenClaim := { program := "ytpmpfnbgjgjlgaa", sum := "7981d6ddf5ca6831ead596c6bd730768780ddd8d4e65d68005d277eed41c4862", func := "rota/rotakeep.FlatsWhitney", spec := "flatsWhitney", unfollowed := true, recurses := true, apart := false }
def FlatsWhitneySaid : Prop := flatsWhitneyRow.holds Try.pinned (OpenSpec.ofChange flatsWhitneySpec)

/-- ITS FALSE NEIGHBOUR: 'it returns false'. Refute it at one input. -/
def flatsWhitneyWrong : ChangeSpec := { name := "flatsWhitney", fn := fun _ => fun
  | [d] => { results := [.lit (.bool false)], args := [d] }
  | _ => none }
def FlatsWhitneyWrongFalsely : Prop := flatsWhitneyRow.holds Try.pinned (OpenSpec.ofChange flatsWhitneyWrong)

/-- 'rotakeep.FlatsConcave': WHATEVER THE INPUT: true; the input reads as it did. -/
def flatsConcaveSpec : ChangeSpec := { name := "flatsConcave", fn := fun _ => fun
  | [d] => { results := [.lit (.bool true)], args := [d] }
  | _ => none }
def flatsConcaveRow : OpenClaim := { program := "ytpmpfnbgjgjlgaa", sum := "7981d6ddf5ca6831ead596c6bd730768780ddd8d4e65d68005d277eed41c4862", func := "rota/rotakeep.FlatsConcave", spec := "flatsConcave", unfollowed := true, recurses := true, apart := false }
def FlatsConcaveSaid : Prop := flatsConcaveRow.holds Try.pinned (OpenSpec.ofChange flatsConcaveSpec)

/-- ITS FALSE NEIGHBOUR: 'it returns false'. Refute it at one input. -/
def flatsConcaveWrong : ChangeSpec := { name := "flatsConcave", fn := fun _ => fun
  | [d] => { results := [.lit (.bool false)], args := [d] }
  | _ => none }
def FlatsConcaveWrongFalsely : Prop := flatsConcaveRow.holds Try.pinned (OpenSpec.ofChange flatsConcaveWrong)

/-- 'rotakeep.FlatsHeavy': WHATEVER THE INPUT: true; the input reads as it did. -/
def flatsHeavySpec : ChangeSpec := { name := "flatsHeavy", fn := fun _ => fun
  | [d] => { results := [.lit (.bool true)], args := [d] }
  | _ => none }
def flatsHeavyRow : OpenClaim := { program := "ytpmpfnbgjgjlgaa", sum := "7981d6ddf5ca6831ead596c6bd730768780ddd8d4e65d68005d277eed41c4862", func := "rota/rotakeep.FlatsHeavy", spec := "flatsHeavy", unfollowed := true, recurses := true, apart := false }
def FlatsHeavySaid : Prop := flatsHeavyRow.holds Try.pinned (OpenSpec.ofChange flatsHeavySpec)

/-- ITS FALSE NEIGHBOUR: 'it returns false'. Refute it at one input. -/
def flatsHeavyWrong : ChangeSpec := { name := "flatsHeavy", fn := fun _ => fun
  | [d] => { results := [.lit (.bool false)], args := [d] }
  | _ => none }
def FlatsHeavyWrongFalsely : Prop := flatsHeavyRow.holds Try.pinned (OpenSpec.ofChange flatsHeavyWrong)

/-- 'rotakeep.FlatsMobius': WHATEVER THE INPUT: true; the input reads as it did. -/
def flatsMobiusSpec : ChangeSpec := { name := "flatsMobius", fn := fun _ => fun
  | [d1, d2] => { results := [.lit (.bool true)], args := [d1, d2] }
  | _ => none }
def flatsMobiusRow : OpenClaim := { program := "ytpmpfnbgjgjlgaa", sum := "7981d6ddf5ca6831ead596c6bd730768780ddd8d4e65d68005d277eed41c4862", func := "rota/rotakeep.FlatsMobius", spec := "flatsMobius", unfollowed := true, recurses := true, apart := false }
def FlatsMobiusSaid : Prop := flatsMobiusRow.holds Try.pinned (OpenSpec.ofChange flatsMobiusSpec)

/-- ITS FALSE NEIGHBOUR: 'it returns false'. Refute it at one input. -/
def flatsMobiusWrong : ChangeSpec := { name := "flatsMobius", fn := fun _ => fun
  | [d1, d2] => { results := [.lit (.bool false)], args := [d1, d2] }
  | _ => none }
def FlatsMobiusWrongFalsely : Prop := flatsMobiusRow.holds Try.pinned (OpenSpec.ofChange flatsMobiusWrong)

/- THE SECOND FORM. 'bulk': how many values and letters a reading holds, each counted each time it is reached (what is shared counts as often as it is met; a slice's spare places count too). A statement '..UptoSaid' is the law's where the arguments, and the package variables that the reading takes, are together of bulk at most 1048576: NARROWER than '..Said'. Prove '..Said' where nothing that the law and all that it calls make is longer than what came in: it says more and counts as full. Else prove '..UptoSaid'. A law counts once. -/
mutual
def uptoBulk {H : Type} : DataW H → Nat
  | .lit (.string bytes) => bytes.length + 1
  | .lit _ => 1
  | .nil => 1
  | .ptr d => uptoBulk d + 1
  | .slice elems spare => uptoBulkAll elems + uptoBulkAll spare + 1
  | .agg parts => uptoBulkAll parts + 1
  | .iface _ d => uptoBulk d + 1
  | .map entries => uptoBulkEntries entries + 1
  | .held _ => 1
def uptoBulkAll {H : Type} : List (DataW H) → Nat
  | [] => 0
  | d :: r => uptoBulk d + uptoBulkAll r
def uptoBulkEntries {H : Type} : List (Lit × DataW H) → Nat
  | [] => 0
  | x :: r => uptoBulkEntry x + uptoBulkEntries r
def uptoBulkEntry {H : Type} : Lit × DataW H → Nat
  | (.string bytes, d) => bytes.length + uptoBulk d + 1
  | (_, d) => uptoBulk d + 1
 end
def uptoSmall : (H : Type) → List (DataW H) → Bool := fun _ ds => decide (uptoBulkAll ds ≤ 1048576)
def OpenSpec.upto (s : _root_.Go.ChangeSpec) : _root_.Go.OpenSpec := { _root_.Go.OpenSpec.ofChange s with cond := some uptoSmall }

/-- 'rotalaw.FlatsSays', WHERE WHAT IT READS IS OF BULK AT MOST 1048576: true; the input reads as it did. -/
def flatsSaysUptoRow : OpenClaim := { program := "ytpmpfnbgjgjlgaa", sum := "7981d6ddf5ca6831ead596c6bd730768780ddd8d4e65d68005d277eed41c4862", func := "rota/rotalaw.FlatsSays", spec := "flatsSays", unfollowed := true, recurses := true, apart := false, narrowed := true }
def FlatsSaysUptoSaid : Prop := flatsSaysUptoRow.holds Try.pinned (OpenSpec.upto flatsSaysSpec)

/-- 'rotalaw.FlatsLattice', WHERE WHAT IT READS IS OF BULK AT MOST 1048576: true; the input reads as it did. -/
def flatsLatticeUptoRow : OpenClaim := { program := "ytpmpfnbgjgjlgaa", sum := "7981d6ddf5ca6831ead596c6bd730768780ddd8d4e65d68005d277eed41c4862", func := "rota/rotalaw.FlatsLattice", spec := "flatsLattice", unfollowed := true, recurses := true, apart := false, narrowed := true }
def FlatsLatticeUptoSaid : Prop := flatsLatticeUptoRow.holds Try.pinned (OpenSpec.upto flatsLatticeSpec)

/-- 'rotakeep.FlatsWhitney', WHERE WHAT IT READS IS OF BULK AT MOST 1048576: true; the input reads as it did. -/
def flatsWhitneyUptoRow : OpenClaim := { program := "ytpmpfnbgjgjlgaa", sum := "7981d6ddf5ca6831ead596c6bd730768780ddd8d4e65d68005d277eed41c4862", func := "rota/rotakeep.FlatsWhitney", spec := "flatsWhitney", unfollowed := true, recurses := true, apart := false, narrowed := true }
def FlatsWhitneyUptoSaid : Prop := flatsWhitneyUptoRow.holds Try.pinned (OpenSpec.upto flatsWhitneySpec)

/-- 'rotakeep.FlatsConcave', WHERE WHAT IT READS IS OF BULK AT MOST 1048576: true; the input reads as it did. -/
def flatsConcaveUptoRow : OpenClaim := { program := "ytpmpfnbgjgjlgaa", sum := "7981d6ddf5ca6831ead596c6bd730768780ddd8d4e65d68005d277eed41c4862", func := "rota/rotakeep.FlatsConcave", spec := "flatsConcave", unfollowed := true, recurses := true, apart := false, narrowed := true }
def FlatsConcaveUptoSaid : Prop := flatsConcaveUptoRow.holds Try.pinned (OpenSpec.upto flatsConcaveSpec)

/-- 'rotakeep.FlatsHeavy', WHERE WHAT IT READS IS OF BULK AT MOST 1048576: true; the input reads as it did. -/
def flatsHeavyUptoRow : OpenClaim := { program := "ytpmpfnbgjgjlgaa", sum := "7981d6ddf5ca6831ead596c6bd730768780ddd8d4e65d68005d277eed41c4862", func := "rota/rotakeep.FlatsHeavy", spec := "flatsHeavy", unfollowed := true, recurses := true, apart := false, narrowed := true }
def FlatsHeavyUptoSaid : Prop := flatsHeavyUptoRow.holds Try.pinned (OpenSpec.upto flatsHeavySpec)

/-- 'rotakeep.FlatsMobius', WHERE WHAT IT READS IS OF BULK AT MOST 1048576: true; the input reads as it did. -/
def flatsMobiusUptoRow : OpenClaim := { program := "ytpmpfnbgjgjlgaa", sum := "7981d6ddf5ca6831ead596c6bd730768780ddd8d4e65d68005d277eed41c4862", func := "rota/rotakeep.FlatsMobius", spec := "flatsMobius", unfollowed := true, recurses := true, apart := false, narrowed := true }
def FlatsMobiusUptoSaid : Prop := flatsMobiusUptoRow.holds Try.pinned (OpenSpec.upto flatsMobiusSpec)

end Rows
end Go.Proofs.Ytpmpfnbgjgjlgaa
