/-
  No cell of these rows narrows 'for every input' (looked for: loops, veiled, ifaces, maps, wideKeys, modest, calm, conditions, laid).
  DERIVED. THE GIVEN ROWS OF THIS SEAT. 4 by the template 'for every input the law returns true; each argument reads behind the call as it read before'; 0 by the template 'total and deterministic' (their statements: YteeopmbddeplcaaTotals.lean).
  GIVEN WITH THE SEED: the statements are not yours to turn. If you find one false, say at which input.
  Laid BY PROGRAM, IN A SANDBOX (cutbox-rows.mjs): the forced cells as the released guide's own fill.sh prints them over the translation 310b7d5dd5b2f726… (all of the seat's roots in one cut). By AI agents, Wed Nov 11 2026. No macro, syntax, notation, axiom, sorry.
-/
import Derived.Test.YteeopmbddeplcaaChecked
import GoSem.Claim
import GoSem.ClaimJoined
import GoSem.ClaimMapViews
import Derived.JoinedTies
import Derived.KernelRfl
namespace Go.Proofs.Yteeopmbddeplcaa
/- THE CELL 'sum', in the pinned program and in every row, IS THE sha256 OF THE DUMP (.gsa) THAT YteeopmbddeplcaaProg.lean LOADS. Nothing in Lean hashes anything: it is a label: what it is worth is what the hold of that sum in a sandbox is worth. -/
noncomputable def Try.pinned : Pinned := { name := "yteeopmbddeplcaa", sum := "310b7d5dd5b2f72614d4792f41f27e65f188799852a49a17ecdcfe5afa35d04a", checked := Try.checked }
namespace Rows
def none {H : Type} : Left H := { results := [], args := [] }

/-- 'rotalaw.MeetSays': WHATEVER THE INPUT: true; the input reads as it did. -/
def meetSaysSpec : ChangeSpec := { name := "meetSays", fn := fun _ => fun
  | [d1, d2, d3, d4] => { results := [.lit (.bool true)], args := [d1, d2, d3, d4] }
  | _ => none }
def meetSaysRow : OpenClaim := { program := "yteeopmbddeplcaa", sum := "310b7d5dd5b2f72614d4792f41f27e65f188799852a49a17ecdcfe5afa35d04a", func := "rota/rotalaw.MeetSays", spec := "meetSays", unfollowed := true, recurses := true, apart := false }
def MeetSaysSaid : Prop := meetSaysRow.holds Try.pinned (OpenSpec.ofChange meetSaysSpec)

/-- ITS FALSE NEIGHBOUR: 'it returns false'. Refute it at one input. -/
def meetSaysWrong : ChangeSpec := { name := "meetSays", fn := fun _ => fun
  | [d1, d2, d3, d4] => { results := [.lit (.bool false)], args := [d1, d2, d3, d4] }
  | _ => none }
def MeetSaysWrongFalsely : Prop := meetSaysRow.holds Try.pinned (OpenSpec.ofChange meetSaysWrong)

/-- 'rotakeep.MeetEdmonds': WHATEVER THE INPUT: true; the input reads as it did. -/
def meetEdmondsSpec : ChangeSpec := { name := "meetEdmonds", fn := fun _ => fun
  | [d1, d2, d3] => { results := [.lit (.bool true)], args := [d1, d2, d3] }
  | _ => none }
def meetEdmondsRow : OpenClaim := { program := "yteeopmbddeplcaa", sum := "310b7d5dd5b2f72614d4792f41f27e65f188799852a49a17ecdcfe5afa35d04a", func := "rota/rotakeep.MeetEdmonds", spec := "meetEdmonds", unfollowed := true, recurses := true, apart := false }
def MeetEdmondsSaid : Prop := meetEdmondsRow.holds Try.pinned (OpenSpec.ofChange meetEdmondsSpec)

/-- ITS FALSE NEIGHBOUR: 'it returns false'. Refute it at one input. -/
def meetEdmondsWrong : ChangeSpec := { name := "meetEdmonds", fn := fun _ => fun
  | [d1, d2, d3] => { results := [.lit (.bool false)], args := [d1, d2, d3] }
  | _ => none }
def MeetEdmondsWrongFalsely : Prop := meetEdmondsRow.holds Try.pinned (OpenSpec.ofChange meetEdmondsWrong)

/-- 'rotakeep.MeetSame': WHATEVER THE INPUT: true; the input reads as it did. -/
def meetSameSpec : ChangeSpec := { name := "meetSame", fn := fun _ => fun
  | [d1, d2, d3] => { results := [.lit (.bool true)], args := [d1, d2, d3] }
  | _ => none }
def meetSameRow : OpenClaim := { program := "yteeopmbddeplcaa", sum := "310b7d5dd5b2f72614d4792f41f27e65f188799852a49a17ecdcfe5afa35d04a", func := "rota/rotakeep.MeetSame", spec := "meetSame", unfollowed := true, recurses := true, apart := false }
def MeetSameSaid : Prop := meetSameRow.holds Try.pinned (OpenSpec.ofChange meetSameSpec)

/-- ITS FALSE NEIGHBOUR: 'it returns false'. Refute it at one input. -/
def meetSameWrong : ChangeSpec := { name := "meetSame", fn := fun _ => fun
  | [d1, d2, d3] => { results := [.lit (.bool false)], args := [d1, d2, d3] }
  | _ => none }
def MeetSameWrongFalsely : Prop := meetSameRow.holds Try.pinned (OpenSpec.ofChange meetSameWrong)

/-- 'rotakeep.MeetUnion': WHATEVER THE INPUT: true; the input reads as it did. -/
def meetUnionSpec : ChangeSpec := { name := "meetUnion", fn := fun _ => fun
  | [d1, d2] => { results := [.lit (.bool true)], args := [d1, d2] }
  | _ => none }
def meetUnionRow : OpenClaim := { program := "yteeopmbddeplcaa", sum := "310b7d5dd5b2f72614d4792f41f27e65f188799852a49a17ecdcfe5afa35d04a", func := "rota/rotakeep.MeetUnion", spec := "meetUnion", unfollowed := true, recurses := true, apart := false }
def MeetUnionSaid : Prop := meetUnionRow.holds Try.pinned (OpenSpec.ofChange meetUnionSpec)

/-- ITS FALSE NEIGHBOUR: 'it returns false'. Refute it at one input. -/
def meetUnionWrong : ChangeSpec := { name := "meetUnion", fn := fun _ => fun
  | [d1, d2] => { results := [.lit (.bool false)], args := [d1, d2] }
  | _ => none }
def MeetUnionWrongFalsely : Prop := meetUnionRow.holds Try.pinned (OpenSpec.ofChange meetUnionWrong)

/- THE SECOND FORM. 'bulk': how many values and letters a reading holds, each counted each time it is reached (what is shared counts as often as it is met; a slice's spare places count too). A statement '..UptoSaid' is the law's where the arguments, and the package variables that the reading takes, are together of bulk at most 1048576: NARROWER than '..Said'. Prove '..Said' where nothing that the law and all that it calls make is longer than what came in: it says more and counts as full. Else prove '..UptoSaid'. A law counts once. -/
mutual
def uptoBulk {H : Type} : DataW H → Nat
  | .lit (.string bytes) => bytes.length + 1
  | .lit _ => 1
  | .nil => 1
  | .ptr d => uptoBulk d + 1
  | .slice elems spare => uptoBulkAll elems + uptoBulkAll spare + 1
  | .agg parts => uptoBulkAll parts + 1
  | .iface _ d => uptoBulk d + 1
  | .map entries => uptoBulkEntries entries + 1
  | .held _ => 1
def uptoBulkAll {H : Type} : List (DataW H) → Nat
  | [] => 0
  | d :: r => uptoBulk d + uptoBulkAll r
def uptoBulkEntries {H : Type} : List (Lit × DataW H) → Nat
  | [] => 0
  | x :: r => uptoBulkEntry x + uptoBulkEntries r
def uptoBulkEntry {H : Type} : Lit × DataW H → Nat
  | (.string bytes, d) => bytes.length + uptoBulk d + 1
  | (_, d) => uptoBulk d + 1
 end
def uptoSmall : (H : Type) → List (DataW H) → Bool := fun _ ds => decide (uptoBulkAll ds ≤ 1048576)
def OpenSpec.upto (s : _root_.Go.ChangeSpec) : _root_.Go.OpenSpec := { _root_.Go.OpenSpec.ofChange s with cond := some uptoSmall }

/-- 'rotalaw.MeetSays', WHERE WHAT IT READS IS OF BULK AT MOST 1048576: true; the input reads as it did. -/
def meetSaysUptoRow : OpenClaim := { program := "yteeopmbddeplcaa", sum := "310b7d5dd5b2f72614d4792f41f27e65f188799852a49a17ecdcfe5afa35d04a", func := "rota/rotalaw.MeetSays", spec := "meetSays", unfollowed := true, recurses := true, apart := false, narrowed := true }
def MeetSaysUptoSaid : Prop := meetSaysUptoRow.holds Try.pinned (OpenSpec.upto meetSaysSpec)

/-- 'rotakeep.MeetEdmonds', WHERE WHAT IT READS IS OF BULK AT MOST 1048576: true; the input reads as it did. -/
def meetEdmondsUptoRow : OpenClaim := { program := "yteeopmbddeplcaa", sum := "310b7d5dd5b2f72614d4792f41f27e65f188799852a49a17ecdcfe5afa35d04a", func := "rota/rotakeep.MeetEdmonds", spec := "meetEdmonds", unfollowed := true, recurses := true, apart := false, narrowed := true }
def MeetEdmondsUptoSaid : Prop := meetEdmondsUptoRow.holds Try.pinned (OpenSpec.upto meetEdmondsSpec)

/-- 'rotakeep.MeetSame', WHERE WHAT IT READS IS OF BULK AT MOST 1048576: true; the input reads as it did. -/
def meetSameUptoRow : OpenClaim := { program := "yteeopmbddeplcaa", sum := "310b7d5dd5b2f72614d4792f41f27e65f188799852a49a17ecdcfe5afa35d04a", func := "rota/rotakeep.MeetSame", spec := "meetSame", unfollowed := true, recurses := true, apart := false, narrowed := true }
def MeetSameUptoSaid : Prop := meetSameUptoRow.holds Try.pinned (OpenSpec.upto meetSameSpec)

/-- 'rotakeep.MeetUnion', WHERE WHAT IT READS IS OF BULK AT MOST 1048576: true; the input reads as it did. -/
def meetUnionUptoRow : OpenClaim := { program := "yteeopmbddeplcaa", sum := "310b7d5dd5b2f72614d4792f41f27e65f188799852a49a17ecdcfe5afa35d04a", func := "rota/rotakeep.MeetUnion", spec := "meetUnion", unfollowed := true, recurses := true, apart := false, narrowed := true }
def MeetUnionUptoSaid : Prop := meetUnionUptoRow.holds Try.pinned (OpenSpec.upto meetUnionSpec)

end Rows
end Go.Proofs.Yteeopmbddeplcaa
