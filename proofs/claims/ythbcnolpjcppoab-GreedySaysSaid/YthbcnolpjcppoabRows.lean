/-
  No cell of these rows narrows 'for every input' (looked for: loops, veiled, ifaces, maps, wideKeys, modest, calm, conditions, laid).
  DERIVED. THE GIVEN ROWS OF THIS SEAT. 5 by the template 'for every input the law returns true; each argument reads behind the call as it read before'; 0 by the template 'total and deterministic' (their statements: YthbcnolpjcppoabTotals.lean).
  GIVEN WITH THE SEED: the statements are not yours to turn. If you find one false, say at which input.
  Laid BY PROGRAM, IN A SANDBOX (cutbox-rows.mjs): the forced cells as the released guide's own fill.sh prints them over the translation 2b64d057b6ce4014… (all of the seat's roots in one cut). By AI agents, Wed Nov 11 2026. No macro, syntax, notation, axiom, sorry.
-/
import Derived.Test.YthbcnolpjcppoabChecked
import GoSem.Claim
import GoSem.ClaimJoined
import GoSem.ClaimMapViews
import Derived.JoinedTies
import Derived.KernelRfl
namespace Go.Proofs.Ythbcnolpjcppoab
/- THE CELL 'sum', in the pinned program and in every row, IS THE sha256 OF THE DUMP (.gsa) THAT YthbcnolpjcppoabProg.lean LOADS. Nothing in Lean hashes anything: it is a label: what it is worth is what the hold of that sum in a sandbox is worth. -/
noncomputable def Try.pinned : Pinned := { name := "ythbcnolpjcppoab", sum := "2b64d057b6ce4014286d2a49272792209df6c94830dc4ab8f8ce2fda5f7a9976", checked := Try.checked }
namespace Rows
def none {H : Type} : Left H := { results := [], args := [] }

/-- 'rotakeep.MinorsFree': WHATEVER THE INPUT: true; the input reads as it did. -/
def minorsFreeSpec : ChangeSpec := { name := "minorsFree", fn := fun _ => fun
  | [d1, d2] => { results := [.lit (.bool true)], args := [d1, d2] }
  | _ => none }
def minorsFreeRow : OpenClaim := { program := "ythbcnolpjcppoab", sum := "2b64d057b6ce4014286d2a49272792209df6c94830dc4ab8f8ce2fda5f7a9976", func := "rota/rotakeep.MinorsFree", spec := "minorsFree", unfollowed := true, recurses := true, apart := false }
def MinorsFreeSaid : Prop := minorsFreeRow.holds Try.pinned (OpenSpec.ofChange minorsFreeSpec)

/-- ITS FALSE NEIGHBOUR: 'it returns false'. Refute it at one input. -/
def minorsFreeWrong : ChangeSpec := { name := "minorsFree", fn := fun _ => fun
  | [d1, d2] => { results := [.lit (.bool false)], args := [d1, d2] }
  | _ => none }
def MinorsFreeWrongFalsely : Prop := minorsFreeRow.holds Try.pinned (OpenSpec.ofChange minorsFreeWrong)

/-- 'rotalaw.GreedySays': WHATEVER THE INPUT: true; the input reads as it did. -/
def greedySaysSpec : ChangeSpec := { name := "greedySays", fn := fun _ => fun
  | [d1, d2, d3] => { results := [.lit (.bool true)], args := [d1, d2, d3] }
  | _ => none }
def greedySaysRow : OpenClaim := { program := "ythbcnolpjcppoab", sum := "2b64d057b6ce4014286d2a49272792209df6c94830dc4ab8f8ce2fda5f7a9976", func := "rota/rotalaw.GreedySays", spec := "greedySays", inPlace := ["slices.overlaps[int]"], unfollowed := true, recurses := true, apart := false }
def GreedySaysSaid : Prop := greedySaysRow.holds Try.pinned (OpenSpec.ofChange greedySaysSpec)

/-- ITS FALSE NEIGHBOUR: 'it returns false'. Refute it at one input. -/
def greedySaysWrong : ChangeSpec := { name := "greedySays", fn := fun _ => fun
  | [d1, d2, d3] => { results := [.lit (.bool false)], args := [d1, d2, d3] }
  | _ => none }
def GreedySaysWrongFalsely : Prop := greedySaysRow.holds Try.pinned (OpenSpec.ofChange greedySaysWrong)

/-- 'rotakeep.GreedyDual': WHATEVER THE INPUT: true; the input reads as it did. -/
def greedyDualSpec : ChangeSpec := { name := "greedyDual", fn := fun _ => fun
  | [d1, d2] => { results := [.lit (.bool true)], args := [d1, d2] }
  | _ => none }
def greedyDualRow : OpenClaim := { program := "ythbcnolpjcppoab", sum := "2b64d057b6ce4014286d2a49272792209df6c94830dc4ab8f8ce2fda5f7a9976", func := "rota/rotakeep.GreedyDual", spec := "greedyDual", unfollowed := true, recurses := true, apart := false }
def GreedyDualSaid : Prop := greedyDualRow.holds Try.pinned (OpenSpec.ofChange greedyDualSpec)

/-- ITS FALSE NEIGHBOUR: 'it returns false'. Refute it at one input. -/
def greedyDualWrong : ChangeSpec := { name := "greedyDual", fn := fun _ => fun
  | [d1, d2] => { results := [.lit (.bool false)], args := [d1, d2] }
  | _ => none }
def GreedyDualWrongFalsely : Prop := greedyDualRow.holds Try.pinned (OpenSpec.ofChange greedyDualWrong)

/-- 'rotalaw.JoinSays': WHATEVER THE INPUT: true; the input reads as it did. -/
def joinSaysSpec : ChangeSpec := { name := "joinSays", fn := fun _ => fun
  | [d1, d2] => { results := [.lit (.bool true)], args := [d1, d2] }
  | _ => none }
def joinSaysRow : OpenClaim := { program := "ythbcnolpjcppoab", sum := "2b64d057b6ce4014286d2a49272792209df6c94830dc4ab8f8ce2fda5f7a9976", func := "rota/rotalaw.JoinSays", spec := "joinSays", unfollowed := true, recurses := true, apart := false }
def JoinSaysSaid : Prop := joinSaysRow.holds Try.pinned (OpenSpec.ofChange joinSaysSpec)

/-- ITS FALSE NEIGHBOUR: 'it returns false'. Refute it at one input. -/
def joinSaysWrong : ChangeSpec := { name := "joinSays", fn := fun _ => fun
  | [d1, d2] => { results := [.lit (.bool false)], args := [d1, d2] }
  | _ => none }
def JoinSaysWrongFalsely : Prop := joinSaysRow.holds Try.pinned (OpenSpec.ofChange joinSaysWrong)

/-- 'rotakeep.JoinUnion': WHATEVER THE INPUT: true; the input reads as it did. -/
def joinUnionSpec : ChangeSpec := { name := "joinUnion", fn := fun _ => fun
  | [d1, d2] => { results := [.lit (.bool true)], args := [d1, d2] }
  | _ => none }
def joinUnionRow : OpenClaim := { program := "ythbcnolpjcppoab", sum := "2b64d057b6ce4014286d2a49272792209df6c94830dc4ab8f8ce2fda5f7a9976", func := "rota/rotakeep.JoinUnion", spec := "joinUnion", unfollowed := true, recurses := true, apart := false }
def JoinUnionSaid : Prop := joinUnionRow.holds Try.pinned (OpenSpec.ofChange joinUnionSpec)

/-- ITS FALSE NEIGHBOUR: 'it returns false'. Refute it at one input. -/
def joinUnionWrong : ChangeSpec := { name := "joinUnion", fn := fun _ => fun
  | [d1, d2] => { results := [.lit (.bool false)], args := [d1, d2] }
  | _ => none }
def JoinUnionWrongFalsely : Prop := joinUnionRow.holds Try.pinned (OpenSpec.ofChange joinUnionWrong)

/- THE SECOND FORM. 'bulk': how many values and letters a reading holds, each counted each time it is reached (what is shared counts as often as it is met; a slice's spare places count too). A statement '..UptoSaid' is the law's where the arguments, and the package variables that the reading takes, are together of bulk at most 1048576: NARROWER than '..Said'. Prove '..Said' where nothing that the law and all that it calls make is longer than what came in: it says more and counts as full. Else prove '..UptoSaid'. A law counts once. -/
mutual
def uptoBulk {H : Type} : DataW H → Nat
  | .lit (.string bytes) => bytes.length + 1
  | .lit _ => 1
  | .nil => 1
  | .ptr d => uptoBulk d + 1
  | .slice elems spare => uptoBulkAll elems + uptoBulkAll spare + 1
  | .agg parts => uptoBulkAll parts + 1
  | .iface _ d => uptoBulk d + 1
  | .map entries => uptoBulkEntries entries + 1
  | .held _ => 1
def uptoBulkAll {H : Type} : List (DataW H) → Nat
  | [] => 0
  | d :: r => uptoBulk d + uptoBulkAll r
def uptoBulkEntries {H : Type} : List (Lit × DataW H) → Nat
  | [] => 0
  | x :: r => uptoBulkEntry x + uptoBulkEntries r
def uptoBulkEntry {H : Type} : Lit × DataW H → Nat
  | (.string bytes, d) => bytes.length + uptoBulk d + 1
  | (_, d) => uptoBulk d + 1
 end
def uptoSmall : (H : Type) → List (DataW H) → Bool := fun _ ds => decide (uptoBulkAll ds ≤ 1048576)
def OpenSpec.upto (s : _root_.Go.ChangeSpec) : _root_.Go.OpenSpec := { _root_.Go.OpenSpec.ofChange s with cond := some uptoSmall }

/-- 'rotakeep.MinorsFree', WHERE WHAT IT READS IS OF BULK AT MOST 1048576: true; the input reads as it did. -/
def minorsFreeUptoRow : OpenClaim := { program := "ythbcnolpjcppoab", sum := "2b64d057b6ce4014286d2a49272792209df6c94830dc4ab8f8ce2fda5f7a9976", func := "rota/rotakeep.MinorsFree", spec := "minorsFree", unfollowed := true, recurses := true, apart := false, narrowed := true }
def MinorsFreeUptoSaid : Prop := minorsFreeUptoRow.holds Try.pinned (OpenSpec.upto minorsFreeSpec)

/-- 'rotalaw.GreedySays', WHERE WHAT IT READS IS OF BULK AT MOST 1048576: true; the input reads as it did. -/
def greedySaysUptoRow : OpenClaim := { program := "ythbcnolpjcppoab", sum := "2b64d057b6ce4014286d2a49272792209df6c94830dc4ab8f8ce2fda5f7a9976", func := "rota/rotalaw.GreedySays", spec := "greedySays", inPlace := ["slices.overlaps[int]"], unfollowed := true, recurses := true, apart := false, narrowed := true }
def GreedySaysUptoSaid : Prop := greedySaysUptoRow.holds Try.pinned (OpenSpec.upto greedySaysSpec)

/-- 'rotakeep.GreedyDual', WHERE WHAT IT READS IS OF BULK AT MOST 1048576: true; the input reads as it did. -/
def greedyDualUptoRow : OpenClaim := { program := "ythbcnolpjcppoab", sum := "2b64d057b6ce4014286d2a49272792209df6c94830dc4ab8f8ce2fda5f7a9976", func := "rota/rotakeep.GreedyDual", spec := "greedyDual", unfollowed := true, recurses := true, apart := false, narrowed := true }
def GreedyDualUptoSaid : Prop := greedyDualUptoRow.holds Try.pinned (OpenSpec.upto greedyDualSpec)

/-- 'rotalaw.JoinSays', WHERE WHAT IT READS IS OF BULK AT MOST 1048576: true; the input reads as it did. -/
def joinSaysUptoRow : OpenClaim := { program := "ythbcnolpjcppoab", sum := "2b64d057b6ce4014286d2a49272792209df6c94830dc4ab8f8ce2fda5f7a9976", func := "rota/rotalaw.JoinSays", spec := "joinSays", unfollowed := true, recurses := true, apart := false, narrowed := true }
def JoinSaysUptoSaid : Prop := joinSaysUptoRow.holds Try.pinned (OpenSpec.upto joinSaysSpec)

/-- 'rotakeep.JoinUnion', WHERE WHAT IT READS IS OF BULK AT MOST 1048576: true; the input reads as it did. -/
def joinUnionUptoRow : OpenClaim := { program := "ythbcnolpjcppoab", sum := "2b64d057b6ce4014286d2a49272792209df6c94830dc4ab8f8ce2fda5f7a9976", func := "rota/rotakeep.JoinUnion", spec := "joinUnion", unfollowed := true, recurses := true, apart := false, narrowed := true }
def JoinUnionUptoSaid : Prop := joinUnionUptoRow.holds Try.pinned (OpenSpec.upto joinUnionSpec)

end Rows
end Go.Proofs.Ythbcnolpjcppoab
