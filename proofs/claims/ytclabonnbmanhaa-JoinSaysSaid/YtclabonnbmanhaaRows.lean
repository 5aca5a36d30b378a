/-
  No cell of these rows narrows 'for every input' (looked for: loops, veiled, ifaces, maps, wideKeys, modest, calm, conditions, laid).
  DERIVED. THE GIVEN ROWS OF THIS SEAT. 5 by the template 'for every input the law returns true; each argument reads behind the call as it read before'; 0 by the template 'total and deterministic' (their statements: YtclabonnbmanhaaTotals.lean).
  GIVEN WITH THE SEED: the statements are not yours to turn. If you find one false, say at which input.
  Laid BY PROGRAM, IN A SANDBOX (cutbox-rows.mjs): the forced cells as the released guide's own fill.sh prints them over the translation 59038cf1497859a9… (all of the seat's roots in one cut). By AI agents, Wed Nov 11 2026. No macro, syntax, notation, axiom, sorry.
-/
import Derived.Test.YtclabonnbmanhaaChecked
import GoSem.Claim
import GoSem.ClaimJoined
import GoSem.ClaimMapViews
import Derived.JoinedTies
import Derived.KernelRfl
namespace Go.Proofs.Ytclabonnbmanhaa
/- THE CELL 'sum', in the pinned program and in every row, IS THE sha256 OF THE DUMP (.gsa) THAT YtclabonnbmanhaaProg.lean LOADS. Nothing in Lean hashes anything: it is a label: what it is worth is what the hold of that sum in a sandbox is worth. -/
noncomputable def Try.pinned : Pinned := { name := "ytclabonnbmanhaa", sum := "59038cf1497859a9432a94ae317bcb4c73daa0df022deaa699c36b910feee8f4", checked := Try.checked }
namespace Rows
def none {H : Type} : Left H := { results := [], args := [] }

/-- 'rotalaw.JoinSays': WHATEVER THE INPUT: true; the input reads as it did. -/
def joinSaysSpec : ChangeSpec := { name := "joinSays", fn := fun _ => fun
  | [d1, d2] => { results := [.lit (.bool true)], args := [d1, d2] }
  | _ => none }
def joinSaysRow : OpenClaim := { program := "ytclabonnbmanhaa", sum := "59038cf1497859a9432a94ae317bcb4c73daa0df022deaa699c36b910feee8f4", func := "rota/rotalaw.JoinSays", spec := "joinSays", unfollowed := true, recurses := true, apart := false }
def JoinSaysSaid : Prop := joinSaysRow.holds Try.pinned (OpenSpec.ofChange joinSaysSpec)

/-- ITS FALSE NEIGHBOUR: 'it returns false'. Refute it at one input. -/
def joinSaysWrong : ChangeSpec := { name := "joinSays", fn := fun _ => fun
  | [d1, d2] => { results := [.lit (.bool false)], args := [d1, d2] }
  | _ => none }
def JoinSaysWrongFalsely : Prop := joinSaysRow.holds Try.pinned (OpenSpec.ofChange joinSaysWrong)

/-- 'rotakeep.JoinCovers': WHATEVER THE INPUT: true; the input reads as it did. -/
def joinCoversSpec : ChangeSpec := { name := "joinCovers", fn := fun _ => fun
  | [d] => { results := [.lit (.bool true)], args := [d] }
  | _ => none }
def joinCoversRow : OpenClaim := { program := "ytclabonnbmanhaa", sum := "59038cf1497859a9432a94ae317bcb4c73daa0df022deaa699c36b910feee8f4", func := "rota/rotakeep.JoinCovers", spec := "joinCovers", unfollowed := true, recurses := true, apart := false }
def JoinCoversSaid : Prop := joinCoversRow.holds Try.pinned (OpenSpec.ofChange joinCoversSpec)

/-- ITS FALSE NEIGHBOUR: 'it returns false'. Refute it at one input. -/
def joinCoversWrong : ChangeSpec := { name := "joinCovers", fn := fun _ => fun
  | [d] => { results := [.lit (.bool false)], args := [d] }
  | _ => none }
def JoinCoversWrongFalsely : Prop := joinCoversRow.holds Try.pinned (OpenSpec.ofChange joinCoversWrong)

/-- 'rotakeep.JoinPacks': WHATEVER THE INPUT: true; the input reads as it did. -/
def joinPacksSpec : ChangeSpec := { name := "joinPacks", fn := fun _ => fun
  | [d] => { results := [.lit (.bool true)], args := [d] }
  | _ => none }
def joinPacksRow : OpenClaim := { program := "ytclabonnbmanhaa", sum := "59038cf1497859a9432a94ae317bcb4c73daa0df022deaa699c36b910feee8f4", func := "rota/rotakeep.JoinPacks", spec := "joinPacks", unfollowed := true, recurses := true, apart := false }
def JoinPacksSaid : Prop := joinPacksRow.holds Try.pinned (OpenSpec.ofChange joinPacksSpec)

/-- ITS FALSE NEIGHBOUR: 'it returns false'. Refute it at one input. -/
def joinPacksWrong : ChangeSpec := { name := "joinPacks", fn := fun _ => fun
  | [d] => { results := [.lit (.bool false)], args := [d] }
  | _ => none }
def JoinPacksWrongFalsely : Prop := joinPacksRow.holds Try.pinned (OpenSpec.ofChange joinPacksWrong)

/-- 'rotakeep.JoinUnion': WHATEVER THE INPUT: true; the input reads as it did. -/
def joinUnionSpec : ChangeSpec := { name := "joinUnion", fn := fun _ => fun
  | [d1, d2] => { results := [.lit (.bool true)], args := [d1, d2] }
  | _ => none }
def joinUnionRow : OpenClaim := { program := "ytclabonnbmanhaa", sum := "59038cf1497859a9432a94ae317bcb4c73daa0df022deaa699c36b910feee8f4", func := "rota/rotakeep.JoinUnion", spec := "joinUnion", unfollowed := true, recurses := true, apart := false }
def JoinUnionSaid : Prop := joinUnionRow.holds Try.pinned (OpenSpec.ofChange joinUnionSpec)

/-- ITS FALSE NEIGHBOUR: 'it returns false'. Refute it at one input. -/
def joinUnionWrong : ChangeSpec := { name := "joinUnion", fn := fun _ => fun
  | [d1, d2] => { results := [.lit (.bool false)], args := [d1, d2] }
  | _ => none }
def JoinUnionWrongFalsely : Prop := joinUnionRow.holds Try.pinned (OpenSpec.ofChange joinUnionWrong)

/-- 'rotakeep.JoinRank': WHATEVER THE INPUT: true; the input reads as it did. -/
def joinRankSpec : ChangeSpec := { name := "joinRank", fn := fun _ => fun
  | [d1, d2] => { results := [.lit (.bool true)], args := [d1, d2] }
  | _ => none }
def joinRankRow : OpenClaim := { program := "ytclabonnbmanhaa", sum := "59038cf1497859a9432a94ae317bcb4c73daa0df022deaa699c36b910feee8f4", func := "rota/rotakeep.JoinRank", spec := "joinRank", unfollowed := true, recurses := true, apart := false }
def JoinRankSaid : Prop := joinRankRow.holds Try.pinned (OpenSpec.ofChange joinRankSpec)

/-- ITS FALSE NEIGHBOUR: 'it returns false'. Refute it at one input. -/
def joinRankWrong : ChangeSpec := { name := "joinRank", fn := fun _ => fun
  | [d1, d2] => { results := [.lit (.bool false)], args := [d1, d2] }
  | _ => none }
def JoinRankWrongFalsely : Prop := joinRankRow.holds Try.pinned (OpenSpec.ofChange joinRankWrong)

/- THE SECOND FORM. 'bulk': how many values and letters a reading holds, each counted each time it is reached (what is shared counts as often as it is met; a slice's spare places count too). A statement '..UptoSaid' is the law's where the arguments, and the package variables that the reading takes, are together of bulk at most 1048576: NARROWER than '..Said'. Prove '..Said' where nothing that the law and all that it calls make is longer than what came in: it says more and counts as full. Else prove '..UptoSaid'. A law counts once. -/
mutual
def uptoBulk {H : Type} : DataW H → Nat
  | .lit (.string bytes) => bytes.length + 1
  | .lit _ => 1
  | .nil => 1
  | .ptr d => uptoBulk d + 1
  | .slice elems spare => uptoBulkAll elems + uptoBulkAll spare + 1
  | .agg parts => uptoBulkAll parts + 1
  | .iface _ d => uptoBulk d + 1
  | .map entries => uptoBulkEntries entries + 1
  | .held _ => 1
def uptoBulkAll {H : Type} : List (DataW H) → Nat
  | [] => 0
  | d :: r => uptoBulk d + uptoBulkAll r
def uptoBulkEntries {H : Type} : List (Lit × DataW H) → Nat
  | [] => 0
  | x :: r => uptoBulkEntry x + uptoBulkEntries r
def uptoBulkEntry {H : Type} : Lit × DataW H → Nat
  | (.string bytes, d) => bytes.length + uptoBulk d + 1
  | (_, d) => uptoBulk d + 1
 end
def uptoSmall : (H : Type) → List (DataW H) → Bool := fun _ ds => decide (uptoBulkAll ds ≤ 1048576)
def OpenSpec.upto (s : _root_.Go.ChangeSpec) : _root_.Go.OpenSpec := { _root_.Go.OpenSpec.ofChange s with cond := some uptoSmall }

/-- 'rotalaw.JoinSays', WHERE WHAT IT READS IS OF BULK AT MOST 1048576: true; the input reads as it did. -/
def joinSaysUptoRow : OpenClaim := { program := "ytclabonnbmanhaa", sum := "59038cf1497859a9432a94ae317bcb4c73daa0df022deaa699c36b910feee8f4", func := "rota/rotalaw.JoinSays", spec := "joinSays", unfollowed := true, recurses := true, apart := false, narrowed := true }
def JoinSaysUptoSaid : Prop := joinSaysUptoRow.holds Try.pinned (OpenSpec.upto joinSaysSpec)

/-- 'rotakeep.JoinCovers', WHERE WHAT IT READS IS OF BULK AT MOST 1048576: true; the input reads as it did. -/
def joinCoversUptoRow : OpenClaim := { program := "ytclabonnbmanhaa", sum := "59038cf1497859a9432a94ae317bcb4c73daa0df022deaa699c36b910feee8f4", func := "rota/rotakeep.JoinCovers", spec := "joinCovers", unfollowed := true, recurses := true, apart := false, narrowed := true }
def JoinCoversUptoSaid : Prop := joinCoversUptoRow.holds Try.pinned (OpenSpec.upto joinCoversSpec)

/-- 'rotakeep.JoinPacks', WHERE WHAT IT READS IS OF BULK AT MOST 1048576: true; the input reads as it did. -/
def joinPacksUptoRow : OpenClaim := { program := "ytclabonnbmanhaa", sum := "59038cf1497859a9432a94ae317bcb4c73daa0df022deaa699c36b910feee8f4", func := "rota/rotakeep.JoinPacks", spec := "joinPacks", unfollowed := true, recurses := true, apart := false, narrowed := true }
def JoinPacksUptoSaid : Prop := joinPacksUptoRow.holds Try.pinned (OpenSpec.upto joinPacksSpec)

/-- 'rotakeep.JoinUnion', WHERE WHAT IT READS IS OF BULK AT MOST 1048576: true; the input reads as it did. -/
def joinUnionUptoRow : OpenClaim := { program := "ytclabonnbmanhaa", sum := "59038cf1497859a9432a94ae317bcb4c73daa0df022deaa699c36b910feee8f4", func := "rota/rotakeep.JoinUnion", spec := "joinUnion", unfollowed := true, recurses := true, apart := false, narrowed := true }
def JoinUnionUptoSaid : Prop := joinUnionUptoRow.holds Try.pinned (OpenSpec.upto joinUnionSpec)

/-- 'rotakeep.JoinRank', WHERE WHAT IT READS IS OF BULK AT MOST 1048576: true; the input reads as it did. -/
def joinRankUptoRow : OpenClaim := { program := "ytclabonnbmanhaa", sum := "59038cf1497859a9432a94ae317bcb4c73daa0df022deaa699c36b910feee8f4", func := "rota/rotakeep.JoinRank", spec := "joinRank", unfollowed := true, recurses := true, apart := false, narrowed := true }
def JoinRankUptoSaid : Prop := joinRankUptoRow.holds Try.pinned (OpenSpec.upto joinRankSpec)

end Rows
end Go.Proofs.Ytclabonnbmanhaa
