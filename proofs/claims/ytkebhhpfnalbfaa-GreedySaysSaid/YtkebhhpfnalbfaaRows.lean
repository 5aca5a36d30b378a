/-
  No cell of these rows narrows 'for every input' (looked for: loops, veiled, ifaces, maps, wideKeys, modest, calm, conditions, laid).
  DERIVED. THE GIVEN ROWS OF THIS SEAT. 5 by the template 'for every input the law returns true; each argument reads behind the call as it read before'; 0 by the template 'total and deterministic' (their statements: YtkebhhpfnalbfaaTotals.lean).
  GIVEN WITH THE SEED: the statements are not yours to turn. If you find one false, say at which input.
  Laid BY PROGRAM, IN A SANDBOX (cutbox-rows.mjs): the forced cells as the released guide's own fill.sh prints them over the translation 2fa5e8d5574e7d39… (all of the seat's roots in one cut). By AI agents, Wed Nov 11 2026. No macro, syntax, notation, axiom, sorry.
-/
import Derived.Test.YtkebhhpfnalbfaaChecked
import GoSem.Claim
import GoSem.ClaimJoined
import GoSem.ClaimMapViews
import Derived.JoinedTies
import Derived.KernelRfl
namespace Go.Proofs.Ytkebhhpfnalbfaa
/- THE CELL 'sum', in the pinned program and in every row, IS THE sha256 OF THE DUMP (.gsa) THAT YtkebhhpfnalbfaaProg.lean LOADS. Nothing in Lean hashes anything: it is a label: what it is worth is what the hold of that sum in a sandbox is worth. -/
noncomputable def Try.pinned : Pinned := { name := "ytkebhhpfnalbfaa", sum := "2fa5e8d5574e7d3987890940c0dda05784015267c81b9e81fab42c3a3c3e072a", checked := Try.checked }
namespace Rows
def none {H : Type} : Left H := { results := [], args := [] }

/-- 'rotalaw.GreedySays': WHATEVER THE INPUT: true; the input reads as it did. -/
def greedySaysSpec : ChangeSpec := { name := "greedySays", fn := fun _ => fun
  | [d1, d2, d3] => { results := [.lit (.bool true)], args := [d1, d2, d3] }
  | _ => none }
def greedySaysRow : OpenClaim := { program := "ytkebhhpfnalbfaa", sum := "2fa5e8d5574e7d3987890940c0dda05784015267c81b9e81fab42c3a3c3e072a", func := "rota/rotalaw.GreedySays", spec := "greedySays", inPlace := ["slices.overlaps[int]"], unfollowed := true, recurses := true, apart := false }
def GreedySaysSaid : Prop := greedySaysRow.holds Try.pinned (OpenSpec.ofChange greedySaysSpec)

/-- ITS FALSE NEIGHBOUR: 'it returns false'. Refute it at one input. -/
def greedySaysWrong : ChangeSpec := { name := "greedySays", fn := fun _ => fun
  | [d1, d2, d3] => { results := [.lit (.bool false)], args := [d1, d2, d3] }
  | _ => none }
def GreedySaysWrongFalsely : Prop := greedySaysRow.holds Try.pinned (OpenSpec.ofChange greedySaysWrong)

/-- 'rotalaw.GreedySwaps': WHATEVER THE INPUT: true; the input reads as it did. -/
def greedySwapsSpec : ChangeSpec := { name := "greedySwaps", fn := fun _ => fun
  | [d1, d2, d3, d4, d5] => { results := [.lit (.bool true)], args := [d1, d2, d3, d4, d5] }
  | _ => none }
def greedySwapsRow : OpenClaim := { program := "ytkebhhpfnalbfaa", sum := "2fa5e8d5574e7d3987890940c0dda05784015267c81b9e81fab42c3a3c3e072a", func := "rota/rotalaw.GreedySwaps", spec := "greedySwaps", unfollowed := true, recurses := true, apart := false }
def GreedySwapsSaid : Prop := greedySwapsRow.holds Try.pinned (OpenSpec.ofChange greedySwapsSpec)

/-- ITS FALSE NEIGHBOUR: 'it returns false'. Refute it at one input. -/
def greedySwapsWrong : ChangeSpec := { name := "greedySwaps", fn := fun _ => fun
  | [d1, d2, d3, d4, d5] => { results := [.lit (.bool false)], args := [d1, d2, d3, d4, d5] }
  | _ => none }
def GreedySwapsWrongFalsely : Prop := greedySwapsRow.holds Try.pinned (OpenSpec.ofChange greedySwapsWrong)

/-- 'rotakeep.GreedySwap': WHATEVER THE INPUT: true; the input reads as it did. -/
def greedySwapSpec : ChangeSpec := { name := "greedySwap", fn := fun _ => fun
  | [d1, d2, d3, d4] => { results := [.lit (.bool true)], args := [d1, d2, d3, d4] }
  | _ => none }
def greedySwapRow : OpenClaim := { program := "ytkebhhpfnalbfaa", sum := "2fa5e8d5574e7d3987890940c0dda05784015267c81b9e81fab42c3a3c3e072a", func := "rota/rotakeep.GreedySwap", spec := "greedySwap", unfollowed := true, recurses := true, apart := false }
def GreedySwapSaid : Prop := greedySwapRow.holds Try.pinned (OpenSpec.ofChange greedySwapSpec)

/-- ITS FALSE NEIGHBOUR: 'it returns false'. Refute it at one input. -/
def greedySwapWrong : ChangeSpec := { name := "greedySwap", fn := fun _ => fun
  | [d1, d2, d3, d4] => { results := [.lit (.bool false)], args := [d1, d2, d3, d4] }
  | _ => none }
def GreedySwapWrongFalsely : Prop := greedySwapRow.holds Try.pinned (OpenSpec.ofChange greedySwapWrong)

/-- 'rotakeep.GreedyDual': WHATEVER THE INPUT: true; the input reads as it did. -/
def greedyDualSpec : ChangeSpec := { name := "greedyDual", fn := fun _ => fun
  | [d1, d2] => { results := [.lit (.bool true)], args := [d1, d2] }
  | _ => none }
def greedyDualRow : OpenClaim := { program := "ytkebhhpfnalbfaa", sum := "2fa5e8d5574e7d3987890940c0dda05784015267c81b9e81fab42c3a3c3e072a", func := "rota/rotakeep.GreedyDual", spec := "greedyDual", unfollowed := true, recurses := true, apart := false }
def GreedyDualSaid : Prop := greedyDualRow.holds Try.pinned (OpenSpec.ofChange greedyDualSpec)

/-- ITS FALSE NEIGHBOUR: 'it returns false'. Refute it at one input. -/
def greedyDualWrong : ChangeSpec := { name := "greedyDual", fn := fun _ => fun
  | [d1, d2] => { results := [.lit (.bool false)], args := [d1, d2] }
  | _ => none }
def GreedyDualWrongFalsely : Prop := greedyDualRow.holds Try.pinned (OpenSpec.ofChange greedyDualWrong)

/-- 'rotakeep.MinorsDual': WHATEVER THE INPUT: true; the input reads as it did. -/
def minorsDualSpec : ChangeSpec := { name := "minorsDual", fn := fun _ => fun
  | [d1, d2] => { results := [.lit (.bool true)], args := [d1, d2] }
  | _ => none }
def minorsDualRow : OpenClaim := { program := "ytkebhhpfnalbfaa", sum := "2fa5e8d5574e7d3987890940c0dda05784015267c81b9e81fab42c3a3c3e072a", func := "rota/rotakeep.MinorsDual", spec := "minorsDual", unfollowed := true, recurses := true, apart := false }
def MinorsDualSaid : Prop := minorsDualRow.holds Try.pinned (OpenSpec.ofChange minorsDualSpec)

/-- ITS FALSE NEIGHBOUR: 'it returns false'. Refute it at one input. -/
def minorsDualWrong : ChangeSpec := { name := "minorsDual", fn := fun _ => fun
  | [d1, d2] => { results := [.lit (.bool false)], args := [d1, d2] }
  | _ => none }
def MinorsDualWrongFalsely : Prop := minorsDualRow.holds Try.pinned (OpenSpec.ofChange minorsDualWrong)

/- THE SECOND FORM. 'bulk': how many values and letters a reading holds, each counted each time it is reached (what is shared counts as often as it is met; a slice's spare places count too). A statement '..UptoSaid' is the law's where the arguments, and the package variables that the reading takes, are together of bulk at most 1048576: NARROWER than '..Said'. Prove '..Said' where nothing that the law and all that it calls make is longer than what came in: it says more and counts as full. Else prove '..UptoSaid'. A law counts once. -/
mutual
def uptoBulk {H : Type} : DataW H → Nat
  | .lit (.string bytes) => bytes.length + 1
  | .lit _ => 1
  | .nil => 1
  | .ptr d => uptoBulk d + 1
  | .slice elems spare => uptoBulkAll elems + uptoBulkAll spare + 1
  | .agg parts => uptoBulkAll parts + 1
  | .iface _ d => uptoBulk d + 1
  | .map entries => uptoBulkEntries entries + 1
  | .held _ => 1
def uptoBulkAll {H : Type} : List (DataW H) → Nat
  | [] => 0
  | d :: r => uptoBulk d + uptoBulkAll r
def uptoBulkEntries {H : Type} : List (Lit × DataW H) → Nat
  | [] => 0
  | x :: r => uptoBulkEntry x + uptoBulkEntries r
def uptoBulkEntry {H : Type} : Lit × DataW H → Nat
  | (.string bytes, d) => bytes.length + uptoBulk d + 1
  | (_, d) => uptoBulk d + 1
 end
def uptoSmall : (H : Type) → List (DataW H) → Bool := fun _ ds => decide (uptoBulkAll ds ≤ 1048576)
def OpenSpec.upto (s : _root_.Go.ChangeSpec) : _root_.Go.OpenSpec := { _root_.Go.OpenSpec.ofChange s with cond := some uptoSmall }

/-- 'rotalaw.GreedySays', WHERE WHAT IT READS IS OF BULK AT MOST 1048576: true; the input reads as it did. -/
def greedySaysUptoRow : OpenClaim := { program := "ytkebhhpfnalbfaa", sum := "2fa5e8d5574e7d3987890940c0dda05784015267c81b9e81fab42c3a3c3e072a", func := "rota/rotalaw.GreedySays", spec := "greedySays", inPlace := ["slices.overlaps[int]"], unfollowed := true, recurses := true, apart := false, narrowed := true }
def GreedySaysUptoSaid : Prop := greedySaysUptoRow.holds Try.pinned (OpenSpec.upto greedySaysSpec)

/-- 'rotalaw.GreedySwaps', WHERE WHAT IT READS IS OF BULK AT MOST 1048576: true; the input reads as it did. -/
def greedySwapsUptoRow : OpenClaim := { program := "ytkebhhpfnalbfaa", sum := "2fa5e8d5574e7d3987890940c0dda05784015267c81b9e81fab42c3a3c3e072a", func := "rota/rotalaw.GreedySwaps", spec := "greedySwaps", unfollowed := true, recurses := true, apart := false, narrowed := true }
def GreedySwapsUptoSaid : Prop := greedySwapsUptoRow.holds Try.pinned (OpenSpec.upto greedySwapsSpec)

/-- 'rotakeep.GreedySwap', WHERE WHAT IT READS IS OF BULK AT MOST 1048576: true; the input reads as it did. -/
def greedySwapUptoRow : OpenClaim := { program := "ytkebhhpfnalbfaa", sum := "2fa5e8d5574e7d3987890940c0dda05784015267c81b9e81fab42c3a3c3e072a", func := "rota/rotakeep.GreedySwap", spec := "greedySwap", unfollowed := true, recurses := true, apart := false, narrowed := true }
def GreedySwapUptoSaid : Prop := greedySwapUptoRow.holds Try.pinned (OpenSpec.upto greedySwapSpec)

/-- 'rotakeep.GreedyDual', WHERE WHAT IT READS IS OF BULK AT MOST 1048576: true; the input reads as it did. -/
def greedyDualUptoRow : OpenClaim := { program := "ytkebhhpfnalbfaa", sum := "2fa5e8d5574e7d3987890940c0dda05784015267c81b9e81fab42c3a3c3e072a", func := "rota/rotakeep.GreedyDual", spec := "greedyDual", unfollowed := true, recurses := true, apart := false, narrowed := true }
def GreedyDualUptoSaid : Prop := greedyDualUptoRow.holds Try.pinned (OpenSpec.upto greedyDualSpec)

/-- 'rotakeep.MinorsDual', WHERE WHAT IT READS IS OF BULK AT MOST 1048576: true; the input reads as it did. -/
def minorsDualUptoRow : OpenClaim := { program := "ytkebhhpfnalbfaa", sum := "2fa5e8d5574e7d3987890940c0dda05784015267c81b9e81fab42c3a3c3e072a", func := "rota/rotakeep.MinorsDual", spec := "minorsDual", unfollowed := true, recurses := true, apart := false, narrowed := true }
def MinorsDualUptoSaid : Prop := minorsDualUptoRow.holds Try.pinned (OpenSpec.upto minorsDualSpec)

end Rows
end Go.Proofs.Ytkebhhpfnalbfaa
