/- sets.Singles: the elements of a set come one by one, each as a set of its own: the contract of what it hands back. -/
import Derived.RangeFuncNested
import Derived.RangeFuncBox
import Derived.RangeFuncBound
import Derived.RangeFuncCalls
import Derived.RangeFuncLeaves
import Derived.Shelf.Abstract
import Derived.Shelf.RegionOpen
import Derived.OwnWalkIn
import Derived.TacticsInMore
import Derived.LoopNIn
import Derived.LoopIn
import Derived.Test.YtjnifcfcigcngaaOwnQ
import Derived.Test.YtjnifcfcigcngaaPlainAll
namespace Go.Proofs.Ytjnifcfcigcngaa
open Go.RowKit Go.Shelf
attribute [local go_sem] Oper.semAt_some

theorem cellN (W : World) (v : Value) (t : TypeId) : (W.alloc (.cells #[v] t)).cell? ⟨W.heap.size, 0, none⟩ = some v ∧ (W.alloc (.cells #[v] t)).frozen? ⟨W.heap.size, 0, none⟩ = false := ⟨(Boxed.new W t v).cell, (Boxed.new W t v).frozen⟩
theorem cellA {W : World} {a : Addr} {v : Value} (o : Obj) (h : W.cell? a = some v) : (W.alloc o).cell? a = some v := cell_kept h (World.grownBy_alloc W o none) (fun r e => by cases e)
theorem frozA {W : World} {a : Addr} {v : Value} (o : Obj) (h : W.cell? a = some v) (hf : W.frozen? a = false) : (W.alloc o).frozen? a = false := (frozen_kept h (World.grownBy_alloc W o none) (fun r e => by cases e)).trans hf
/-- The set of i alone. -/
def bt (i : Nat) : Nat := 2 ^ i
theorem low_fact : ∀ s : Nat, s < 256 → 0 < s → bits BinOp.and IntKind.i64 s (IntKind.i64.wrap (-(s : Int))) = (bt (tz s) : Int) := by decide +kernel
theorem low_fact' : ∀ s : Nat, s < 256 → 0 < s → bits BinOp.and IntKind.i64 s (-(s : Int)) = (bt (tz s) : Int) := by decide +kernel
/-- An element of c. -/
abbrev El (c : Nat) : Type := { i : Nat // i ∈ els c }
def enc1 {c : Nat} (x : El c) : Array Value := #[.int .i64 (bt x.1 : Nat)]

end Go.Proofs.Ytjnifcfcigcngaa
