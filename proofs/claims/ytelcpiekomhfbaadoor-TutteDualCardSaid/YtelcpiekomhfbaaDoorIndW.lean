/- sets.Sieve, for whatever function answers as p does. -/
import Derived.Test.YtelcpiekomhfbaaDoorOwnQ
import Derived.Deep.QuietTactic
import Derived.BigQuiet
import Derived.Test.YtelcpiekomhfbaaDoorGiveQ
namespace Go.Proofs.YtelcpiekomhfbaaDoor
open Go.RowKit

/-- A function value that answers as p does below T, wherever nothing below B has turned. -/
def AnswersTo (B : Nat) (w : World) (g : Nat) (cs : Array Value) (T : Nat) (p : Nat → Bool) : Prop :=
  ∀ x, x < T → ∀ w1, Below B w w1 → B ≤ w1.heap.size → Calls Tryd.prog g (#[.int .i64 (x : Nat)] ++ cs) w1 fun e w2 => e = .returned (.bool (p x)) ∧ Below w1.heap.size w1 w2
/-- The function can be entered. -/
def Enters (g : Nat) : Prop := ∀ (args : Array Value) (w : World), (callFunc g args).run Tryd.prog w = .ok (.enter g args) w
theorem rg_hit {p : Nat → Bool} {k : Nat} (hp : p k = true) : (List.range (k + 1)).filter p = (List.range k).filter p ++ [k] := by
  rw [List.range_succ, List.filter_append]; simp [hp]
theorem rg_miss {p : Nat → Bool} {k : Nat} (hp : p k = false) : (List.range (k + 1)).filter p = (List.range k).filter p := by
  rw [List.range_succ, List.filter_append]; simp [hp]
theorem rg_le (p : Nat → Bool) (k : Nat) : ((List.range k).filter p).length ≤ k := by
  have := List.length_filter_le p (List.range k)
  rwa [List.length_range] at this

end Go.Proofs.YtelcpiekomhfbaaDoor

namespace Go.Proofs.YtelcpiekomhfbaaDoor
open Go.RowKit Go.Shelf
attribute [local go_sem] Oper.semAt_some

/-- v is a slice that holds r's numbers of 0 to T - 1. -/
def RkAt (w : World) (v : Value) (T : Nat) (r : Nat → Nat) : Prop := ∃ b off cap, v = .slice (some ⟨b, off, none⟩) T cap ∧ b < w.heap.size ∧ ∀ i, i < T → w.cell? ⟨b, off + i, none⟩ = some (.int .i64 (r i : Nat))
theorem RkAt.below {w w' : World} {v : Value} {T : Nat} {r : Nat → Nat} (h : RkAt w v T r) (hb : Below w.heap.size w w') : RkAt w' v T r := by
  obtain ⟨b, off, cap, rfl, h1, h2⟩ := h
  exact ⟨b, off, cap, rfl, Nat.lt_of_lt_of_le h1 hb.size, fun i hi => (hb.cell (p := ⟨b, off + i, none⟩) h1).trans (h2 i hi)⟩

end Go.Proofs.YtelcpiekomhfbaaDoor
