/- sets.Singles: the elements of a set come one by one, each as a set of its own: the contract of what it hands back. -/
import Derived.RangeFuncNested
import Derived.RangeFuncBox
import Derived.RangeFuncBound
import Derived.RangeFuncCalls
import Derived.RangeFuncLeaves
import Derived.Shelf.Abstract
import Derived.Shelf.RegionOpen
import Derived.OwnWalkIn
import Derived.TacticsInMore
import Derived.LoopNIn
import Derived.LoopIn
import Derived.Test.YtgkkemlemnlchaaOwnQ
import Derived.Test.YtgkkemlemnlchaaPlainAll
namespace Go.Proofs.Ytgkkemlemnlchaa
open Go.RowKit Go.Shelf
attribute [local go_sem] Oper.semAt_some

theorem cellN (W : World) (v : Value) (t : TypeId) : (W.alloc (.cells #[v] t)).cell? ⟨W.heap.size, 0, none⟩ = some v ∧ (W.alloc (.cells #[v] t)).frozen? ⟨W.heap.size, 0, none⟩ = false := ⟨(Boxed.new W t v).cell, (Boxed.new W t v).frozen⟩
theorem cellA {W : World} {a : Addr} {v : Value} (o : Obj) (h : W.cell? a = some v) : (W.alloc o).cell? a = some v := cell_kept h (World.grownBy_alloc W o none) (fun r e => by cases e)
theorem frozA {W : World} {a : Addr} {v : Value} (o : Obj) (h : W.cell? a = some v) (hf : W.frozen? a = false) : (W.alloc o).frozen? a = false := (frozen_kept h (World.grownBy_alloc W o none) (fun r e => by cases e)).trans hf
/-- The set of i alone. -/
def bt (i : Nat) : Nat := 2 ^ i
theorem low_fact : ∀ s : Nat, s < 256 → 0 < s → bits BinOp.and IntKind.i64 s (IntKind.i64.wrap (-(s : Int))) = (bt (tz s) : Int) := by decide +kernel
theorem low_fact' : ∀ s : Nat, s < 256 → 0 < s → bits BinOp.and IntKind.i64 s (-(s : Int)) = (bt (tz s) : Int) := by decide +kernel
/-- An element of c. -/
abbrev El (c : Nat) : Type := { i : Nat // i ∈ els c }
def enc1 {c : Nat} (x : El c) : Array Value := #[.int .i64 (bt x.1 : Nat)]

theorem low_any (s : Nat) (w : World) (hs : s < 256) (h0 : 0 < s) : Calls Try.prog 44 #[.int .i64 s] w fun e w' => e = .returned (.int .i64 (bt (tz s) : Nat)) ∧ w' = w := by
  have h1 := low_fact s hs h0
  have h2 := low_fact' s hs h0
  go_enter Try.func44, Try.ntmps44
  go_wp2_with fail
  go_ret
  exact ⟨rfl, rfl⟩
set_option maxRecDepth 100000 in
set_option maxHeartbeats 2000000 in
theorem sing_stops (n : Nat) (hn : 1 ≤ n) (c B : Nat) (hc : c < 256) (w : World) (hB : B < w.heap.size) (hcell : w.cell? ⟨B, 0, none⟩ = some (.int .i64 c)) :
    SeqStopsK Fence.wide n Try.prog 42 #[.pointer (some ⟨B, 0, none⟩)] (enc1 (c := c)) (fun _ _ => True) (fun xs => xs.map (·.1) = els c) (fun pre => pre.map (·.1) <+: els c) 9 w := fun l J Jx W hW _ _ hY h0 => by
  have hc' := (hW.cell (p := ⟨B, 0, none⟩) hB).trans hcell
  refine callsIn_of_wp Try.func42 rfl trivial ?_ rfl
  simp only [Try.ntmps42, List.size_toArray, List.length_cons, List.length_nil, Nat.reduceAdd, Nat.reduceSub, Array.replicate_succ, Array.replicate_zero, List.push_toArray, List.append_toArray, List.nil_append, List.cons_append]
  gi_wp2
  gi_loopw [3] (fun p wr => ∃ (pre : List (El c)) (r : Nat), p = .int .i64 r ∧ r < 256 ∧ Hid (pre.map (·.1) ++ els r = els c) ∧ J pre wr) (fun p _ => (intOf p).toNat)
  case atStart => exact ⟨[], c, rfl, hc, rfl, h0⟩
  case round =>
    obtain ⟨pre, r, rfl, hr, hx, hJs⟩ := hrel
    by_cases h0 : 0 < r
    · have HS := hid (els_step r hr h0)
      have hmem : tz r ∈ els c := by have := hx.out; rw [HS.out] at this; rw [← this]; simp
      have hlen : pre.length < 9 := by
        have h1 : (els c).length ≤ 8 := by rw [← pop_els]; exact pop_le c hc
        have h2 := congrArg List.length hx.out
        simp at h2
        omega
      obtain ⟨fn, tmps, assign, body, hy, hR⟩ := hY pre ⟨tz r, hmem⟩ wr hJs hlen
      dsimp only [enc1] at hy
      have hlow := low_fact' r hr h0
      have hne : ((r : Int) == 0) = false := by rw [beq_eq_false_iff_ne]; omega
      gi_wp2_with (refine ⟨trivial, ?_⟩; gi_at_call 44; refine (callsIn_wide.2 (low_any r _ hr h0)).mono ?_; rintro e w' ⟨rfl, rfl⟩)
      refine hR.mono ?_
      rintro e W3 (⟨rfl, hJ3, hk3⟩ | ⟨rfl, hJx3⟩)
      · gi_wp2_with (refine ⟨trivial, ?_⟩; gi_at_call 43; refine (callsIn_wide.2 (without_any r _ h0 hr)).mono ?_; rintro e w' ⟨rfl, rfl⟩)
        go_roundw
        case rel => exact ⟨pre ++ [⟨tz r, hmem⟩], wl r, rfl, Nat.lt_trans (wl_lt r hr h0) hr, by have := hx.out; rw [HS.out] at this; show _ = _; rw [List.map_append, List.append_assoc]; exact this, hJ3⟩
        case measure => simp [intOf]; exact wl_lt r hr h0
      · gi_wp2
        refine bodyPost_ret (results_none rfl _ _ _) rfl ?_
        exact ⟨⟨_, rfl⟩, .inr ⟨pre ++ [⟨tz r, hmem⟩], ⟨els (wl r), by have := hx.out; rw [HS.out] at this; rw [List.map_append, List.append_assoc]; exact this⟩, hJx3⟩⟩
    · have e0 : r = 0 := by omega
      subst e0
      gi_wp2
      go_end0
      exact ⟨⟨_, rfl⟩, .inl ⟨pre, by have := hx.out; rw [els_zero, List.append_nil] at this; exact this, hJs⟩⟩

theorem sing_any (c : Nat) (w : World) :
    Calls Try.prog 40 #[.int .i64 c] w fun e w' => e = .returned (.func (.func 42) #[] #[.pointer (some ⟨w.heap.size, 0, none⟩)]) ∧ w' = w.alloc (.cells #[.int .i64 c] 3) := by
  go_enter Try.func40, Try.ntmps40
  go_wp2
  go_ret
  exact ⟨rfl, rfl⟩
end Go.Proofs.Ytgkkemlemnlchaa
