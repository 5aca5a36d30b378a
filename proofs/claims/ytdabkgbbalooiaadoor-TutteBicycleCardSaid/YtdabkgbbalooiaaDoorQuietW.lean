/- sets.Singles: the elements of a set come one by one, each as a set of its own: the contract of what it hands back. -/
import Derived.RangeFuncNested
import Derived.RangeFuncBox
import Derived.RangeFuncBound
import Derived.RangeFuncCalls
import Derived.RangeFuncLeaves
import Derived.Shelf.Abstract
import Derived.Shelf.RegionOpen
import Derived.OwnWalkIn
import Derived.TacticsInMore
import Derived.LoopNIn
import Derived.LoopIn
import Derived.Test.YtdabkgbbalooiaaDoorOwnW
import Derived.Test.YtdabkgbbalooiaaDoorPlainAll
import Derived.Sort.QuietIn
namespace Go.Proofs.YtdabkgbbalooiaaDoor
open Go.RowKit Go.Shelf
attribute [local go_sem] Oper.semAt_some

theorem cellN (W : World) (v : Value) (t : TypeId) : (W.alloc (.cells #[v] t)).cell? ⟨W.heap.size, 0, none⟩ = some v ∧ (W.alloc (.cells #[v] t)).frozen? ⟨W.heap.size, 0, none⟩ = false := ⟨(Boxed.new W t v).cell, (Boxed.new W t v).frozen⟩
theorem cellA {W : World} {a : Addr} {v : Value} (o : Obj) (h : W.cell? a = some v) : (W.alloc o).cell? a = some v := cell_kept h (World.grownBy_alloc W o none) (fun r e => by cases e)
theorem frozA {W : World} {a : Addr} {v : Value} (o : Obj) (h : W.cell? a = some v) (hf : W.frozen? a = false) : (W.alloc o).frozen? a = false := (frozen_kept h (World.grownBy_alloc W o none) (fun r e => by cases e)).trans hf
/-- The set of i alone. -/
def bt (i : Nat) : Nat := 2 ^ i
theorem low_fact : ∀ s : Nat, s < 256 → 0 < s → bits BinOp.and IntKind.i64 s (IntKind.i64.wrap (-(s : Int))) = (bt (tz s) : Int) := by decide +kernel
theorem low_fact' : ∀ s : Nat, s < 256 → 0 < s → bits BinOp.and IntKind.i64 s (-(s : Int)) = (bt (tz s) : Int) := by decide +kernel
/-- An element of c. -/
abbrev El (c : Nat) : Type := { i : Nat // i ∈ els c }
def enc1 {c : Nat} (x : El c) : Array Value := #[.int .i64 (bt x.1 : Nat)]

theorem low_any (s : Nat) (w : World) (hs : s < 256) (h0 : 0 < s) : Calls Tryd.prog 78 #[.int .i64 s] w fun e w' => e = .returned (.int .i64 (bt (tz s) : Nat)) ∧ w' = w := by
  have h1 := low_fact s hs h0
  have h2 := low_fact' s hs h0
  go_enter Tryd.func78, Tryd.ntmps78
  go_wp2_with fail
  go_ret
  exact ⟨rfl, rfl⟩
set_option maxRecDepth 100000 in
set_option maxHeartbeats 2000000 in
theorem sing_stops (n : Nat) (hn : 1 ≤ n) (c B : Nat) (hc : c < 256) (w : World) (hB : B < w.heap.size) (hcell : w.cell? ⟨B, 0, none⟩ = some (.int .i64 c)) :
    SeqStopsK Fence.wide n Tryd.prog 76 #[.pointer (some ⟨B, 0, none⟩)] (enc1 (c := c)) (fun _ _ => True) (fun xs => xs.map (·.1) = els c) (fun pre => pre.map (·.1) <+: els c) 9 w := fun l J Jx W hW _ _ hY h0 => by
  have hc' := (hW.cell (p := ⟨B, 0, none⟩) hB).trans hcell
  refine callsIn_of_wp Tryd.func76 rfl trivial ?_ rfl
  simp only [Tryd.ntmps76, List.size_toArray, List.length_cons, List.length_nil, Nat.reduceAdd, Nat.reduceSub, Array.replicate_succ, Array.replicate_zero, List.push_toArray, List.append_toArray, List.nil_append, List.cons_append]
  gi_wp2
  gi_loopw [3] (fun p wr => ∃ (pre : List (El c)) (r : Nat), p = .int .i64 r ∧ r < 256 ∧ Hid (pre.map (·.1) ++ els r = els c) ∧ J pre wr) (fun p _ => (intOf p).toNat)
  case atStart => exact ⟨[], c, rfl, hc, rfl, h0⟩
  case round =>
    obtain ⟨pre, r, rfl, hr, hx, hJs⟩ := hrel
    by_cases h0 : 0 < r
    · have HS := hid (els_step r hr h0)
      have hmem : tz r ∈ els c := by have := hx.out; rw [HS.out] at this; rw [← this]; simp
      have hlen : pre.length < 9 := by
        have h1 : (els c).length ≤ 8 := by rw [← pop_els]; exact pop_le c hc
        have h2 := congrArg List.length hx.out
        simp at h2
        omega
      obtain ⟨fn, tmps, assign, body, hy, hR⟩ := hY pre ⟨tz r, hmem⟩ wr hJs hlen
      dsimp only [enc1] at hy
      have hlow := low_fact' r hr h0
      have hne : ((r : Int) == 0) = false := by rw [beq_eq_false_iff_ne]; omega
      gi_wp2_with (refine ⟨trivial, ?_⟩; gi_at_call 78; refine (callsIn_wide.2 (low_any r _ hr h0)).mono ?_; rintro e w' ⟨rfl, rfl⟩)
      refine hR.mono ?_
      rintro e W3 (⟨rfl, hJ3, hk3⟩ | ⟨rfl, hJx3⟩)
      · gi_wp2_with (refine ⟨trivial, ?_⟩; gi_at_call 77; refine (callsIn_wide.2 (without_any r _ h0 hr)).mono ?_; rintro e w' ⟨rfl, rfl⟩)
        go_roundw
        case rel => exact ⟨pre ++ [⟨tz r, hmem⟩], wl r, rfl, Nat.lt_trans (wl_lt r hr h0) hr, by have := hx.out; rw [HS.out] at this; show _ = _; rw [List.map_append, List.append_assoc]; exact this, hJ3⟩
        case measure => simp [intOf]; exact wl_lt r hr h0
      · gi_wp2
        refine bodyPost_ret (results_none rfl _ _ _) rfl ?_
        exact ⟨⟨_, rfl⟩, .inr ⟨pre ++ [⟨tz r, hmem⟩], ⟨els (wl r), by have := hx.out; rw [HS.out] at this; rw [List.map_append, List.append_assoc]; exact this⟩, hJx3⟩⟩
    · have e0 : r = 0 := by omega
      subst e0
      gi_wp2
      go_end0
      exact ⟨⟨_, rfl⟩, .inl ⟨pre, by have := hx.out; rw [els_zero, List.append_nil] at this; exact this, hJs⟩⟩

theorem sing_any (c : Nat) (w : World) :
    Calls Tryd.prog 59 #[.int .i64 c] w fun e w' => e = .returned (.func (.func 76) #[] #[.pointer (some ⟨w.heap.size, 0, none⟩)]) ∧ w' = w.alloc (.cells #[.int .i64 c] 3) := by
  go_enter Tryd.func59, Tryd.ntmps59
  go_wp2
  go_ret
  exact ⟨rfl, rfl⟩
end Go.Proofs.YtdabkgbbalooiaaDoor

namespace Go.Proofs.YtdabkgbbalooiaaDoor
open Go.RowKit Go.Shelf

def noDefer (l : List Oper) : Bool := l.all fun o => match o.op with | .defer _ => false | _ => true
theorem noDefer_at {l : List Oper} (h : noDefer l = true) {i : Nat} {o : Oper} (hi : l.toArray[i]? = some o) (c : _) : o.op ≠ .defer c := fun e => by
  have hm : o ∈ l := by
    rw [List.getElem?_toArray] at hi
    exact List.mem_of_getElem? hi
  have := List.all_eq_true.1 h o hm
  rw [e] at this
  cases this
theorem upon_round {P : Program} {n l0 : Nat} {o : Oper} {a : Act} {K : Act → World → Prop} {Q : Exit → Act → World → Prop} {r : Result Next} (h : o.uponIn Fence.wide n P a K Q r) : o.uponIn (Fence.wide.inRound l0) n P a K Q r := by
  cases r with
  | ok x w' => cases x <;> exact h
  | halt x w' => exact h
theorem any_round {P : Program} {n l0 : Nat} {l : List Oper} {Q : Exit → Act → World → Prop} (hd : noDefer l = true) : ∀ (fuel : Nat) (listed : Array Bool) (a : Act) (w : World),
    wpAnyIn Fence.wide n P .any l.toArray Q fuel listed a w → wpAnyIn (Fence.wide.inRound l0) n P .any l.toArray Q fuel listed a w
  | 0, _, _, _, h => h
  | fuel + 1, listed, a, w, h => by
    refine ⟨h.1, fun i hi => ?_⟩
    have h1 := wpOpIn_mono (fun a w => any_round (l0 := l0) hd fuel (listed.setIfInBounds i true) a w) (h.2 i hi)
    unfold wpOpIn at h1 ⊢
    cases ho : l.toArray[i]? with
    | none => rw [ho] at h1; exact h1
    | some o =>
      rw [ho] at h1
      dsimp only at h1 ⊢
      split
      · rename_i hw
        rw [if_pos hw] at h1
        refine ⟨h1.1, upon_round ?_⟩
        have h2 := h1.2
        rw [Oper.semAt_eq _ _ _ (noDefer_at hd ho)] at h2 ⊢
        exact h2
      · rename_i hw
        rw [if_neg hw] at h1
        exact h1
theorem region_quiet_round {P : Program} {n l0 id : Nat} {Q : Exit → Act → World → Prop} {a : Act} {w : World} {l : List Oper} (hd : noDefer l = true) (hm : P.follows .mixedOrders = true) (hB : Region.lexB .any l.toArray = true)
    (h : wpQuietIn Fence.wide n P l.toArray (fun w' => ∃ n, w' = w.drewN n) (fun a' => ∀ w', (∃ n, w' = w.drewN n) → Q .normal a' w') l a) : (Code.region id l.toArray true).wpIn (Fence.wide.inRound l0) n P Q a w := by
  simp only [Region.lexB, Bool.and_eq_true] at hB
  refine wpIn_region_any hm (any_round hd _ _ _ _ (wpAnyIn_of_quiet (C := fun w' => ∃ n, w' = w.drewN n) (Q := fun a' => ∀ w', (∃ n, w' = w.drewN n) → Q .normal a' w') rfl (fun _ w' hw' h => h w' hw') _ _ _ _ ⟨1, rfl⟩ ?_))
  have := wpAnyQIn_lex (F := Fence.wide) (n := n) (C := fun w' => ∃ n, w' = w.drewN n) (md := .any) hB.1 l 0 (Array.replicate l.toArray.size false) a (by simp) (by simpa using hB.2) h
  simpa using this
theorem keeps_drewN (W : World) (n : Nat) : KeepsOthers W (W.drewN n) := ⟨Nat.le_refl _, fun _ _ h _ => h⟩
theorem froz_drewN (W : World) (n : Nat) (a : Addr) : (W.drewN n).frozen? a = W.frozen? a := rfl
theorem drewN_below (B : Nat) (W : World) (n : Nat) : Below B W (W.drewN n) := ⟨rfl, rfl, rfl, Nat.le_refl _, fun _ _ => rfl⟩
theorem dif_le (a b : Nat) : dif a b ≤ a := by
  have h : subB (dif a b) a = true := subB_iff.2 fun i hi => by rw [dif_bit] at hi; simp at hi; exact hi.1
  unfold subB at h
  rw [beq_iff_eq] at h
  rw [← h]
  exact Nat.and_le_right
theorem keeps_below {W W' : World} (h : Below W.heap.size W W') : KeepsOthers W W' := ⟨h.size, fun b _ hb _ => (h.block b (Array.getElem?_eq_some_iff.1 hb).1).trans hb⟩
theorem froz_below {B : Nat} {W W' : World} (h : Below B W W') {b off : Nat} (hb : b < B) : W'.frozen? ⟨b, off, none⟩ = W.frozen? ⟨b, off, none⟩ := by
  simp only [World.frozen?, h.block b hb]
theorem bt_lt {i : Nat} (h : i < 8) : bt i < 256 := pow_lt256 h
theorem el_lt {c : Nat} (x : El c) : x.1 < 8 := by
  have := x.2
  unfold els at this
  rw [List.mem_filter, List.mem_range] at this
  exact this.1
end Go.Proofs.YtdabkgbbalooiaaDoor
