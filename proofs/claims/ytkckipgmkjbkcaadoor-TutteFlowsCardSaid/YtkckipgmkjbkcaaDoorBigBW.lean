/- Words of small numbers: compared, and as plain numbers. -/
import Derived.Test.YtkckipgmkjbkcaaDoorBigQ
namespace Go.Proofs.YtkckipgmkjbkcaaDoor
open Go.RowKit

def cmpR (x y : Nat) : Int := if x < y then -1 else if x = y then 0 else 1
set_option maxHeartbeats 1000000 in
theorem cmp_any (x y : Nat) (v u : Value) (w : World) (hv : Wd w v x) (hu : Wd w u y) :
    Calls Tryd.prog 49 #[v, u] w fun e w' => e = .returned (.int .i64 (cmpR x y)) ∧ Below w.heap.size w w' := by
  rcases hv with ⟨rfl, a, cap, rfl⟩ | ⟨h1, h2, b, off, cap, rfl, h4, h5, h6⟩
  · rcases hu with ⟨rfl, a, cap, rfl⟩ | ⟨k1, k2, b', off', cap', rfl, k4, k5, k6⟩
    · go_enter Tryd.func49, Tryd.ntmps49
      go_wp2
      refine wp_loop_rounds 1 ?_
      rw [rounds_succ]
      go_wp2
      go_ret
      exact ⟨rfl, by first | exact Below.refl _ _ | exact drewN_below _ _ _ | exact (drewN_below _ _ _).trans (drewN_below _ _ _)⟩
    · have E : cmpR 0 y = -1 := by simp [cmpR, k1]
      rw [E]
      go_enter Tryd.func49, Tryd.ntmps49
      go_wp2
      go_ret
      exact ⟨rfl, by first | exact Below.refl _ _ | exact drewN_below _ _ _ | exact (drewN_below _ _ _).trans (drewN_below _ _ _)⟩
  · rcases hu with ⟨rfl, a, cap, rfl⟩ | ⟨k1, k2, b', off', cap', rfl, k4, k5, k6⟩
    · have E : cmpR x 0 = 1 := by unfold cmpR; rw [if_neg (by omega), if_neg (by omega)]
      rw [E]
      go_enter Tryd.func49, Tryd.ntmps49
      go_wp2
      go_ret
      exact ⟨rfl, by first | exact Below.refl _ _ | exact drewN_below _ _ _ | exact (drewN_below _ _ _).trans (drewN_below _ _ _)⟩
    · by_cases he : x = y
      · subst he
        have E : cmpR x x = 0 := by simp [cmpR]
        rw [E]
        go_enter Tryd.func49, Tryd.ntmps49
        go_wp2
        refine wp_loop_rounds 2 ?_
        rw [rounds_succ]
        go_wp2
        go_quiet (fail)
        go_wp2
        rw [rounds_succ]
        go_wp2
        go_ret
        exact ⟨rfl, by first | exact Below.refl _ _ | exact drewN_below _ _ _ | exact (drewN_below _ _ _).trans (drewN_below _ _ _)⟩
      · have hne : ((x : Int) == (y : Int)) = false := by rw [beq_eq_false_iff_ne]; omega
        by_cases hlt : x < y
        · have E : cmpR x y = -1 := by simp [cmpR, hlt]
          have hd : decide ((x : Int) < (y : Int)) = true := by rw [decide_eq_true_iff]; omega
          rw [E]
          go_enter Tryd.func49, Tryd.ntmps49
          go_wp2
          refine wp_loop_rounds 1 ?_
          rw [rounds_succ]
          go_wp2
          go_quiet (fail)
          go_wp2
          go_quiet (fail)
          go_wp2
          go_ret
          exact ⟨rfl, by first | exact Below.refl _ _ | exact drewN_below _ _ _ | exact (drewN_below _ _ _).trans (drewN_below _ _ _)⟩
        · have E : cmpR x y = 1 := by unfold cmpR; rw [if_neg hlt, if_neg he]
          have hd : decide ((x : Int) < (y : Int)) = false := by rw [decide_eq_false_iff_not]; omega
          rw [E]
          go_enter Tryd.func49, Tryd.ntmps49
          go_wp2
          refine wp_loop_rounds 1 ?_
          rw [rounds_succ]
          go_wp2
          go_quiet (fail)
          go_wp2
          go_quiet (fail)
          go_wp2
          go_ret
          exact ⟨rfl, by first | exact Below.refl _ _ | exact drewN_below _ _ _ | exact (drewN_below _ _ _).trans (drewN_below _ _ _)⟩
end Go.Proofs.YtkckipgmkjbkcaaDoor

namespace Go.Proofs.YtkckipgmkjbkcaaDoor
open Go.RowKit
set_option maxHeartbeats 1000000 in
theorem twin_any (x : Nat) (v : Value) (w : World) (hv : Wd w v x) :
    Calls Tryd.prog 34 #[v] w fun e w' => ∃ u, e = .returned u ∧ Wd w' u x ∧ Below w.heap.size w w' := by
  rcases hv with ⟨rfl, a, cap, rfl⟩ | ⟨h1, h2, b, off, cap, rfl, h4, h5, h6⟩
  · cases a with
    | none =>
      go_enter Tryd.func34, Tryd.ntmps34
      go_wp2
      go_ret
      exact ⟨_, rfl, .inl ⟨rfl, _, _, rfl⟩, by first | exact Below.refl _ _ | exact drewN_below _ _ _⟩
    | some a =>
      go_enter Tryd.func34, Tryd.ntmps34
      go_wp2
      go_ret
      exact ⟨_, rfl, .inl ⟨rfl, _, _, rfl⟩, by first | exact Below.refl _ _ | exact drewN_below _ _ _⟩
  · go_enter Tryd.func34, Tryd.ntmps34
    go_wp2
    go_ret
    refine ⟨_, rfl, .inr ⟨h1, h2, w.heap.size, 0, _, rfl, ?_, ?_, ?_⟩, ((Below.refl _ _).alloc (Nat.le_refl _) _).drew⟩
    · show 1 ≤ 1 + _
      omega
    · simp
    · rw [World.cell?_drew, World.cell?_alloc_at _ _ _ _ rfl]
      exact (Array.getElem?_append_left (by simp)).trans rfl
end Go.Proofs.YtkckipgmkjbkcaaDoor
