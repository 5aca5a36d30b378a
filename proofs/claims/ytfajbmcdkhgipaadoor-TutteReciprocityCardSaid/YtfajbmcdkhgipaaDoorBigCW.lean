/- Contracts of rotabig's Int at numbers of one word, not below nought. -/
import Derived.Test.YtfajbmcdkhgipaaDoorProg
import Derived.WalkKit
import Derived.WalkSpells
import Derived.WalkLawsBesides
import Derived.Deep.QuietTactic
import Derived.BigQuiet
import Derived.Deep.RegionWith
namespace Go.Proofs.YtfajbmcdkhgipaaDoor
open Go.RowKit

theorem hid' {p : Prop} (h : p) : Hid p := h
/-- v is the words of x. -/
def Wd (w : World) (v : Value) (x : Nat) : Prop :=
  (x = 0 ∧ ∃ a cap, v = .slice a 0 cap) ∨ (0 < x ∧ x < 4294967296 ∧ ∃ b off cap, v = .slice (some ⟨b, off, none⟩) 1 cap ∧ 1 ≤ cap ∧ b < w.heap.size ∧ w.cell? ⟨b, off, none⟩ = some (.int .u32 x))

set_option maxHeartbeats 400000 in
theorem trim2_pos (b off cap x : Nat) (w : World) (hx : 0 < x) (h0 : w.cell? ⟨b, off, none⟩ = some (.int .u32 x)) (h1 : w.cell? ⟨b, off + 1, none⟩ = some (.int .u32 0)) (hcap : 2 ≤ cap) :
    Calls Tryd.prog 45 #[.slice (some ⟨b, off, none⟩) 2 cap] w fun e w' => e = .returned (.slice (some ⟨b, off, none⟩) 1 cap) ∧ w' = w := by
  have hxz : ((x : Int) == 0) = false := by rw [beq_eq_false_iff_ne]; omega
  go_enter Tryd.func45, Tryd.ntmps45
  go_wp2
  refine wp_loop_rounds 2 ?_
  rw [rounds_succ]
  go_wp2
  rw [rounds_succ]
  go_wp2
  go_ret
  exact ⟨rfl, rfl⟩

set_option maxHeartbeats 400000 in
theorem trim2_zero (b off cap : Nat) (w : World) (h0 : w.cell? ⟨b, off, none⟩ = some (.int .u32 0)) (h1 : w.cell? ⟨b, off + 1, none⟩ = some (.int .u32 0)) (hcap : 2 ≤ cap) :
    Calls Tryd.prog 45 #[.slice (some ⟨b, off, none⟩) 2 cap] w fun e w' => e = .returned (.slice (some ⟨b, off, none⟩) 0 cap) ∧ w' = w := by
  go_enter Tryd.func45, Tryd.ntmps45
  go_wp2
  refine wp_loop_rounds 3 ?_
  rw [rounds_succ]
  go_wp2
  rw [rounds_succ]
  go_wp2
  rw [rounds_succ]
  go_wp2
  go_ret
  exact ⟨rfl, rfl⟩
theorem trim2 (b off cap x : Nat) (w : World) (hx : x < 4294967296) (hb : b < w.heap.size) (h0 : w.cell? ⟨b, off, none⟩ = some (.int .u32 x)) (h1 : w.cell? ⟨b, off + 1, none⟩ = some (.int .u32 0)) (hcap : 2 ≤ cap) :
    Calls Tryd.prog 45 #[.slice (some ⟨b, off, none⟩) 2 cap] w fun e w' => ∃ v, e = .returned v ∧ Wd w v x ∧ w' = w := by
  by_cases hz : x = 0
  · subst hz
    exact (trim2_zero b off cap w h0 h1 hcap).mono fun _ _ ⟨h1, h2⟩ => ⟨_, h1, .inl ⟨rfl, _, _, rfl⟩, h2⟩
  · exact (trim2_pos b off cap x w (by omega) h0 h1 hcap).mono fun _ _ ⟨h1, h2⟩ => ⟨_, h1, .inr ⟨by omega, hx, b, off, cap, rfl, by omega, hb, h0⟩, h2⟩

theorem wrap_u32 (x : Nat) (h : x < 4294967296) : IntKind.u32.wrap (x : Int) = x := by
  simp [IntKind.wrap, IntKind.bits, IntKind.signed]; omega
theorem words_any (x : Nat) (w : World) (hx : x < 4294967296) :
    Calls Tryd.prog 46 #[.int .u64 x] w fun e w' => ∃ v, e = .returned v ∧ Wd w' v x ∧ Below w.heap.size w w' := by
  have hw := wrap_u32 x hx
  have hd : (x : Int) / 4294967296 = 0 := by omega
  have T := hid' (trim2 w.heap.size 0 2 x (w.alloc (.cells #[.int .u32 x, .int .u32 0] 71)) hx (by simp) (by rw [World.cell?_alloc_at _ _ _ _ rfl]; rfl) (by rw [World.cell?_alloc_at _ _ _ _ rfl]; rfl) (by omega))
  go_enter Tryd.func46, Tryd.ntmps46
  go_wp2_with fail
  refine T.out.mono ?_
  rintro e w1 ⟨v, rfl, hv, rfl⟩
  have HV := hid' hv
  clear hv
  go_wp2_with fail
  go_ret
  exact ⟨v, rfl, HV.out, (Below.refl _ _).alloc (Nat.le_refl _) _⟩

theorem drewN_below (B : Nat) (w : World) (n : Nat) : Below B w (w.drewN n) := ⟨rfl, rfl, rfl, Nat.le_refl _, fun _ _ => rfl⟩
/-- At an address lies the whole number x. -/
structure IntAt (w : World) (zb zo x : Nat) : Prop where
  neg : w.cell? ⟨zb, zo, none⟩ = some (.bool false)
  abs : ∃ v, w.cell? ⟨zb, zo + 1, none⟩ = some v ∧ Wd w v x
  fz0 : w.frozen? ⟨zb, zo, none⟩ = false
  fz1 : w.frozen? ⟨zb, zo + 1, none⟩ = false
theorem Wd.form {w : World} {v : Value} {x : Nat} (h : Wd w v x) : ∃ a n cap, v = .slice a n cap := by
  rcases h with ⟨_, a, cap, h⟩ | ⟨_, _, b, off, cap, h, _⟩
  · exact ⟨a, 0, cap, h⟩
  · exact ⟨_, 1, cap, h⟩
theorem Wd.below {w w' : World} {v : Value} {x : Nat} (h : Wd w v x) (hb : Below w.heap.size w w') : Wd w' v x := by
  rcases h with h | ⟨h1, h2, b, off, cap, h3, h4, h5, h6⟩
  · exact .inl h
  · exact .inr ⟨h1, h2, b, off, cap, h3, h4, Nat.lt_of_lt_of_le h5 hb.size, (hb.cell (p := ⟨b, off, none⟩) h5).trans h6⟩
theorem Wd.set {w : World} {v : Value} {x : Nat} (h : Wd w v x) {p : Addr} {old u : Value} (hp : w.cell? p = some old) (hne : ∀ k n, old ≠ .int k n) : Wd (w.setCell p u) v x := by
  rcases h with h | ⟨h1, h2, b, off, cap, h3, h4, h5, h6⟩
  · exact .inl h
  · refine .inr ⟨h1, h2, b, off, cap, h3, h4, by simpa using h5, ?_⟩
    rw [World.cell?_setCell_other _ _ _ _ ?_]
    · exact h6
    · rintro rfl
      rw [hp] at h6
      exact hne _ _ (Option.some.inj h6)
theorem IntAt.lt {w : World} {zb zo x : Nat} (h : IntAt w zb zo x) : zb < w.heap.size := World.block_lt_of_cell? w _ h.neg
theorem IntAt.below {w w' : World} {zb zo x : Nat} (h : IntAt w zb zo x) (hb : Below w.heap.size w w') : IntAt w' zb zo x := by
  have hl := h.lt
  obtain ⟨v, h1, h2⟩ := h.abs
  exact ⟨(hb.cell (p := ⟨zb, zo, none⟩) hl).trans h.neg, ⟨v, (hb.cell (p := ⟨zb, zo + 1, none⟩) hl).trans h1, h2.below hb⟩, (hb.frozen (p := ⟨zb, zo, none⟩) hl).trans h.fz0, (hb.frozen (p := ⟨zb, zo + 1, none⟩) hl).trans h.fz1⟩

set_option maxHeartbeats 400000 in
theorem give_any (zb zo x y : Nat) (v : Value) (w : World) (hz : IntAt w zb zo y) (hv : Wd w v x) :
    Calls Tryd.prog 23 #[.pointer (some ⟨zb, zo, none⟩), .bool false, v] w fun e w' => e = .returned (.pointer (some ⟨zb, zo, none⟩)) ∧ IntAt w' zb zo x ∧ w.grownBy w' (some zb) := by
  obtain ⟨v0, hv0, hw0⟩ := hz.abs
  obtain ⟨a0, n0, c0, rfl⟩ := hw0.form
  obtain ⟨a, n, c, rfl⟩ := hv.form
  have hn := hz.neg
  have f0 := hz.fz0
  have f1 := hz.fz1
  have FIN : Hid (IntAt ((w.setCell ⟨zb, zo + 1, none⟩ (.slice a n c)).setCell ⟨zb, zo, none⟩ (.bool false)) zb zo x ∧ w.grownBy ((w.setCell ⟨zb, zo + 1, none⟩ (.slice a n c)).setCell ⟨zb, zo, none⟩ (.bool false)) (some zb)) := by
    have e1 : (w.setCell ⟨zb, zo + 1, none⟩ (.slice a n c)).cell? ⟨zb, zo, none⟩ = some (.bool false) := by
      rw [World.cell?_setCell_other _ _ _ _ (by simp)]; exact hn
    have W1 := hv.set (u := .slice a n c) hv0 (by intros; simp)
    have W2 := W1.set (u := .bool false) e1 (by intros; simp)
    refine ⟨⟨World.cell?_setCell_same _ _ _ e1, ⟨_, ?_, W2⟩, ?_, ?_⟩, ?_⟩
    · rw [World.cell?_setCell_other _ _ _ _ (by simp)]
      exact World.cell?_setCell_same _ _ _ hv0
    · rw [World.frozen?_setCell, World.frozen?_setCell]; exact f0
    · rw [World.frozen?_setCell, World.frozen?_setCell]; exact f1
    · refine ⟨rfl, rfl, rfl, by simp, fun k hk hne => ?_⟩
      have hk' : k ≠ zb := fun e => hne (by rw [e])
      rw [Below.heap_setCell _ _ _ _ hk', Below.heap_setCell _ _ _ _ hk']
  clear hz hv hw0
  go_enter Tryd.func23, Tryd.ntmps23
  go_wp2
  go_ret
  exact ⟨rfl, FIN.out⟩
end Go.Proofs.YtfajbmcdkhgipaaDoor

namespace Go.Proofs.YtfajbmcdkhgipaaDoor
open Go.RowKit

def cmpR (x y : Nat) : Int := if x < y then -1 else if x = y then 0 else 1
set_option maxHeartbeats 1000000 in
theorem cmp_any (x y : Nat) (v u : Value) (w : World) (hv : Wd w v x) (hu : Wd w u y) :
    Calls Tryd.prog 48 #[v, u] w fun e w' => e = .returned (.int .i64 (cmpR x y)) ∧ Below w.heap.size w w' := by
  rcases hv with ⟨rfl, a, cap, rfl⟩ | ⟨h1, h2, b, off, cap, rfl, h4, h5, h6⟩
  · rcases hu with ⟨rfl, a, cap, rfl⟩ | ⟨k1, k2, b', off', cap', rfl, k4, k5, k6⟩
    · go_enter Tryd.func48, Tryd.ntmps48
      go_wp2
      refine wp_loop_rounds 1 ?_
      rw [rounds_succ]
      go_wp2
      go_ret
      exact ⟨rfl, by first | exact Below.refl _ _ | exact drewN_below _ _ _ | exact (drewN_below _ _ _).trans (drewN_below _ _ _)⟩
    · have E : cmpR 0 y = -1 := by simp [cmpR, k1]
      rw [E]
      go_enter Tryd.func48, Tryd.ntmps48
      go_wp2
      go_ret
      exact ⟨rfl, by first | exact Below.refl _ _ | exact drewN_below _ _ _ | exact (drewN_below _ _ _).trans (drewN_below _ _ _)⟩
  · rcases hu with ⟨rfl, a, cap, rfl⟩ | ⟨k1, k2, b', off', cap', rfl, k4, k5, k6⟩
    · have E : cmpR x 0 = 1 := by unfold cmpR; rw [if_neg (by omega), if_neg (by omega)]
      rw [E]
      go_enter Tryd.func48, Tryd.ntmps48
      go_wp2
      go_ret
      exact ⟨rfl, by first | exact Below.refl _ _ | exact drewN_below _ _ _ | exact (drewN_below _ _ _).trans (drewN_below _ _ _)⟩
    · by_cases he : x = y
      · subst he
        have E : cmpR x x = 0 := by simp [cmpR]
        rw [E]
        go_enter Tryd.func48, Tryd.ntmps48
        go_wp2
        refine wp_loop_rounds 2 ?_
        rw [rounds_succ]
        go_wp2
        go_quiet (fail)
        go_wp2
        rw [rounds_succ]
        go_wp2
        go_ret
        exact ⟨rfl, by first | exact Below.refl _ _ | exact drewN_below _ _ _ | exact (drewN_below _ _ _).trans (drewN_below _ _ _)⟩
      · have hne : ((x : Int) == (y : Int)) = false := by rw [beq_eq_false_iff_ne]; omega
        by_cases hlt : x < y
        · have E : cmpR x y = -1 := by simp [cmpR, hlt]
          have hd : decide ((x : Int) < (y : Int)) = true := by rw [decide_eq_true_iff]; omega
          rw [E]
          go_enter Tryd.func48, Tryd.ntmps48
          go_wp2
          refine wp_loop_rounds 1 ?_
          rw [rounds_succ]
          go_wp2
          go_quiet (fail)
          go_wp2
          go_quiet (fail)
          go_wp2
          go_ret
          exact ⟨rfl, by first | exact Below.refl _ _ | exact drewN_below _ _ _ | exact (drewN_below _ _ _).trans (drewN_below _ _ _)⟩
        · have E : cmpR x y = 1 := by unfold cmpR; rw [if_neg hlt, if_neg he]
          have hd : decide ((x : Int) < (y : Int)) = false := by rw [decide_eq_false_iff_not]; omega
          rw [E]
          go_enter Tryd.func48, Tryd.ntmps48
          go_wp2
          refine wp_loop_rounds 1 ?_
          rw [rounds_succ]
          go_wp2
          go_quiet (fail)
          go_wp2
          go_quiet (fail)
          go_wp2
          go_ret
          exact ⟨rfl, by first | exact Below.refl _ _ | exact drewN_below _ _ _ | exact (drewN_below _ _ _).trans (drewN_below _ _ _)⟩
end Go.Proofs.YtfajbmcdkhgipaaDoor

namespace Go.Proofs.YtfajbmcdkhgipaaDoor
open Go.RowKit
set_option maxHeartbeats 1000000 in
theorem twin_any (x : Nat) (v : Value) (w : World) (hv : Wd w v x) :
    Calls Tryd.prog 24 #[v] w fun e w' => ∃ u, e = .returned u ∧ Wd w' u x ∧ Below w.heap.size w w' := by
  rcases hv with ⟨rfl, a, cap, rfl⟩ | ⟨h1, h2, b, off, cap, rfl, h4, h5, h6⟩
  · cases a with
    | none =>
      go_enter Tryd.func24, Tryd.ntmps24
      go_wp2
      go_ret
      exact ⟨_, rfl, .inl ⟨rfl, _, _, rfl⟩, by first | exact Below.refl _ _ | exact drewN_below _ _ _⟩
    | some a =>
      go_enter Tryd.func24, Tryd.ntmps24
      go_wp2
      go_ret
      exact ⟨_, rfl, .inl ⟨rfl, _, _, rfl⟩, by first | exact Below.refl _ _ | exact drewN_below _ _ _⟩
  · go_enter Tryd.func24, Tryd.ntmps24
    go_wp2
    go_ret
    refine ⟨_, rfl, .inr ⟨h1, h2, w.heap.size, 0, _, rfl, ?_, ?_, ?_⟩, ((Below.refl _ _).alloc (Nat.le_refl _) _).drew⟩
    · show 1 ≤ 1 + _
      omega
    · simp
    · rw [World.cell?_drew, World.cell?_alloc_at _ _ _ _ rfl]
      exact (Array.getElem?_append_left (by simp)).trans rfl
end Go.Proofs.YtfajbmcdkhgipaaDoor

namespace Go.Proofs.YtfajbmcdkhgipaaDoor
open Go.RowKit
theorem wrap_u64 (x : Nat) (h : x < 18446744073709551616) : IntKind.u64.wrap (x : Int) = x := by
  simp [IntKind.wrap, IntKind.bits, IntKind.signed]; omega
theorem two_made (w : World) (n : Nat) (p q : Int) (W : World) (hW : W = (((w.alloc (.cells #[.int .u32 0, .int .u32 0] 71)).drewN n).setCell ⟨w.heap.size, 0, none⟩ (.int .u32 p)).setCell ⟨w.heap.size, 1, none⟩ (.int .u32 q)) :
    W.cell? ⟨w.heap.size, 0, none⟩ = some (.int .u32 p) ∧ W.cell? ⟨w.heap.size, 0 + 1, none⟩ = some (.int .u32 q) ∧ w.heap.size < W.heap.size ∧ Below w.heap.size w W := by
  subst hW
  have c0 : (w.alloc (.cells #[.int .u32 0, .int .u32 0] 71)).cell? ⟨w.heap.size, 0, none⟩ = some (.int .u32 0) := by rw [World.cell?_alloc_at _ _ _ _ rfl]; rfl
  have c1 : (w.alloc (.cells #[.int .u32 0, .int .u32 0] 71)).cell? ⟨w.heap.size, 1, none⟩ = some (.int .u32 0) := by rw [World.cell?_alloc_at _ _ _ _ rfl]; rfl
  have d1 : (((w.alloc (.cells #[.int .u32 0, .int .u32 0] 71)).drewN n).setCell ⟨w.heap.size, 0, none⟩ (.int .u32 p)).cell? ⟨w.heap.size, 1, none⟩ = some (.int .u32 0) := by
    rw [World.cell?_setCell_other _ _ _ _ (by simp)]; exact c1
  refine ⟨?_, World.cell?_setCell_same _ _ _ d1, by simp, ?_⟩
  · rw [World.cell?_setCell_other _ _ _ _ (by simp)]
    exact World.cell?_setCell_same _ _ _ (show ((w.alloc (.cells #[.int .u32 0, .int .u32 0] 71)).drewN n).cell? _ = _ from c0)
  · exact ((((Below.refl _ w).alloc (Nat.le_refl _) _).trans (drewN_below _ _ n)).setCell (p := ⟨w.heap.size, 0, none⟩) (Nat.le_refl _) _).setCell (p := ⟨w.heap.size, 1, none⟩) (Nat.le_refl _) _
theorem two_trim (w : World) (n : Nat) (p q : Int) (z : Nat) (hz : z < 4294967296) (hp : p = z) (hq : q = 0) :
    Calls Tryd.prog 45 #[.slice (some ⟨w.heap.size, 0, none⟩) 2 2] ((((w.alloc (.cells #[.int .u32 0, .int .u32 0] 71)).drewN n).setCell ⟨w.heap.size, 0, none⟩ (.int .u32 p)).setCell ⟨w.heap.size, 1, none⟩ (.int .u32 q)) fun e w' => ∃ v, e = .returned v ∧ Hid (Wd w' v z) ∧ Hid (Below w.heap.size w w') := by
  obtain ⟨h0, h1, h2, h3⟩ := two_made w n p q _ rfl
  subst hp hq
  exact (trim2 _ _ _ z _ hz h2 h0 h1 (by omega)).mono fun _ _ ⟨v, a, b, c⟩ => ⟨v, a, by rw [c]; exact hid' b, by rw [c]; exact hid' h3⟩
set_option maxHeartbeats 1000000 in
theorem mul_any (x y : Nat) (v u : Value) (w : World) (hv : Wd w v x) (hu : Wd w u y) (hxy : x * y < 4294967296) :
    Calls Tryd.prog 35 #[v, u] w fun e w' => ∃ u, e = .returned u ∧ Wd w' u (x * y) ∧ Below w.heap.size w w' := by
  rcases hv with ⟨rfl, a, cap, rfl⟩ | ⟨h1, h2, b, off, cap, rfl, h4, h5, h6⟩
  · obtain ⟨a1, n1, c1, rfl⟩ := hu.form
    clear hu
    go_enter Tryd.func35, Tryd.ntmps35
    go_wp2
    go_ret
    exact ⟨_, rfl, .inl ⟨by simp, _, _, rfl⟩, Below.refl _ _⟩
  · rcases hu with ⟨rfl, a, cap, rfl⟩ | ⟨k1, k2, b', off', cap', rfl, k4, k5, k6⟩
    · go_enter Tryd.func35, Tryd.ntmps35
      go_wp2
      go_ret
      exact ⟨_, rfl, .inl ⟨by simp, _, _, rfl⟩, Below.refl _ _⟩
    · have hq : (x : Int) * (y : Int) / 4294967296 = 0 := by
        have : ((x * y : Nat) : Int) = (x : Int) * (y : Int) := by simp
        omega
      have hmk : ∀ w, (Instr.makeSlice 51 (.int .i64 2) (.int .i64 2)).run Tryd.prog w = .ok (.slice (some ⟨w.heap.size, 0, none⟩) 2 2) (w.alloc (.cells #[.int .u32 0, .int .u32 0] 71)) := fun _ => by kernel_rfl
      go_enter Tryd.func35, Tryd.ntmps35
      go_wp2
      refine wp_loop_rounds 2 ?_
      rw [rounds_succ]
      go_wp2
      refine wp_loop_rounds 2 ?_
      rw [rounds_succ]
      go_wp2
      go_quiet (fail)
      go_wp2
      rw [rounds_succ]
      go_wp2
      rw [rounds_succ]
      go_wp2_with fail
      refine (two_trim w _ _ 0 (x * y) hxy (Int.natCast_mul x y).symm rfl).mono ?_
      rintro e w1 ⟨v, rfl, HV, HB⟩
      go_wp2_with fail
      go_ret
      exact ⟨v, rfl, HV.out, HB.out⟩
theorem one_trim (w : World) :
    Calls Tryd.prog 45 #[.slice (some ⟨w.heap.size, 0, none⟩) 1 1] (w.alloc (.cells #[.int .u32 0] 71)) fun e w' => ∃ v, e = .returned v ∧ Hid (Wd w' v 0) ∧ Hid (Below w.heap.size w w') := by
  have c0 : (w.alloc (.cells #[.int .u32 0] 71)).cell? ⟨w.heap.size, 0, none⟩ = some (.int .u32 0) := by rw [World.cell?_alloc_at _ _ _ _ rfl]; rfl
  have HB := hid' ((Below.refl _ w).alloc (Nat.le_refl _) (.cells #[.int .u32 0] 71))
  generalize w.alloc (.cells #[.int .u32 0] 71) = W at *
  go_enter Tryd.func45, Tryd.ntmps45
  go_wp2
  refine wp_loop_rounds 2 ?_
  rw [rounds_succ]
  go_wp2
  rw [rounds_succ]
  go_wp2
  go_ret
  exact ⟨_, rfl, hid' (.inl ⟨rfl, _, _, rfl⟩), HB⟩
theorem two_fresh (w : World) (p : Int) (z : Nat) (hz : z < 4294967296) (hp : p = z) :
    Calls Tryd.prog 45 #[.slice (some ⟨w.heap.size, 0, none⟩) 2 2] (w.alloc (.cells #[.int .u32 p, .int .u32 0] 71)) fun e w' => ∃ v, e = .returned v ∧ Hid (Wd w' v z) ∧ Hid (Below w.heap.size w w') := by
  subst hp
  exact (trim2 w.heap.size 0 2 z (w.alloc (.cells #[.int .u32 z, .int .u32 0] 71)) hz (by simp) (by rw [World.cell?_alloc_at _ _ _ _ rfl]; rfl) (by rw [World.cell?_alloc_at _ _ _ _ rfl]; rfl) (by omega)).mono fun _ _ ⟨v, a, b, c⟩ => ⟨v, a, by rw [c]; exact hid' b, by rw [c]; exact hid' ((Below.refl _ _).alloc (Nat.le_refl _) _)⟩
set_option maxHeartbeats 2000000 in
theorem add_any (x y : Nat) (v u : Value) (w : World) (hv : Wd w v x) (hu : Wd w u y) (hxy : x + y < 4294967296) :
    Calls Tryd.prog 47 #[v, u] w fun e w' => ∃ u, e = .returned u ∧ Wd w' u (x + y) ∧ Below w.heap.size w w' := by
  have hmk1 : ∀ w, (Instr.makeSlice 51 (.int .i64 1) (.int .i64 1)).run Tryd.prog w = .ok (.slice (some ⟨w.heap.size, 0, none⟩) 1 1) (w.alloc (.cells #[.int .u32 0] 71)) := fun _ => by kernel_rfl
  have hmk : ∀ w, (Instr.makeSlice 51 (.int .i64 2) (.int .i64 2)).run Tryd.prog w = .ok (.slice (some ⟨w.heap.size, 0, none⟩) 2 2) (w.alloc (.cells #[.int .u32 0, .int .u32 0] 71)) := fun _ => by kernel_rfl
  rcases hv with ⟨rfl, a, cap, rfl⟩ | ⟨h1, h2, b, off, cap, rfl, h4, h5, h6⟩
  · rcases hu with ⟨rfl, a', cap', rfl⟩ | ⟨k1, k2, b', off', cap', rfl, k4, k5, k6⟩
    · go_enter Tryd.func47, Tryd.ntmps47
      go_wp2
      refine wp_loop_rounds 1 ?_
      rw [rounds_succ]
      go_wp2_with fail
      refine (one_trim w).mono ?_
      rintro e w1 ⟨v, rfl, HV, HB⟩
      go_wp2_with fail
      go_ret
      exact ⟨v, rfl, HV.out, HB.out⟩
    · have hq : (y : Int) / 4294967296 = 0 := by omega
      go_enter Tryd.func47, Tryd.ntmps47
      go_wp2
      refine wp_loop_rounds 2 ?_
      rw [rounds_succ]
      go_wp2
      rw [rounds_succ]
      go_wp2_with fail
      refine (two_fresh w _ (0 + y) hxy (by simp)).mono ?_
      rintro e w1 ⟨v, rfl, HV, HB⟩
      go_wp2_with fail
      go_ret
      exact ⟨v, rfl, HV.out, HB.out⟩
  · rcases hu with ⟨rfl, a', cap', rfl⟩ | ⟨k1, k2, b', off', cap', rfl, k4, k5, k6⟩
    · have hq : (x : Int) / 4294967296 = 0 := by omega
      go_enter Tryd.func47, Tryd.ntmps47
      go_wp2
      refine wp_loop_rounds 2 ?_
      rw [rounds_succ]
      go_wp2
      rw [rounds_succ]
      go_wp2_with fail
      refine (two_fresh w _ (x + 0) hxy (by simp)).mono ?_
      rintro e w1 ⟨v, rfl, HV, HB⟩
      go_wp2_with fail
      go_ret
      exact ⟨v, rfl, HV.out, HB.out⟩
    · have hq : ((x : Int) + (y : Int)) / 4294967296 = 0 := by omega
      go_enter Tryd.func47, Tryd.ntmps47
      go_wp2
      refine wp_loop_rounds 2 ?_
      rw [rounds_succ]
      go_wp2
      rw [rounds_succ]
      go_wp2_with fail
      refine (two_fresh w _ (x + y) hxy (by simp)).mono ?_
      rintro e w1 ⟨v, rfl, HV, HB⟩
      go_wp2_with fail
      go_ret
      exact ⟨v, rfl, HV.out, HB.out⟩
end Go.Proofs.YtfajbmcdkhgipaaDoor
