/- Contracts of sets.Blocker and sets.Choose. -/
import Derived.Deep.QuietTactic
import Derived.BigQuiet
import Derived.Test.YtgdcfogikchjeaaSieveW
import Derived.Test.YtgdcfogikchjeaaQuietW
namespace Go.Proofs.Ytgdcfogikchjeaa
open Go.RowKit

theorem range_hit {p : Nat → Bool} {k : Nat} (hp : p k = true) : (List.range (k + 1)).filter p = (List.range k).filter p ++ [k] := by
  rw [List.range_succ, List.filter_append, List.filter_cons, hp]; simp
theorem range_miss {p : Nat → Bool} {k : Nat} (hp : p k = false) : (List.range (k + 1)).filter p = (List.range k).filter p := by
  rw [List.range_succ, List.filter_append, List.filter_cons, hp]; simp
theorem range_le (p : Nat → Bool) (k : Nat) : ((List.range k).filter p).length ≤ k := by
  have := List.length_filter_le p (List.range k); simpa using this
theorem famR_nat {n : Int} {zs : List Int} (h : famR n zs = 0) : ∃ m : Nat, n = m ∧ m ≤ 8 := by
  unfold famR at h
  split at h
  · rename_i g; exact ⟨n.toNat, by omega, by omega⟩
  · simp at h
theorem pow_T (n : Nat) (hn : n ≤ 8) : ∃ T : Nat, wrap64 (2 ^ n) = (T : Int) ∧ Hid (T = 2 ^ n) ∧ T ≤ 256 := ⟨2 ^ n, (pow_wrap _ hn).1, rfl, (pow_wrap _ hn).2⟩

theorem N_inj {l m : List Nat} (h : N l = N m) : l = m := by
  have := congrArg (List.map Int.toNat) h
  unfold N at this
  simpa [List.map_map, Function.comp_def] using this
theorem fam_nat {n : Nat} {l : List Nat} (h : famR n (N l) = 0) : Fam n l := by
  obtain ⟨m, l', h1, _, h2, h3⟩ := fam_of h
  have e : n = m := by omega
  subst e
  rw [N_inj h2]
  exact h3


theorem Choose_bad (n k : Int) (w : World) (h : ¬ (0 ≤ n ∧ n ≤ 8 ∧ 0 ≤ k ∧ k ≤ n)) :
    Calls Try.prog 53 #[.int .i64 n, .int .i64 k] w fun e w' => e = .returned (.tuple #[.slice none 0 0, .int .i64 1]) ∧ Below w.heap.size w w' := by
  have HB : Hid (Below w.heap.size w (w.alloc (.cells #[.int .i64 k] 3))) := (Below.refl _ _).alloc (Nat.le_refl _) _
  by_cases hn : 0 ≤ n ∧ n ≤ 8
  · obtain ⟨n0, n1⟩ := hn
    by_cases hk : k < 0
    · go_enter Try.func53, Try.ntmps53
      go_wp2_with fail
      refine (isGround_yes _ _ n0 n1).mono ?_
      rintro e w' ⟨rfl, rfl⟩
      go_wp2_with fail
      go_ret2
      exact ⟨rfl, HB.out⟩
    · have hk2 : n < k := by omega
      have hk3 : decide (k < 0) = false := by simpa using hk
      clear h
      go_enter Try.func53, Try.ntmps53
      go_wp2_with fail
      refine (isGround_yes _ _ n0 n1).mono ?_
      rintro e w' ⟨rfl, rfl⟩
      go_wp2_with fail
      go_ret2
      exact ⟨rfl, HB.out⟩
  · go_enter Try.func53, Try.ntmps53
    go_wp2_with fail
    refine (isGround_no _ _ (by omega)).mono ?_
    rintro e w' ⟨rfl, rfl⟩
    go_wp2_with fail
    go_ret2
    exact ⟨rfl, HB.out⟩
theorem ChooseQ_ok (s c bx : Nat) (w : World) (hs : s < 256) (hbx : w.cell? ⟨bx, 0, none⟩ = some (.int .i64 c)) :
    Calls Try.prog 75 #[.int .i64 s, .pointer (some ⟨bx, 0, none⟩)] w fun e w' => e = .returned (.bool (pop s == c)) ∧ Below w.heap.size w w' := by
  have HS := hid (fun w' => size_any s w' hs)
  go_enter Try.func75, Try.ntmps75
  go_wp2_with fail
  go_quiet ((go_at_call 10; refine (HS.out _).mono ?_; rintro e w' ⟨rfl, rfl⟩; exact ⟨rfl, _, rfl⟩))
  go_wp2_with fail
  go_ret
  exact ⟨ret_bool (by rw [Bool.eq_iff_iff, beq_iff_eq, beq_iff_eq]; omega), drewN_below _ _ _⟩
theorem Choose_good (n c : Nat) (w : World) (hn : n ≤ 8) (hc : c ≤ n) :
    Calls Try.prog 53 #[.int .i64 n, .int .i64 c] w fun e w' => ∃ r, e = .returned (.tuple #[r, .int .i64 0]) ∧ Own w.heap.size w' r ((List.range (2 ^ n)).filter fun s => pop s == c) ∧ Below w.heap.size w w' := by
  have hmf : ∀ (fn : Fn) (first cap : Array Value) (w : World), (Instr.makeFunc fn first cap).run Try.prog w = .ok (.func fn first cap) w := fun _ _ _ _ => rfl
  have hc1 : ¬ (c : Int) < 0 := by omega
  have hc2 : ¬ (n : Int) < (c : Int) := by omega
  have hc3 : decide ((c : Int) < 0) = false := by simp
  have hc4 : decide (n < c) = false := by simpa using hc
  have B0 : Below w.heap.size w (w.alloc (.cells #[.int .i64 c] 3)) := (Below.refl _ _).alloc (Nat.le_refl _) _
  have SV := hid (Sieve_any n 75 #[.pointer (some ⟨w.heap.size, 0, none⟩)] (fun s => pop s == c) (w.alloc (.cells #[.int .i64 c] 3)) hn (fun args w => enters_of Try.func75 (by kernel_rfl) rfl args w)
    (fun x hx w1 hb1 _ => ChooseQ_ok x c w.heap.size w1 (lt256 hn hx) ((hb1.cell (p := ⟨w.heap.size, 0, none⟩) (by simp)).trans (cellN w _ _).1)))
  have HB0 := hid B0
  clear B0
  generalize (List.range (2 ^ n)).filter (fun s => pop s == c) = acc at *
  go_enter Try.func53, Try.ntmps53
  go_wp2_with fail
  refine (isGround_yes _ _ (by omega) (by omega)).mono ?_
  rintro e w' ⟨rfl, rfl⟩
  go_wp2_with fail
  refine SV.out.mono ?_
  rintro e w2 ⟨r, rfl, ho, hb2⟩
  have HB := hid (HB0.out.trans (hb2.mono HB0.out.size))
  have HO := hid (ho.mono HB0.out.size : Own w.heap.size w2 r acc)
  clear hb2 ho
  go_wp2_with fail
  go_ret2
  exact ⟨_, rfl, HO.out, HB.out⟩
end Go.Proofs.Ytgdcfogikchjeaa

namespace Go.Proofs.Ytgdcfogikchjeaa
open Go.RowKit

theorem wholeSet_any (n : Nat) (w : World) (hn : n ≤ 8) : Calls Try.prog 30 #[.int .i64 n] w fun e w' => e = .returned (.int .i64 (2 ^ n - 1 : Nat)) ∧ w' = w := by
  obtain ⟨T, HT, hT2, hT, hT0⟩ : ∃ T : Nat, Hid (T = 2 ^ n) ∧ T ≤ 256 ∧ wrap64 (2 ^ n) = (T : Int) ∧ 1 ≤ T := ⟨2 ^ n, rfl, (pow_wrap _ hn).2, (pow_wrap _ hn).1, Nat.one_le_two_pow⟩
  rw [← HT.out]
  have hti : (T : Int) - 1 = ((T - 1 : Nat) : Int) := by omega
  go_enter Try.func30, Try.ntmps30
  go_wp2
  go_ret
  exact ⟨rfl, rfl⟩
end Go.Proofs.Ytgdcfogikchjeaa

namespace Go.Proofs.Ytgdcfogikchjeaa
open Go.RowKit Go.Shelf
attribute [local go_sem] Oper.semAt_some

/-- A block of 256 bools. -/
def Marks (w : World) (b : Nat) (p : Nat → Bool) : Prop := ∀ i, i < 256 → w.cell? ⟨b, i, none⟩ = some (.bool (p i))
theorem Marks.lt {w : World} {b : Nat} {p : Nat → Bool} (h : Marks w b p) : b < w.heap.size := World.block_lt_of_cell? w _ (h 0 (by omega))
theorem Marks.below {w w' : World} {b B : Nat} {p : Nat → Bool} (h : Marks w b p) (hb : Below B w w') (hB : b < B) : Marks w' b p := fun i hi => (hb.cell (p := ⟨b, i, none⟩) hB).trans (h i hi)
/-- Can s take one of those that are offered? -/
def takeB (p : Nat → Bool) (s o : Nat) : Bool := (els o).any fun i => p (s ||| bt i)

set_option maxRecDepth 100000 in
set_option maxHeartbeats 2000000 in
theorem canTakeOne_any (b : Nat) (p : Nat → Bool) (s o : Nat) (hs : s < 256) (ho : o < 256) (w : World) (hm : Marks w b p) :
    Calls Try.prog 58 #[.pointer (some ⟨b, 0, none⟩), .int .i64 s, .int .i64 o] w fun e w' => e = .returned (.bool (takeB p s o)) ∧ Below w.heap.size w w' := by
  refine (callsIn_wide (n := 6)).1 ?_
  refine callsIn_of_wp_marks Try.func58 rfl trivial ?_ rfl
  simp only [Try.ntmps58, List.size_toArray, List.length_cons, List.length_nil, Nat.reduceAdd, Nat.reduceSub, Array.replicate_succ, Array.replicate_zero, List.push_toArray, List.append_toArray, List.nil_append, List.cons_append]
  gi_wp2_with (refine ⟨trivial, ?_⟩; gi_at_call 42; refine (callsIn_wide.2 (sing_any o _)).mono ?_; rintro e w' ⟨rfl, rfl⟩)
  have c0 := cellN w (.pointer (some ⟨b, 0, none⟩)) 80
  have c1 := cellN (w.alloc (.cells #[.pointer (some ⟨b, 0, none⟩)] 80)) (.int .i64 s) 3
  have c2 := cellN ((w.alloc (.cells #[.pointer (some ⟨b, 0, none⟩)] 80)).alloc (.cells #[.int .i64 s] 3)) (.bool false) 4
  have c3 := cellN (((w.alloc (.cells #[.pointer (some ⟨b, 0, none⟩)] 80)).alloc (.cells #[.int .i64 s] 3)).alloc (.cells #[.bool false] 4)) (.int .i64 o) 3
  simp only [World.size_alloc] at c1 c2 c3
  have hB0 : Below w.heap.size w ((((w.alloc (.cells #[.pointer (some ⟨b, 0, none⟩)] 80)).alloc (.cells #[.int .i64 s] 3)).alloc (.cells #[.bool false] 4)).alloc (.cells #[.int .i64 o] 3)) := ((((Below.refl _ w).alloc (Nat.le_refl _) _).alloc (by simp) _).alloc (by simp; omega) _).alloc (by simp; omega) _
  refine wpIn_rangeFunc_ownF rfl (by decide) (gf := 59) (lb := #[.pointer (some ⟨w.heap.size + 1 + 1 + 1, 0, none⟩)]) rfl trivial (enters_of Try.func59 (by kernel_rfl) rfl)
    (sing_stops 5 (by decide) o (w.heap.size + 1 + 1 + 1) ho _ (by simp) c3.1) (fun _ _ => trivial) (fun _ _ _ _ _ _ _ _ => trivial) (Below.refl _ _) (fun _ => rfl)
    (fun pre W => ((∀ y ∈ pre, p (s ||| bt y.1) = false) ∧ W.cell? ⟨w.heap.size, 0, none⟩ = some (.pointer (some ⟨b, 0, none⟩)) ∧ W.cell? ⟨w.heap.size + 1, 0, none⟩ = some (.int .i64 s) ∧ W.cell? ⟨w.heap.size + 1 + 1, 0, none⟩ = some (.bool false) ∧ W.frozen? ⟨w.heap.size + 1 + 1, 0, none⟩ = false) ∧ Below w.heap.size w W)
    (fun c pre W => (c = .ret ∧ (∃ y ∈ pre, p (s ||| bt y.1) = true) ∧ W.cell? ⟨w.heap.size + 1 + 1, 0, none⟩ = some (.bool true)) ∧ Below w.heap.size w W)
    (OwnFrom.and (Own.from (fun s A B row hs hg hr => ⟨hs.1, cell_kept hs.2.1 hg hr, cell_kept hs.2.2.1 hg hr, cell_kept hs.2.2.2.1 hg hr, (frozen_kept hs.2.2.2.1 hg hr).trans hs.2.2.2.2⟩) _) (ownFrom_below (Nat.le_refl _) (by simp; omega)))
    (fun c => OwnFrom.and (Own.from (fun s A B row hs hg hr => ⟨hs.1, hs.2.1, cell_kept hs.2.2 hg hr⟩) _) (ownFrom_below (Nat.le_refl _) (by simp; omega)))
    ⟨⟨by simp, cellA _ (cellA _ (cellA _ c0.1)), cellA _ (cellA _ c1.1), cellA _ c2.1, frozA _ c2.1 c2.2⟩, hB0⟩
    (fun x => { tmps := #[.pointer (some ⟨b, 0, none⟩), .int .i64 s, .int .i64 o, .pointer (some ⟨w.heap.size, 0, none⟩), .pointer (some ⟨w.heap.size + 1, 0, none⟩), undef, .pointer (some ⟨w.heap.size + 1 + 1, 0, none⟩), .int .i64 (bt x.1 : Nat), .int .i64 o, .func (.func 59) #[] #[.pointer (some ⟨w.heap.size + 1 + 1 + 1, 0, none⟩)], .int .i64 (bt x.1 : Nat), undef, undef, undef, undef, undef, undef, undef], defers := [] }) ?assign ?body ?done ?stop
  case assign =>
    intro l x W K hK
    dsimp only [enc1]
    gi_wp2
    exact hK
  case body =>
    rintro l pre x W ⟨⟨hp, hcp, hcs, hcr, hfr⟩, hB⟩ _
    have hx8 := bt_lt (el_lt x)
    have hor : bits .or .i64 (s : Int) (bt x.1 : Int) = ((s ||| bt x.1 : Nat) : Int) := i64_or_nat s (bt x.1) (by omega) (by omega)
    have hlt : s ||| bt x.1 < 256 := or_lt hs hx8
    have hcell := (hm.below hB hm.lt) _ hlt
    rcases hpx : p (s ||| bt x.1) with _ | _
    · have HP := hid hpx
      rw [hpx] at hcell
      clear hpx
      gi_wp2
      refine region_quiet_round (by kernel_rfl) (by kernel_rfl) (by kernel_rfl) ?_
      repeat (gi_big_quiet_step (fail))
      refine wpQuietIn_nil ?_
      intro _ hw'
      obtain ⟨nq, hw''⟩ := hw'
      subst hw''
      gi_wp2
      exact ⟨keeps_drewN _ _, trivial, ⟨fun y hy => by rw [List.mem_append, List.mem_singleton] at hy; rcases hy with hy | rfl; exact hp y hy; exact HP.out, hcp, hcs, hcr, by rw [froz_drewN]; exact hfr⟩, hB.trans (drewN_below _ _ _)⟩
    · have HP := hid hpx
      rw [hpx] at hcell
      clear hpx
      gi_wp2
      refine region_quiet_round (by kernel_rfl) (by kernel_rfl) (by kernel_rfl) ?_
      repeat (gi_big_quiet_step (fail))
      refine wpQuietIn_nil ?_
      intro _ hw'
      obtain ⟨nq, hw''⟩ := hw'
      subst hw''
      have hfr' : (W.drewN nq).frozen? ⟨w.heap.size + 1 + 1, 0, none⟩ = false := by rw [froz_drewN]; exact hfr
      have hcr' : (W.drewN nq).cell? ⟨w.heap.size + 1 + 1, 0, none⟩ = some (.bool false) := hcr
      gi_wp2
      exact ⟨(keeps_drewN _ _).trans (KeepsOthers.setCell _ _ _), ⟨rfl, ⟨x, by simp, HP.out⟩, World.cell?_setCell_same' _ _ _ (by rw [hcr']; rfl)⟩, (hB.trans (drewN_below _ _ _)).setCell (p := ⟨w.heap.size + 1 + 1, 0, none⟩) (by simp; omega) _⟩
  case done =>
    rintro D ys W hD hys ⟨⟨hne, _, _, hcr, hfr⟩, hB⟩ hK
    gi_wp2
    have hK' := (KeepsOthers.setCell W ⟨w.heap.size + 1 + 1, 0, none⟩ (.bool false)).same D _ hK rfl
    refine ⟨by simp, .inl ⟨_, _, rfl, run_takeDeferred hK', ?_⟩⟩
    have hc5 := cell_kept (World.cell?_setCell_same' W ⟨w.heap.size + 1 + 1, 0, none⟩ (.bool false) (by rw [hcr]; rfl)) (grownBy_putObj' _ D (.deferred none)) (fun r e => by cases e; exact ⟨_, hK', rfl⟩)
    refine ⟨.bool false, ?_, ?_, (hB.setCell (p := ⟨w.heap.size + 1 + 1, 0, none⟩) (by simp; omega) _).trans (belowK_b (w := w) (Nat.le_refl _) _ D _ _ (by simp at hD; omega) hK' rfl rfl)⟩
    · simp [results, Try.f58, go_sem, hc5]
    · refine ret_bool (Bool.eq_false_iff.2 fun h => ?_).symm
      unfold takeB at h
      rw [List.any_eq_true] at h
      obtain ⟨i, hi, h1⟩ := h
      rw [← hys, List.mem_map] at hi
      obtain ⟨y, hy, rfl⟩ := hi
      rw [hne y hy] at h1
      cases h1
  case stop =>
    rintro D c pre W hD hpre ⟨⟨rfl, ⟨y, hy, h1⟩, hcr⟩, hB⟩ hK
    gi_wp2
    refine ⟨by simp, .inl ⟨_, _, rfl, run_takeDeferred hK, ?_⟩⟩
    have hc5 := cell_kept hcr (grownBy_putObj' _ D (.deferred none)) (fun r e => by cases e; exact ⟨_, hK, rfl⟩)
    refine ⟨.bool true, ?_, ?_, hB.trans (belowK_b (w := w) (Nat.le_refl _) W D _ _ (by simp at hD; omega) hK rfl rfl)⟩
    · simp [results, Try.f58, go_sem, hc5]
    · exact ret_bool (by unfold takeB; exact (List.any_eq_true.2 ⟨y.1, y.2, h1⟩).symm)
end Go.Proofs.Ytgdcfogikchjeaa
