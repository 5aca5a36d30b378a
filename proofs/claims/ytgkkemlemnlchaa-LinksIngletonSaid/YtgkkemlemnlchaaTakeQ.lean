/- axioms.canTakeOne, axioms.canGiveAll. -/
import Derived.Test.YtgkkemlemnlchaaQuietQ
namespace Go.Proofs.Ytgkkemlemnlchaa
open Go.RowKit Go.Shelf
attribute [local go_sem] Oper.semAt_some

/-- A block of 256 bools. -/
def Marks (w : World) (b : Nat) (p : Nat → Bool) : Prop := ∀ i, i < 256 → w.cell? ⟨b, i, none⟩ = some (.bool (p i))
theorem Marks.lt {w : World} {b : Nat} {p : Nat → Bool} (h : Marks w b p) : b < w.heap.size := World.block_lt_of_cell? w _ (h 0 (by omega))
theorem Marks.below {w w' : World} {b B : Nat} {p : Nat → Bool} (h : Marks w b p) (hb : Below B w w') (hB : b < B) : Marks w' b p := fun i hi => (hb.cell (p := ⟨b, i, none⟩) hB).trans (h i hi)
/-- Can s take one of those that are offered? -/
def takeB (p : Nat → Bool) (s o : Nat) : Bool := (els o).any fun i => p (s ||| bt i)

set_option maxRecDepth 100000 in
set_option maxHeartbeats 2000000 in
theorem canTakeOne_any (b : Nat) (p : Nat → Bool) (s o : Nat) (hs : s < 256) (ho : o < 256) (w : World) (hm : Marks w b p) :
    Calls Try.prog 41 #[.pointer (some ⟨b, 0, none⟩), .int .i64 s, .int .i64 o] w fun e w' => e = .returned (.bool (takeB p s o)) ∧ Below w.heap.size w w' := by
  refine (callsIn_wide (n := 6)).1 ?_
  refine callsIn_of_wp_marks Try.func41 rfl trivial ?_ rfl
  simp only [Try.ntmps41, List.size_toArray, List.length_cons, List.length_nil, Nat.reduceAdd, Nat.reduceSub, Array.replicate_succ, Array.replicate_zero, List.push_toArray, List.append_toArray, List.nil_append, List.cons_append]
  gi_wp2_with (refine ⟨trivial, ?_⟩; gi_at_call 40; refine (callsIn_wide.2 (sing_any o _)).mono ?_; rintro e w' ⟨rfl, rfl⟩)
  have c0 := cellN w (.pointer (some ⟨b, 0, none⟩)) 70
  have c1 := cellN (w.alloc (.cells #[.pointer (some ⟨b, 0, none⟩)] 70)) (.int .i64 s) 3
  have c2 := cellN ((w.alloc (.cells #[.pointer (some ⟨b, 0, none⟩)] 70)).alloc (.cells #[.int .i64 s] 3)) (.bool false) 4
  have c3 := cellN (((w.alloc (.cells #[.pointer (some ⟨b, 0, none⟩)] 70)).alloc (.cells #[.int .i64 s] 3)).alloc (.cells #[.bool false] 4)) (.int .i64 o) 3
  simp only [World.size_alloc] at c1 c2 c3
  have hB0 : Below w.heap.size w ((((w.alloc (.cells #[.pointer (some ⟨b, 0, none⟩)] 70)).alloc (.cells #[.int .i64 s] 3)).alloc (.cells #[.bool false] 4)).alloc (.cells #[.int .i64 o] 3)) := ((((Below.refl _ w).alloc (Nat.le_refl _) _).alloc (by simp) _).alloc (by simp; omega) _).alloc (by simp; omega) _
  refine wpIn_rangeFunc_ownF rfl (by decide) (gf := 42) (lb := #[.pointer (some ⟨w.heap.size + 1 + 1 + 1, 0, none⟩)]) rfl trivial (enters_of Try.func42 (by kernel_rfl) rfl)
    (sing_stops 5 (by decide) o (w.heap.size + 1 + 1 + 1) ho _ (by simp) c3.1) (fun _ _ => trivial) (fun _ _ _ _ _ _ _ _ => trivial) (Below.refl _ _) (fun _ => rfl)
    (fun pre W => ((∀ y ∈ pre, p (s ||| bt y.1) = false) ∧ W.cell? ⟨w.heap.size, 0, none⟩ = some (.pointer (some ⟨b, 0, none⟩)) ∧ W.cell? ⟨w.heap.size + 1, 0, none⟩ = some (.int .i64 s) ∧ W.cell? ⟨w.heap.size + 1 + 1, 0, none⟩ = some (.bool false) ∧ W.frozen? ⟨w.heap.size + 1 + 1, 0, none⟩ = false) ∧ Below w.heap.size w W)
    (fun c pre W => (c = .ret ∧ (∃ y ∈ pre, p (s ||| bt y.1) = true) ∧ W.cell? ⟨w.heap.size + 1 + 1, 0, none⟩ = some (.bool true)) ∧ Below w.heap.size w W)
    (OwnFrom.and (Own.from (fun s A B row hs hg hr => ⟨hs.1, cell_kept hs.2.1 hg hr, cell_kept hs.2.2.1 hg hr, cell_kept hs.2.2.2.1 hg hr, (frozen_kept hs.2.2.2.1 hg hr).trans hs.2.2.2.2⟩) _) (ownFrom_below (Nat.le_refl _) (by simp; omega)))
    (fun c => OwnFrom.and (Own.from (fun s A B row hs hg hr => ⟨hs.1, hs.2.1, cell_kept hs.2.2 hg hr⟩) _) (ownFrom_below (Nat.le_refl _) (by simp; omega)))
    ⟨⟨by simp, cellA _ (cellA _ (cellA _ c0.1)), cellA _ (cellA _ c1.1), cellA _ c2.1, frozA _ c2.1 c2.2⟩, hB0⟩
    (fun x => { tmps := #[.pointer (some ⟨b, 0, none⟩), .int .i64 s, .int .i64 o, .pointer (some ⟨w.heap.size, 0, none⟩), .pointer (some ⟨w.heap.size + 1, 0, none⟩), undef, .pointer (some ⟨w.heap.size + 1 + 1, 0, none⟩), .int .i64 (bt x.1 : Nat), .int .i64 o, .func (.func 42) #[] #[.pointer (some ⟨w.heap.size + 1 + 1 + 1, 0, none⟩)], .int .i64 (bt x.1 : Nat), undef, undef, undef, undef, undef, undef, undef], defers := [] }) ?assign ?body ?done ?stop
  case assign =>
    intro l x W K hK
    dsimp only [enc1]
    gi_wp2
    exact hK
  case body =>
    rintro l pre x W ⟨⟨hp, hcp, hcs, hcr, hfr⟩, hB⟩ _
    have hx8 := bt_lt (el_lt x)
    have hor : bits .or .i64 (s : Int) (bt x.1 : Int) = ((s ||| bt x.1 : Nat) : Int) := i64_or_nat s (bt x.1) (by omega) (by omega)
    have hlt : s ||| bt x.1 < 256 := or_lt hs hx8
    have hcell := (hm.below hB hm.lt) _ hlt
    rcases hpx : p (s ||| bt x.1) with _ | _
    · have HP := hid hpx
      rw [hpx] at hcell
      clear hpx
      gi_wp2
      refine region_quiet_round (by kernel_rfl) (by kernel_rfl) (by kernel_rfl) ?_
      repeat (gi_big_quiet_step (fail))
      refine wpQuietIn_nil ?_
      intro _ hw'
      obtain ⟨nq, hw''⟩ := hw'
      subst hw''
      gi_wp2
      exact ⟨keeps_drewN _ _, trivial, ⟨fun y hy => by rw [List.mem_append, List.mem_singleton] at hy; rcases hy with hy | rfl; exact hp y hy; exact HP.out, hcp, hcs, hcr, by rw [froz_drewN]; exact hfr⟩, hB.trans (drewN_below _ _ _)⟩
    · have HP := hid hpx
      rw [hpx] at hcell
      clear hpx
      gi_wp2
      refine region_quiet_round (by kernel_rfl) (by kernel_rfl) (by kernel_rfl) ?_
      repeat (gi_big_quiet_step (fail))
      refine wpQuietIn_nil ?_
      intro _ hw'
      obtain ⟨nq, hw''⟩ := hw'
      subst hw''
      have hfr' : (W.drewN nq).frozen? ⟨w.heap.size + 1 + 1, 0, none⟩ = false := by rw [froz_drewN]; exact hfr
      have hcr' : (W.drewN nq).cell? ⟨w.heap.size + 1 + 1, 0, none⟩ = some (.bool false) := hcr
      gi_wp2
      exact ⟨(keeps_drewN _ _).trans (KeepsOthers.setCell _ _ _), ⟨rfl, ⟨x, by simp, HP.out⟩, World.cell?_setCell_same' _ _ _ (by rw [hcr']; rfl)⟩, (hB.trans (drewN_below _ _ _)).setCell (p := ⟨w.heap.size + 1 + 1, 0, none⟩) (by simp; omega) _⟩
  case done =>
    rintro D ys W hD hys ⟨⟨hne, _, _, hcr, hfr⟩, hB⟩ hK
    gi_wp2
    have hK' := (KeepsOthers.setCell W ⟨w.heap.size + 1 + 1, 0, none⟩ (.bool false)).same D _ hK rfl
    refine ⟨by simp, .inl ⟨_, _, rfl, run_takeDeferred hK', ?_⟩⟩
    have hc5 := cell_kept (World.cell?_setCell_same' W ⟨w.heap.size + 1 + 1, 0, none⟩ (.bool false) (by rw [hcr]; rfl)) (grownBy_putObj' _ D (.deferred none)) (fun r e => by cases e; exact ⟨_, hK', rfl⟩)
    refine ⟨.bool false, ?_, ?_, (hB.setCell (p := ⟨w.heap.size + 1 + 1, 0, none⟩) (by simp; omega) _).trans (belowK_b (w := w) (Nat.le_refl _) _ D _ _ (by simp at hD; omega) hK' rfl rfl)⟩
    · simp [results, Try.f41, go_sem, hc5]
    · refine ret_bool (Bool.eq_false_iff.2 fun h => ?_).symm
      unfold takeB at h
      rw [List.any_eq_true] at h
      obtain ⟨i, hi, h1⟩ := h
      rw [← hys, List.mem_map] at hi
      obtain ⟨y, hy, rfl⟩ := hi
      rw [hne y hy] at h1
      cases h1
  case stop =>
    rintro D c pre W hD hpre ⟨⟨rfl, ⟨y, hy, h1⟩, hcr⟩, hB⟩ hK
    gi_wp2
    refine ⟨by simp, .inl ⟨_, _, rfl, run_takeDeferred hK, ?_⟩⟩
    have hc5 := cell_kept hcr (grownBy_putObj' _ D (.deferred none)) (fun r e => by cases e; exact ⟨_, hK, rfl⟩)
    refine ⟨.bool true, ?_, ?_, hB.trans (belowK_b (w := w) (Nat.le_refl _) W D _ _ (by simp at hD; omega) hK rfl rfl)⟩
    · simp [results, Try.f41, go_sem, hc5]
    · exact ret_bool (by unfold takeB; exact (List.any_eq_true.2 ⟨y.1, y.2, h1⟩).symm)
end Go.Proofs.Ytgkkemlemnlchaa
