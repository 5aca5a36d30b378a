/- axioms.canTakeOne, axioms.canGiveAll. -/
import Derived.Test.YtkebhhpfnalbfacSingQ2Q
import Derived.Deep.QuietTactic
import Derived.BigQuiet
import Derived.Test.YtkebhhpfnalbfacMarkedQ
namespace Go.Proofs.Ytkebhhpfnalbfac
open Go.RowKit Go.Shelf
attribute [local go_sem] Oper.semAt_some

/-- A block of 256 bools. -/
def Marks (w : World) (b : Nat) (p : Nat → Bool) : Prop := ∀ i, i < 256 → w.cell? ⟨b, i, none⟩ = some (.bool (p i))
theorem Marks.lt {w : World} {b : Nat} {p : Nat → Bool} (h : Marks w b p) : b < w.heap.size := World.block_lt_of_cell? w _ (h 0 (by omega))
theorem Marks.below {w w' : World} {b B : Nat} {p : Nat → Bool} (h : Marks w b p) (hb : Below B w w') (hB : b < B) : Marks w' b p := fun i hi => (hb.cell (p := ⟨b, i, none⟩) hB).trans (h i hi)
/-- Can s take one of those that are offered? -/
def takeB (p : Nat → Bool) (s o : Nat) : Bool := (els o).any fun i => p (s ||| bt i)

set_option maxRecDepth 100000 in
set_option maxHeartbeats 2000000 in
theorem canTakeOne_any (b : Nat) (p : Nat → Bool) (s o : Nat) (hs : s < 256) (ho : o < 256) (w : World) (hm : Marks w b p) :
    Calls Try.prog 126 #[.pointer (some ⟨b, 0, none⟩), .int .i64 s, .int .i64 o] w fun e w' => e = .returned (.bool (takeB p s o)) ∧ Below w.heap.size w w' := by
  refine (callsIn_wide (n := 6)).1 ?_
  refine callsIn_of_wp_marks Try.func126 rfl trivial ?_ rfl
  simp only [Try.ntmps126, List.size_toArray, List.length_cons, List.length_nil, Nat.reduceAdd, Nat.reduceSub, Array.replicate_succ, Array.replicate_zero, List.push_toArray, List.append_toArray, List.nil_append, List.cons_append]
  gi_wp2_with (refine ⟨trivial, ?_⟩; gi_at_call 106; refine (callsIn_wide.2 (sing_any o _)).mono ?_; rintro e w' ⟨rfl, rfl⟩)
  have c0 := cellN w (.pointer (some ⟨b, 0, none⟩)) 83
  have c1 := cellN (w.alloc (.cells #[.pointer (some ⟨b, 0, none⟩)] 83)) (.int .i64 s) 3
  have c2 := cellN ((w.alloc (.cells #[.pointer (some ⟨b, 0, none⟩)] 83)).alloc (.cells #[.int .i64 s] 3)) (.bool false) 4
  have c3 := cellN (((w.alloc (.cells #[.pointer (some ⟨b, 0, none⟩)] 83)).alloc (.cells #[.int .i64 s] 3)).alloc (.cells #[.bool false] 4)) (.int .i64 o) 3
  simp only [World.size_alloc] at c1 c2 c3
  have hB0 : Below w.heap.size w ((((w.alloc (.cells #[.pointer (some ⟨b, 0, none⟩)] 83)).alloc (.cells #[.int .i64 s] 3)).alloc (.cells #[.bool false] 4)).alloc (.cells #[.int .i64 o] 3)) := ((((Below.refl _ w).alloc (Nat.le_refl _) _).alloc (by simp) _).alloc (by simp; omega) _).alloc (by simp; omega) _
  refine wpIn_rangeFunc_ownF rfl (by decide) (gf := 123) (lb := #[.pointer (some ⟨w.heap.size + 1 + 1 + 1, 0, none⟩)]) rfl trivial (enters_of Try.func123 (by kernel_rfl) rfl)
    (sing_stops 5 (by decide) o (w.heap.size + 1 + 1 + 1) ho _ (by simp) c3.1) (fun _ _ => trivial) (fun _ _ _ _ _ _ _ _ => trivial) (Below.refl _ _) (fun _ => rfl)
    (fun pre W => ((∀ y ∈ pre, p (s ||| bt y.1) = false) ∧ W.cell? ⟨w.heap.size, 0, none⟩ = some (.pointer (some ⟨b, 0, none⟩)) ∧ W.cell? ⟨w.heap.size + 1, 0, none⟩ = some (.int .i64 s) ∧ W.cell? ⟨w.heap.size + 1 + 1, 0, none⟩ = some (.bool false) ∧ W.frozen? ⟨w.heap.size + 1 + 1, 0, none⟩ = false) ∧ Below w.heap.size w W)
    (fun c pre W => (c = .ret ∧ (∃ y ∈ pre, p (s ||| bt y.1) = true) ∧ W.cell? ⟨w.heap.size + 1 + 1, 0, none⟩ = some (.bool true)) ∧ Below w.heap.size w W)
    (OwnFrom.and (Own.from (fun s A B row hs hg hr => ⟨hs.1, cell_kept hs.2.1 hg hr, cell_kept hs.2.2.1 hg hr, cell_kept hs.2.2.2.1 hg hr, (frozen_kept hs.2.2.2.1 hg hr).trans hs.2.2.2.2⟩) _) (ownFrom_below (Nat.le_refl _) (by simp; omega)))
    (fun c => OwnFrom.and (Own.from (fun s A B row hs hg hr => ⟨hs.1, hs.2.1, cell_kept hs.2.2 hg hr⟩) _) (ownFrom_below (Nat.le_refl _) (by simp; omega)))
    ⟨⟨by simp, cellA _ (cellA _ (cellA _ c0.1)), cellA _ (cellA _ c1.1), cellA _ c2.1, frozA _ c2.1 c2.2⟩, hB0⟩
    (fun x => { tmps := #[.pointer (some ⟨b, 0, none⟩), .int .i64 s, .int .i64 o, .pointer (some ⟨w.heap.size, 0, none⟩), .pointer (some ⟨w.heap.size + 1, 0, none⟩), undef, .pointer (some ⟨w.heap.size + 1 + 1, 0, none⟩), .int .i64 (bt x.1 : Nat), .int .i64 o, .func (.func 123) #[] #[.pointer (some ⟨w.heap.size + 1 + 1 + 1, 0, none⟩)], .int .i64 (bt x.1 : Nat), undef, undef, undef, undef, undef, undef, undef], defers := [] }) ?assign ?body ?done ?stop
  case assign =>
    intro l x W K hK
    dsimp only [enc1]
    gi_wp2
    exact hK
  case body =>
    rintro l pre x W ⟨⟨hp, hcp, hcs, hcr, hfr⟩, hB⟩ _
    have hx8 := bt_lt (el_lt x)
    have hor : bits .or .i64 (s : Int) (bt x.1 : Int) = ((s ||| bt x.1 : Nat) : Int) := i64_or_nat s (bt x.1) (by omega) (by omega)
    have hlt : s ||| bt x.1 < 256 := or_lt hs hx8
    have hcell := (hm.below hB hm.lt) _ hlt
    rcases hpx : p (s ||| bt x.1) with _ | _
    · have HP := hid hpx
      rw [hpx] at hcell
      clear hpx
      gi_wp2
      refine region_quiet_round (by kernel_rfl) (by kernel_rfl) (by kernel_rfl) ?_
      repeat (gi_big_quiet_step (fail))
      refine wpQuietIn_nil ?_
      intro _ hw'
      obtain ⟨nq, hw''⟩ := hw'
      subst hw''
      gi_wp2
      exact ⟨keeps_drewN _ _, trivial, ⟨fun y hy => by rw [List.mem_append, List.mem_singleton] at hy; rcases hy with hy | rfl; exact hp y hy; exact HP.out, hcp, hcs, hcr, by rw [froz_drewN]; exact hfr⟩, hB.trans (drewN_below _ _ _)⟩
    · have HP := hid hpx
      rw [hpx] at hcell
      clear hpx
      gi_wp2
      refine region_quiet_round (by kernel_rfl) (by kernel_rfl) (by kernel_rfl) ?_
      repeat (gi_big_quiet_step (fail))
      refine wpQuietIn_nil ?_
      intro _ hw'
      obtain ⟨nq, hw''⟩ := hw'
      subst hw''
      have hfr' : (W.drewN nq).frozen? ⟨w.heap.size + 1 + 1, 0, none⟩ = false := by rw [froz_drewN]; exact hfr
      have hcr' : (W.drewN nq).cell? ⟨w.heap.size + 1 + 1, 0, none⟩ = some (.bool false) := hcr
      gi_wp2
      exact ⟨(keeps_drewN _ _).trans (KeepsOthers.setCell _ _ _), ⟨rfl, ⟨x, by simp, HP.out⟩, World.cell?_setCell_same' _ _ _ (by rw [hcr']; rfl)⟩, (hB.trans (drewN_below _ _ _)).setCell (p := ⟨w.heap.size + 1 + 1, 0, none⟩) (by simp; omega) _⟩
  case done =>
    rintro D ys W hD hys ⟨⟨hne, _, _, hcr, hfr⟩, hB⟩ hK
    gi_wp2
    have hK' := (KeepsOthers.setCell W ⟨w.heap.size + 1 + 1, 0, none⟩ (.bool false)).same D _ hK rfl
    refine ⟨by simp, .inl ⟨_, _, rfl, run_takeDeferred hK', ?_⟩⟩
    have hc5 := cell_kept (World.cell?_setCell_same' W ⟨w.heap.size + 1 + 1, 0, none⟩ (.bool false) (by rw [hcr]; rfl)) (grownBy_putObj' _ D (.deferred none)) (fun r e => by cases e; exact ⟨_, hK', rfl⟩)
    refine ⟨.bool false, ?_, ?_, (hB.setCell (p := ⟨w.heap.size + 1 + 1, 0, none⟩) (by simp; omega) _).trans (belowK_b (w := w) (Nat.le_refl _) _ D _ _ (by simp at hD; omega) hK' rfl rfl)⟩
    · simp [results, Try.f126, go_sem, hc5]
    · refine ret_bool (Bool.eq_false_iff.2 fun h => ?_).symm
      unfold takeB at h
      rw [List.any_eq_true] at h
      obtain ⟨i, hi, h1⟩ := h
      rw [← hys, List.mem_map] at hi
      obtain ⟨y, hy, rfl⟩ := hi
      rw [hne y hy] at h1
      cases h1
  case stop =>
    rintro D c pre W hD hpre ⟨⟨rfl, ⟨y, hy, h1⟩, hcr⟩, hB⟩ hK
    gi_wp2
    refine ⟨by simp, .inl ⟨_, _, rfl, run_takeDeferred hK, ?_⟩⟩
    have hc5 := cell_kept hcr (grownBy_putObj' _ D (.deferred none)) (fun r e => by cases e; exact ⟨_, hK, rfl⟩)
    refine ⟨.bool true, ?_, ?_, hB.trans (belowK_b (w := w) (Nat.le_refl _) W D _ _ (by simp at hD; omega) hK rfl rfl)⟩
    · simp [results, Try.f126, go_sem, hc5]
    · exact ret_bool (by unfold takeB; exact (List.any_eq_true.2 ⟨y.1, y.2, h1⟩).symm)
end Go.Proofs.Ytkebhhpfnalbfac

namespace Go.Proofs.Ytkebhhpfnalbfac
open Go.RowKit Go.Shelf
attribute [local go_sem] Oper.semAt_some

def giveB (p : Nat → Bool) (a b : Nat) : Bool := (els (dif a b)).all fun x => takeB p (dif a (bt x)) (dif b a)

set_option maxRecDepth 100000 in
set_option maxHeartbeats 2000000 in
theorem canGiveAll_any (m : Nat) (p : Nat → Bool) (s t : Nat) (hs : s < 256) (ht : t < 256) (w : World) (hm : Marks w m p) :
    Calls Try.prog 108 #[.pointer (some ⟨m, 0, none⟩), .int .i64 s, .int .i64 t] w fun e w' => e = .returned (.bool (giveB p s t)) ∧ Below w.heap.size w w' := by
  have hst : bits .andNot .i64 (s : Int) (t : Int) = ((dif s t : Nat) : Int) := i64_andNot_nat s t (by omega) (by omega)
  have hts : bits .andNot .i64 (t : Int) (s : Int) = ((dif t s : Nat) : Int) := i64_andNot_nat t s (by omega) (by omega)
  have hd1 : dif s t < 256 := dif_lt hs
  have hd2 : dif t s < 256 := dif_lt ht
  refine (callsIn_wide (n := 6)).1 ?_
  refine callsIn_of_wp_marks Try.func108 rfl trivial ?_ rfl
  simp only [Try.ntmps108, List.size_toArray, List.length_cons, List.length_nil, Nat.reduceAdd, Nat.reduceSub, Array.replicate_succ, Array.replicate_zero, List.push_toArray, List.append_toArray, List.nil_append, List.cons_append]
  gi_wp2_with (refine ⟨trivial, ?_⟩; gi_at_call 106; refine (callsIn_wide.2 (sing_any (dif s t) _)).mono ?_; rintro e w' ⟨rfl, rfl⟩)
  have c0 := cellN w (.pointer (some ⟨m, 0, none⟩)) 83
  have c1 := cellN (w.alloc (.cells #[.pointer (some ⟨m, 0, none⟩)] 83)) (.int .i64 s) 3
  have c2 := cellN ((w.alloc (.cells #[.pointer (some ⟨m, 0, none⟩)] 83)).alloc (.cells #[.int .i64 s] 3)) (.int .i64 t) 3
  have c3 := cellN (((w.alloc (.cells #[.pointer (some ⟨m, 0, none⟩)] 83)).alloc (.cells #[.int .i64 s] 3)).alloc (.cells #[.int .i64 t] 3)) (.bool false) 4
  have c4 := cellN ((((w.alloc (.cells #[.pointer (some ⟨m, 0, none⟩)] 83)).alloc (.cells #[.int .i64 s] 3)).alloc (.cells #[.int .i64 t] 3)).alloc (.cells #[.bool false] 4)) (.int .i64 (dif s t)) 3
  simp only [World.size_alloc] at c1 c2 c3 c4
  have hB0 : Below w.heap.size w (((((w.alloc (.cells #[.pointer (some ⟨m, 0, none⟩)] 83)).alloc (.cells #[.int .i64 s] 3)).alloc (.cells #[.int .i64 t] 3)).alloc (.cells #[.bool false] 4)).alloc (.cells #[.int .i64 (dif s t)] 3)) := (((((Below.refl _ w).alloc (Nat.le_refl _) _).alloc (by simp) _).alloc (by simp; omega) _).alloc (by simp; omega) _).alloc (by simp; omega) _
  have d0 := cellA (.cells #[.int .i64 (dif s t)] 3) (cellA (.cells #[.bool false] 4) (cellA (.cells #[.int .i64 t] 3) (cellA (.cells #[.int .i64 s] 3) c0.1)))
  have d1 := cellA (.cells #[.int .i64 (dif s t)] 3) (cellA (.cells #[.bool false] 4) (cellA (.cells #[.int .i64 t] 3) c1.1))
  have d2 := cellA (.cells #[.int .i64 (dif s t)] 3) (cellA (.cells #[.bool false] 4) c2.1)
  have d3 := cellA (.cells #[.int .i64 (dif s t)] 3) c3.1
  have f3 := frozA (.cells #[.int .i64 (dif s t)] 3) c3.1 c3.2
  have d4 := c4.1
  clear c0 c1 c2 c3 c4
  have hsz : (((((w.alloc (.cells #[.pointer (some ⟨m, 0, none⟩)] 83)).alloc (.cells #[.int .i64 s] 3)).alloc (.cells #[.int .i64 t] 3)).alloc (.cells #[.bool false] 4)).alloc (.cells #[.int .i64 (dif s t)] 3)).heap.size = w.heap.size + 5 := by simp
  revert hB0 d0 d1 d2 d3 f3 d4 hsz
  generalize (((((w.alloc (.cells #[.pointer (some ⟨m, 0, none⟩)] 83)).alloc (.cells #[.int .i64 s] 3)).alloc (.cells #[.int .i64 t] 3)).alloc (.cells #[.bool false] 4)).alloc (.cells #[.int .i64 (dif s t)] 3)) = W0
  intro hB0 d0 d1 d2 d3 f3 d4 hsz
  refine wpIn_rangeFunc_ownF rfl (by decide) (gf := 123) (lb := #[.pointer (some ⟨w.heap.size + 1 + 1 + 1 + 1, 0, none⟩)]) rfl trivial (enters_of Try.func123 (by kernel_rfl) rfl)
    (sing_stops 5 (by decide) (dif s t) (w.heap.size + 1 + 1 + 1 + 1) hd1 _ (by omega) d4) (fun _ _ => trivial) (fun _ _ _ _ _ _ _ _ => trivial) (Below.refl _ _) (fun _ => rfl)
    (fun pre W => (∀ y ∈ pre, takeB p (dif s (bt y.1)) (dif t s) = true) ∧ Below W0.heap.size W0 W)
    (fun c pre W => (c = .ret ∧ (∃ y ∈ pre, takeB p (dif s (bt y.1)) (dif t s) = false) ∧ W.cell? ⟨w.heap.size + 1 + 1 + 1, 0, none⟩ = some (.bool false)) ∧ Below w.heap.size w W)
    (OwnFrom.and (Own.from (fun _ _ _ _ hs _ _ => hs) _) (ownFrom_below (Nat.le_refl _) (Nat.le_refl _)))
    (fun c => OwnFrom.and (Own.from (fun s A B row hs hg hr => ⟨hs.1, hs.2.1, cell_kept hs.2.2 hg hr⟩) _) (ownFrom_below (Nat.le_refl _) (by omega)))
    ⟨by simp, Below.refl _ _⟩
    (fun x => { tmps := #[.pointer (some ⟨m, 0, none⟩), .int .i64 s, .int .i64 t, .pointer (some ⟨w.heap.size, 0, none⟩), .pointer (some ⟨w.heap.size + 1, 0, none⟩), .pointer (some ⟨w.heap.size + 1 + 1, 0, none⟩), .pointer (some ⟨w.heap.size + 1 + 1 + 1, 0, none⟩), .int .i64 (bt x.1 : Nat), .int .i64 s, .int .i64 t, .int .i64 (dif s t : Nat), .func (.func 123) #[] #[.pointer (some ⟨w.heap.size + 1 + 1 + 1 + 1, 0, none⟩)], .int .i64 (bt x.1 : Nat), undef, undef, undef, undef, undef, undef, undef, undef, undef], defers := [] }) ?assign ?body ?done ?stop
  case assign =>
    intro l x W K hK
    dsimp only [enc1]
    gi_wp2
    exact hK
  case body =>
    rintro l pre x W ⟨hp, hB⟩ _
    have hx8 := bt_lt (el_lt x)
    have hsx : bits .andNot .i64 (s : Int) (bt x.1 : Int) = ((dif s (bt x.1) : Nat) : Int) := i64_andNot_nat s (bt x.1) (by omega) (by omega)
    have hlt : dif s (bt x.1) < 256 := dif_lt hs
    have e0 := (hB.cell (p := ⟨w.heap.size, 0, none⟩) (by show w.heap.size < _; omega)).trans d0
    have e1 := (hB.cell (p := ⟨w.heap.size + 1, 0, none⟩) (by show w.heap.size + 1 < _; omega)).trans d1
    have e2 := (hB.cell (p := ⟨w.heap.size + 1 + 1, 0, none⟩) (by show w.heap.size + 1 + 1 < _; omega)).trans d2
    have HM := hid ((hm.below hB0 hm.lt).below hB (by have := hm.lt; omega))
    have HC := hid (canTakeOne_any m p (dif s (bt x.1)) (dif t s) hlt hd2 W HM.out)
    rcases hq : takeB p (dif s (bt x.1)) (dif t s) with _ | _
    · have HQ := hid hq
      clear hq
      gi_wp2_with (refine ⟨trivial, ?_⟩; gi_at_call 126; refine (CallsIn.inRound l (callsIn_wide.2 HC.out)).mono ?_)
      rw [HQ.out]
      rintro e W' ⟨rfl, hb'⟩
      have hB' := hB.trans (hb'.mono hB.size)
      have e3 := (hB'.cell (p := ⟨w.heap.size + 1 + 1 + 1, 0, none⟩) (by show w.heap.size + 1 + 1 + 1 < _; omega)).trans d3
      have f3' := (froz_below hB' (b := w.heap.size + 1 + 1 + 1) (off := 0) (by omega)).trans f3
      have HK := hid (keeps_below hb')
      have HB := hid hB'
      clear hb' hB'
      gi_wp2
      exact ⟨HK.out.trans (KeepsOthers.setCell _ _ _), ⟨rfl, ⟨x, by simp, HQ.out⟩, World.cell?_setCell_same' _ _ _ (by rw [e3]; rfl)⟩, (hB0.trans (HB.out.mono (by omega))).setCell (p := ⟨w.heap.size + 1 + 1 + 1, 0, none⟩) (by simp; omega) _⟩
    · have HQ := hid hq
      clear hq
      gi_wp2_with (refine ⟨trivial, ?_⟩; gi_at_call 126; refine (CallsIn.inRound l (callsIn_wide.2 HC.out)).mono ?_)
      rw [HQ.out]
      rintro e W' ⟨rfl, hb'⟩
      have HK := hid (keeps_below hb')
      have HB := hid (hB.trans (hb'.mono hB.size))
      clear hb'
      gi_wp2
      exact ⟨HK.out, trivial, fun y hy => by rw [List.mem_append, List.mem_singleton] at hy; rcases hy with hy | rfl; exact hp y hy; exact HQ.out, HB.out⟩
  case done =>
    rintro D ys W hD hys ⟨hne, hB⟩ hK
    have e3 := (hB.cell (p := ⟨w.heap.size + 1 + 1 + 1, 0, none⟩) (by show w.heap.size + 1 + 1 + 1 < _; omega)).trans d3
    have f3' := (froz_below hB (b := w.heap.size + 1 + 1 + 1) (off := 0) (by omega)).trans f3
    have HB := hid (hB0.trans (hB.mono (by omega)))
    gi_wp2
    have hK' := (KeepsOthers.setCell W ⟨w.heap.size + 1 + 1 + 1, 0, none⟩ (.bool true)).same D _ hK rfl
    refine ⟨by simp, .inl ⟨_, _, rfl, run_takeDeferred hK', ?_⟩⟩
    have hc5 := cell_kept (World.cell?_setCell_same' W ⟨w.heap.size + 1 + 1 + 1, 0, none⟩ (.bool true) (by rw [e3]; rfl)) (grownBy_putObj' _ D (.deferred none)) (fun r e => by cases e; exact ⟨_, hK', rfl⟩)
    refine ⟨.bool true, ?_, ?_, (HB.out.setCell (p := ⟨w.heap.size + 1 + 1 + 1, 0, none⟩) (by simp; omega) _).trans (belowK_b (w := w) (Nat.le_refl _) _ D _ _ (by omega) hK' rfl rfl)⟩
    · simp [results, Try.f108, go_sem, hc5]
    · refine ret_bool ?_
      unfold giveB
      refine (List.all_eq_true.2 fun i hi => ?_).symm
      rw [← hys, List.mem_map] at hi
      obtain ⟨y, hy, rfl⟩ := hi
      exact hne y hy
  case stop =>
    rintro D c pre W hD hpre ⟨⟨rfl, ⟨y, hy, h1⟩, hcr⟩, hB⟩ hK
    gi_wp2
    refine ⟨by simp, .inl ⟨_, _, rfl, run_takeDeferred hK, ?_⟩⟩
    have hc5 := cell_kept hcr (grownBy_putObj' _ D (.deferred none)) (fun r e => by cases e; exact ⟨_, hK, rfl⟩)
    refine ⟨.bool false, ?_, ?_, hB.trans (belowK_b (w := w) (Nat.le_refl _) W D _ _ (by omega) hK rfl rfl)⟩
    · simp [results, Try.f108, go_sem, hc5]
    · refine ret_bool ?_
      unfold giveB
      refine (Bool.eq_false_iff.2 fun h => ?_).symm
      have := List.all_eq_true.1 h y.1 y.2
      rw [h1] at this
      cases this
end Go.Proofs.Ytkebhhpfnalbfac

namespace Go.Proofs.Ytkebhhpfnalbfac
open Go.RowKit

/-- Are all of one size? -/
def oneB (l : List Nat) : Bool := l.all fun s => pop s == pop (l.getD 0 0)
set_option maxHeartbeats 1000000 in
theorem areOne_any (v : Value) (l : List Nat) (w : World) (hl : ∀ s ∈ l, s < 256) (h : Ints w v (N l)) :
    Calls Try.prog 74 #[v] w fun e w' => e = .returned (.bool (oneB l)) ∧ Below w.heap.size w w' := by
  obtain ⟨a, cap, rfl, hlen, hc⟩ := h.nats
  clear h
  unfold oneB
  generalize hp : (fun s => pop s == pop (l.getD 0 0)) = p
  have HP := hid hp
  clear hp
  go_enter Try.func74, Try.ntmps74
  go_wp2_with fail
  go_loopw [7] (fun i wr => ∃ k : Nat, k ≤ l.length ∧ i = .int .i64 k ∧ Hid (l.all p = (l.drop k).all p) ∧ Below w.heap.size w wr) (fun i _ => l.length - (intOf i).toNat)
  case atStart => exact ⟨0, Nat.zero_le _, rfl, rfl, Below.refl _ _⟩
  case round =>
    obtain ⟨k, hk, rfl, R, hnx⟩ := hrel
    by_cases hlt : k < l.length
    · obtain ⟨b, off, rfl, hb, hcell⟩ := hc (by omega)
      have hck : wr.cell? ⟨b, off + k, none⟩ = some (.int .i64 (l.getD k 0 : Nat)) := (hnx.cell (p := ⟨b, off + k, none⟩) hb).trans (hcell k hlt)
      have hc0 : wr.cell? ⟨b, off, none⟩ = some (.int .i64 (l.getD 0 0 : Nat)) := (hnx.cell (p := ⟨b, off, none⟩) hb).trans (hcell 0 (by omega))
      have D := hid (all_drop (p := p) hlt)
      have hx := getD_lt hl k
      have h0 := getD_lt hl 0
      have PX : Hid (p (l.getD k 0) = (pop (l.getD k 0) == pop (l.getD 0 0))) := by show _ = _; rw [← HP.out]
      clear hcell hc HP
      generalize l.getD k 0 = x at hck D hx PX
      generalize l.getD 0 0 = z at *
      have hpx := pop_le x hx
      have hpz := pop_le z h0
      by_cases h1 : pop x = pop z
      · have h1' : (((pop x : Nat) : Int) == ((pop z : Nat) : Int)) = true := by rw [h1]; simp
        have H1 := hid h1
        clear h1
        go_wp2_with fail
        go_quiet ((go_at_call 87; refine (size_any _ _ (by assumption)).mono ?_; rintro e w' ⟨rfl, rfl⟩; exact ⟨rfl, _, rfl⟩))
        go_wp2_with fail
        go_roundw
        case rel => exact ⟨k + 1, by omega, by go_num, by show l.all p = _; rw [R.out, D.out, PX.out, H1.out]; simp, hnx.trans (drewN_below _ _ _)⟩
        case measure => simp [intOf]; omega
      · have h1' : (((pop x : Nat) : Int) == ((pop z : Nat) : Int)) = false := by rw [beq_eq_false_iff_ne]; omega
        have H1 := hid h1
        clear h1
        go_wp2_with fail
        go_quiet ((go_at_call 87; refine (size_any _ _ (by assumption)).mono ?_; rintro e w' ⟨rfl, rfl⟩; exact ⟨rfl, _, rfl⟩))
        go_wp2_with fail
        go_ret
        exact ⟨ret_bool (by rw [R.out, D.out, PX.out]; simp [H1.out]), hnx.trans (drewN_below _ _ _)⟩
    · go_wp2_with fail
      go_ret
      exact ⟨ret_bool (by rw [R.out, List.drop_of_length_le (by omega)]; rfl), hnx⟩
end Go.Proofs.Ytkebhhpfnalbfac

namespace Go.Proofs.Ytkebhhpfnalbfac
open Go.RowKit

theorem zeroMarks (w : World) : (zeroValue 81).run Try.prog w = .ok (.agg Z256) w := by kernel_rfl
theorem Marked.new (w : World) (Z : Array Value) (hZ : Z = Array.replicate 256 (.bool false)) : Marked w.heap.size (w.alloc (.cells Z 81)) (fun _ => false) := by
  subst hZ
  refine ⟨fun i hi => ?_, fun i => World.frozen?_alloc_at _ _ _ _ rfl, by simp⟩
  rw [World.cell?_alloc_at _ _ _ _ rfl]
  simp [hi]

/-- Can any two exchange? -/
def exchB (l : List Nat) : Bool := l.all fun a => l.all fun b => giveB (fun s => memB s l) a b
theorem mem_take_succ {l : List Nat} {k : Nat} (h : k < l.length) (i : Nat) : memB i (l.take (k + 1)) = (memB i (l.take k) || l.getD k 0 == i) := by
  unfold memB
  rw [take_snoc h]
  rw [Bool.eq_iff_iff]
  simp only [decide_eq_true_eq, List.mem_append, List.mem_singleton, Bool.or_eq_true, beq_iff_eq]
  exact ⟨fun h => h.imp id Eq.symm, fun h => h.imp id Eq.symm⟩

set_option maxRecDepth 100000 in
set_option maxHeartbeats 4000000 in
theorem canExchange_any (v : Value) (l : List Nat) (w : World) (hl : ∀ s ∈ l, s < 256) (h : Ints w v (N l)) :
    Calls Try.prog 75 #[v] w fun e w' => e = .returned (.bool (exchB l)) ∧ Below w.heap.size w w' := by
  obtain ⟨gv, HG, EX⟩ : ∃ gv : Nat → Nat → Bool, Hid (∀ a b, giveB (fun s => memB s l) a b = gv a b) ∧ Hid (exchB l = l.all fun a => l.all (gv a)) := ⟨giveB (fun s => memB s l), fun _ _ => rfl, rfl⟩
  rw [EX.out]
  clear EX
  obtain ⟨a, cap, rfl, hlen, hc⟩ := h.nats
  clear h
  obtain ⟨Z, hZ, HZ⟩ : ∃ Z, (∀ w, (zeroValue 81).run Try.prog w = .ok (.agg Z) w) ∧ Hid (Z = Array.replicate 256 (.bool false)) := ⟨Z256, zeroMarks, rfl⟩
  have hZs : Z.size = 256 := by rw [HZ.out]; simp
  have hZn : ¬ Z = #[] := fun h => by rw [h] at hZs; simp at hZs
  go_enter Try.func75, Try.ntmps75
  go_wp2_with fail
  have hmk : Marked w.heap.size (w.alloc (.cells Z 81)) (fun i => memB i (l.take 0)) := by
    have h1 := Marked.new w Z HZ.out
    have e : (fun _ => false) = fun i => memB i (l.take 0) := by funext i; simp [memB]
    rw [e] at h1
    exact h1
  have hB0 : Below w.heap.size w (w.alloc (.cells Z 81)) := (Below.refl _ _).alloc (Nat.le_refl _) _
  revert hmk hB0
  generalize w.alloc (.cells Z 81) = W1
  intro hmk hB0
  clear hZ HZ hZs hZn
  go_loopw [12] (fun i wr => ∃ k : Nat, k ≤ l.length ∧ i = .int .i64 k ∧ Marked w.heap.size wr (fun i => memB i (l.take k)) ∧ Below w.heap.size w wr) (fun i _ => l.length - (intOf i).toNat)
  case atStart => exact ⟨0, Nat.zero_le _, rfl, hmk, hB0⟩
  case round =>
    obtain ⟨k, hk, rfl, hm, hnx⟩ := hrel
    clear hmk hB0
    by_cases hlt : k < l.length
    · obtain ⟨b, off, rfl, hb, hcell⟩ := hc (by omega)
      have hck : wr.cell? ⟨b, off + k, none⟩ = some (.int .i64 (l.getD k 0 : Nat)) := (hnx.cell (p := ⟨b, off + k, none⟩) hb).trans (hcell k hlt)
      have hx := getD_lt hl k
      have M := hid (fun i => mem_take_succ hlt i)
      clear hcell hc
      generalize l.getD k 0 = x at *
      have hcx := hm.cell x hx
      have hfx := hm.frozen x
      have HM := hid (hm.set x hx M.out)
      go_wp2_with fail
      go_roundw
      case rel => exact ⟨k + 1, by omega, by go_num, HM.out, hnx.setCell (p := ⟨w.heap.size, x, none⟩) (Nat.le_refl _) _⟩
      case measure => simp [intOf]; omega
    · have hk' : k = l.length := by omega
      subst hk'
      rw [List.take_length] at hm
      have HM : Hid (Marks wr w.heap.size (fun s => memB s l)) := hm.cell
      have hsm := hm.size
      have GV := hid (fun (x y : Nat) (hx : x < 256) (hy : y < 256) (w' : World) (hb : Below wr.heap.size wr w') => canGiveAll_any w.heap.size (fun s => memB s l) x y hx hy w' (HM.out.below hb hsm))
      have HNX := hid hnx
      clear hm
      have hc2 : 0 < l.length → ∃ b off, a = some ⟨b, off, none⟩ ∧ b < wr.heap.size ∧ ∀ i, i < l.length → wr.cell? ⟨b, off + i, none⟩ = some (.int .i64 (l.getD i 0 : Nat)) := fun h => by
        obtain ⟨b, off, h1, h2, h3⟩ := hc h
        exact ⟨b, off, h1, Nat.lt_of_lt_of_le h2 hnx.size, fun i hi => (hnx.cell (p := ⟨b, off + i, none⟩) h2).trans (h3 i hi)⟩
      clear hc hnx
      go_wp2_with fail
      rename World => W2
      go_loopw [21] (fun i w2 => ∃ k : Nat, k ≤ l.length ∧ i = .int .i64 k ∧ Hid ((l.all fun a => l.all (gv a)) = (l.drop k).all fun a => l.all (gv a)) ∧ Below W2.heap.size W2 w2) (fun i _ => l.length - (intOf i).toNat)
      case atStart => exact ⟨0, Nat.zero_le _, rfl, rfl, Below.refl _ _⟩
      case round =>
        obtain ⟨k, hk, rfl, R, hn1⟩ := hrel
        by_cases hlt1 : k < l.length
        · obtain ⟨b, off, rfl, hb, hcell⟩ := hc2 (by omega)
          have hck : wr.cell? ⟨b, off + k, none⟩ = some (.int .i64 (l.getD k 0 : Nat)) := (hn1.cell (p := ⟨b, off + k, none⟩) hb).trans (hcell k hlt1)
          have hx := getD_lt hl k
          have D := hid (all_drop (p := fun a => l.all (gv a)) hlt1)
          clear hc2
          generalize l.getD k 0 = x at hck hx D
          go_wp2_with fail
          go_loopw [27] (fun i w2 => ∃ j : Nat, j ≤ l.length ∧ i = .int .i64 j ∧ Hid (l.all (gv x) = (l.drop j).all (gv x)) ∧ Below W2.heap.size W2 w2) (fun i _ => l.length - (intOf i).toNat)
          case atStart => exact ⟨0, Nat.zero_le _, rfl, rfl, hn1⟩
          case round =>
            obtain ⟨j, hj, rfl, R2, hn2⟩ := hrel
            by_cases hlt2 : j < l.length
            · have hcj : wr.cell? ⟨b, off + j, none⟩ = some (.int .i64 (l.getD j 0 : Nat)) := (hn2.cell (p := ⟨b, off + j, none⟩) hb).trans (hcell j hlt2)
              have hy := getD_lt hl j
              have D2 := hid (all_drop (p := gv x) hlt2)
              clear hcell
              generalize l.getD j 0 = y at hcj hy D2
              have C := hid (GV.out x y hx hy wr hn2)
              have G := hid (HG.out x y)
              clear GV
              rcases hq : gv x y with _ | _
              · have HQ := hid hq
                clear hq
                go_wp2_with fail
                refine C.out.mono ?_
                rw [G.out, HQ.out]
                rintro e w3 ⟨rfl, hb3⟩
                have HB := hid (hn2.trans (hb3.mono hn2.size))
                clear hb3
                go_wp2_with fail
                go_ret
                refine ⟨ret_bool ?_, HNX.out.trans (HB.out.mono HNX.out.size)⟩
                rw [R.out, D.out, R2.out, D2.out, HQ.out]
                rfl
              · have HQ := hid hq
                clear hq
                go_wp2_with fail
                refine C.out.mono ?_
                rw [G.out, HQ.out]
                rintro e w3 ⟨rfl, hb3⟩
                have HB := hid (hn2.trans (hb3.mono hn2.size))
                clear hb3
                go_wp2_with fail
                go_roundw
                case rel => exact ⟨j + 1, by omega, by go_num, by show l.all (gv x) = _; rw [R2.out, D2.out, HQ.out, Bool.true_and], HB.out⟩
                case measure => simp [intOf]; omega
            · have ALL : Hid (l.all (gv x) = true) := by
                show _ = _
                rw [R2.out, List.drop_of_length_le (by omega)]; rfl
              go_wp2_with fail
              go_roundw
              case rel => exact ⟨k + 1, by omega, by go_num, by show (l.all fun a => l.all (gv a)) = _; rw [R.out, D.out, ALL.out, Bool.true_and], hn2⟩
              case measure => simp [intOf]; omega
        · go_wp2_with fail
          go_ret
          refine ⟨ret_bool ?_, HNX.out.trans (hn1.mono HNX.out.size)⟩
          rw [R.out, List.drop_of_length_le (by omega)]; rfl
end Go.Proofs.Ytkebhhpfnalbfac
