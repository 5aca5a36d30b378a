/- axioms.canGiveAll. -/
import Derived.Test.YtgkkemlemnlchaaTakeQ
namespace Go.Proofs.Ytgkkemlemnlchaa
open Go.RowKit Go.Shelf
attribute [local go_sem] Oper.semAt_some

def giveB (p : Nat → Bool) (a b : Nat) : Bool := (els (dif a b)).all fun x => takeB p (dif a (bt x)) (dif b a)

set_option maxRecDepth 100000 in
set_option maxHeartbeats 2000000 in
theorem canGiveAll_any (m : Nat) (p : Nat → Bool) (s t : Nat) (hs : s < 256) (ht : t < 256) (w : World) (hm : Marks w m p) :
    Calls Try.prog 38 #[.pointer (some ⟨m, 0, none⟩), .int .i64 s, .int .i64 t] w fun e w' => e = .returned (.bool (giveB p s t)) ∧ Below w.heap.size w w' := by
  have hst : bits .andNot .i64 (s : Int) (t : Int) = ((dif s t : Nat) : Int) := i64_andNot_nat s t (by omega) (by omega)
  have hts : bits .andNot .i64 (t : Int) (s : Int) = ((dif t s : Nat) : Int) := i64_andNot_nat t s (by omega) (by omega)
  have hd1 : dif s t < 256 := dif_lt hs
  have hd2 : dif t s < 256 := dif_lt ht
  refine (callsIn_wide (n := 6)).1 ?_
  refine callsIn_of_wp_marks Try.func38 rfl trivial ?_ rfl
  simp only [Try.ntmps38, List.size_toArray, List.length_cons, List.length_nil, Nat.reduceAdd, Nat.reduceSub, Array.replicate_succ, Array.replicate_zero, List.push_toArray, List.append_toArray, List.nil_append, List.cons_append]
  gi_wp2_with (refine ⟨trivial, ?_⟩; gi_at_call 40; refine (callsIn_wide.2 (sing_any (dif s t) _)).mono ?_; rintro e w' ⟨rfl, rfl⟩)
  have c0 := cellN w (.pointer (some ⟨m, 0, none⟩)) 70
  have c1 := cellN (w.alloc (.cells #[.pointer (some ⟨m, 0, none⟩)] 70)) (.int .i64 s) 3
  have c2 := cellN ((w.alloc (.cells #[.pointer (some ⟨m, 0, none⟩)] 70)).alloc (.cells #[.int .i64 s] 3)) (.int .i64 t) 3
  have c3 := cellN (((w.alloc (.cells #[.pointer (some ⟨m, 0, none⟩)] 70)).alloc (.cells #[.int .i64 s] 3)).alloc (.cells #[.int .i64 t] 3)) (.bool false) 4
  have c4 := cellN ((((w.alloc (.cells #[.pointer (some ⟨m, 0, none⟩)] 70)).alloc (.cells #[.int .i64 s] 3)).alloc (.cells #[.int .i64 t] 3)).alloc (.cells #[.bool false] 4)) (.int .i64 (dif s t)) 3
  simp only [World.size_alloc] at c1 c2 c3 c4
  have hB0 : Below w.heap.size w (((((w.alloc (.cells #[.pointer (some ⟨m, 0, none⟩)] 70)).alloc (.cells #[.int .i64 s] 3)).alloc (.cells #[.int .i64 t] 3)).alloc (.cells #[.bool false] 4)).alloc (.cells #[.int .i64 (dif s t)] 3)) := (((((Below.refl _ w).alloc (Nat.le_refl _) _).alloc (by simp) _).alloc (by simp; omega) _).alloc (by simp; omega) _).alloc (by simp; omega) _
  have d0 := cellA (.cells #[.int .i64 (dif s t)] 3) (cellA (.cells #[.bool false] 4) (cellA (.cells #[.int .i64 t] 3) (cellA (.cells #[.int .i64 s] 3) c0.1)))
  have d1 := cellA (.cells #[.int .i64 (dif s t)] 3) (cellA (.cells #[.bool false] 4) (cellA (.cells #[.int .i64 t] 3) c1.1))
  have d2 := cellA (.cells #[.int .i64 (dif s t)] 3) (cellA (.cells #[.bool false] 4) c2.1)
  have d3 := cellA (.cells #[.int .i64 (dif s t)] 3) c3.1
  have f3 := frozA (.cells #[.int .i64 (dif s t)] 3) c3.1 c3.2
  have d4 := c4.1
  clear c0 c1 c2 c3 c4
  have hsz : (((((w.alloc (.cells #[.pointer (some ⟨m, 0, none⟩)] 70)).alloc (.cells #[.int .i64 s] 3)).alloc (.cells #[.int .i64 t] 3)).alloc (.cells #[.bool false] 4)).alloc (.cells #[.int .i64 (dif s t)] 3)).heap.size = w.heap.size + 5 := by simp
  revert hB0 d0 d1 d2 d3 f3 d4 hsz
  generalize (((((w.alloc (.cells #[.pointer (some ⟨m, 0, none⟩)] 70)).alloc (.cells #[.int .i64 s] 3)).alloc (.cells #[.int .i64 t] 3)).alloc (.cells #[.bool false] 4)).alloc (.cells #[.int .i64 (dif s t)] 3)) = W0
  intro hB0 d0 d1 d2 d3 f3 d4 hsz
  refine wpIn_rangeFunc_ownF rfl (by decide) (gf := 42) (lb := #[.pointer (some ⟨w.heap.size + 1 + 1 + 1 + 1, 0, none⟩)]) rfl trivial (enters_of Try.func42 (by kernel_rfl) rfl)
    (sing_stops 5 (by decide) (dif s t) (w.heap.size + 1 + 1 + 1 + 1) hd1 _ (by omega) d4) (fun _ _ => trivial) (fun _ _ _ _ _ _ _ _ => trivial) (Below.refl _ _) (fun _ => rfl)
    (fun pre W => (∀ y ∈ pre, takeB p (dif s (bt y.1)) (dif t s) = true) ∧ Below W0.heap.size W0 W)
    (fun c pre W => (c = .ret ∧ (∃ y ∈ pre, takeB p (dif s (bt y.1)) (dif t s) = false) ∧ W.cell? ⟨w.heap.size + 1 + 1 + 1, 0, none⟩ = some (.bool false)) ∧ Below w.heap.size w W)
    (OwnFrom.and (Own.from (fun _ _ _ _ hs _ _ => hs) _) (ownFrom_below (Nat.le_refl _) (Nat.le_refl _)))
    (fun c => OwnFrom.and (Own.from (fun s A B row hs hg hr => ⟨hs.1, hs.2.1, cell_kept hs.2.2 hg hr⟩) _) (ownFrom_below (Nat.le_refl _) (by omega)))
    ⟨by simp, Below.refl _ _⟩
    (fun x => { tmps := #[.pointer (some ⟨m, 0, none⟩), .int .i64 s, .int .i64 t, .pointer (some ⟨w.heap.size, 0, none⟩), .pointer (some ⟨w.heap.size + 1, 0, none⟩), .pointer (some ⟨w.heap.size + 1 + 1, 0, none⟩), .pointer (some ⟨w.heap.size + 1 + 1 + 1, 0, none⟩), .int .i64 (bt x.1 : Nat), .int .i64 s, .int .i64 t, .int .i64 (dif s t : Nat), .func (.func 42) #[] #[.pointer (some ⟨w.heap.size + 1 + 1 + 1 + 1, 0, none⟩)], .int .i64 (bt x.1 : Nat), undef, undef, undef, undef, undef, undef, undef, undef, undef], defers := [] }) ?assign ?body ?done ?stop
  case assign =>
    intro l x W K hK
    dsimp only [enc1]
    gi_wp2
    exact hK
  case body =>
    rintro l pre x W ⟨hp, hB⟩ _
    have hx8 := bt_lt (el_lt x)
    have hsx : bits .andNot .i64 (s : Int) (bt x.1 : Int) = ((dif s (bt x.1) : Nat) : Int) := i64_andNot_nat s (bt x.1) (by omega) (by omega)
    have hlt : dif s (bt x.1) < 256 := dif_lt hs
    have e0 := (hB.cell (p := ⟨w.heap.size, 0, none⟩) (by show w.heap.size < _; omega)).trans d0
    have e1 := (hB.cell (p := ⟨w.heap.size + 1, 0, none⟩) (by show w.heap.size + 1 < _; omega)).trans d1
    have e2 := (hB.cell (p := ⟨w.heap.size + 1 + 1, 0, none⟩) (by show w.heap.size + 1 + 1 < _; omega)).trans d2
    have HM := hid ((hm.below hB0 hm.lt).below hB (by have := hm.lt; omega))
    have HC := hid (canTakeOne_any m p (dif s (bt x.1)) (dif t s) hlt hd2 W HM.out)
    rcases hq : takeB p (dif s (bt x.1)) (dif t s) with _ | _
    · have HQ := hid hq
      clear hq
      gi_wp2_with (refine ⟨trivial, ?_⟩; gi_at_call 41; refine (CallsIn.inRound l (callsIn_wide.2 HC.out)).mono ?_)
      rw [HQ.out]
      rintro e W' ⟨rfl, hb'⟩
      have hB' := hB.trans (hb'.mono hB.size)
      have e3 := (hB'.cell (p := ⟨w.heap.size + 1 + 1 + 1, 0, none⟩) (by show w.heap.size + 1 + 1 + 1 < _; omega)).trans d3
      have f3' := (froz_below hB' (b := w.heap.size + 1 + 1 + 1) (off := 0) (by omega)).trans f3
      have HK := hid (keeps_below hb')
      have HB := hid hB'
      clear hb' hB'
      gi_wp2
      exact ⟨HK.out.trans (KeepsOthers.setCell _ _ _), ⟨rfl, ⟨x, by simp, HQ.out⟩, World.cell?_setCell_same' _ _ _ (by rw [e3]; rfl)⟩, (hB0.trans (HB.out.mono (by omega))).setCell (p := ⟨w.heap.size + 1 + 1 + 1, 0, none⟩) (by simp; omega) _⟩
    · have HQ := hid hq
      clear hq
      gi_wp2_with (refine ⟨trivial, ?_⟩; gi_at_call 41; refine (CallsIn.inRound l (callsIn_wide.2 HC.out)).mono ?_)
      rw [HQ.out]
      rintro e W' ⟨rfl, hb'⟩
      have HK := hid (keeps_below hb')
      have HB := hid (hB.trans (hb'.mono hB.size))
      clear hb'
      gi_wp2
      exact ⟨HK.out, trivial, fun y hy => by rw [List.mem_append, List.mem_singleton] at hy; rcases hy with hy | rfl; exact hp y hy; exact HQ.out, HB.out⟩
  case done =>
    rintro D ys W hD hys ⟨hne, hB⟩ hK
    have e3 := (hB.cell (p := ⟨w.heap.size + 1 + 1 + 1, 0, none⟩) (by show w.heap.size + 1 + 1 + 1 < _; omega)).trans d3
    have f3' := (froz_below hB (b := w.heap.size + 1 + 1 + 1) (off := 0) (by omega)).trans f3
    have HB := hid (hB0.trans (hB.mono (by omega)))
    gi_wp2
    have hK' := (KeepsOthers.setCell W ⟨w.heap.size + 1 + 1 + 1, 0, none⟩ (.bool true)).same D _ hK rfl
    refine ⟨by simp, .inl ⟨_, _, rfl, run_takeDeferred hK', ?_⟩⟩
    have hc5 := cell_kept (World.cell?_setCell_same' W ⟨w.heap.size + 1 + 1 + 1, 0, none⟩ (.bool true) (by rw [e3]; rfl)) (grownBy_putObj' _ D (.deferred none)) (fun r e => by cases e; exact ⟨_, hK', rfl⟩)
    refine ⟨.bool true, ?_, ?_, (HB.out.setCell (p := ⟨w.heap.size + 1 + 1 + 1, 0, none⟩) (by simp; omega) _).trans (belowK_b (w := w) (Nat.le_refl _) _ D _ _ (by omega) hK' rfl rfl)⟩
    · simp [results, Try.f38, go_sem, hc5]
    · refine ret_bool ?_
      unfold giveB
      refine (List.all_eq_true.2 fun i hi => ?_).symm
      rw [← hys, List.mem_map] at hi
      obtain ⟨y, hy, rfl⟩ := hi
      exact hne y hy
  case stop =>
    rintro D c pre W hD hpre ⟨⟨rfl, ⟨y, hy, h1⟩, hcr⟩, hB⟩ hK
    gi_wp2
    refine ⟨by simp, .inl ⟨_, _, rfl, run_takeDeferred hK, ?_⟩⟩
    have hc5 := cell_kept hcr (grownBy_putObj' _ D (.deferred none)) (fun r e => by cases e; exact ⟨_, hK, rfl⟩)
    refine ⟨.bool false, ?_, ?_, hB.trans (belowK_b (w := w) (Nat.le_refl _) W D _ _ (by omega) hK rfl rfl)⟩
    · simp [results, Try.f38, go_sem, hc5]
    · refine ret_bool ?_
      unfold giveB
      refine (Bool.eq_false_iff.2 fun h => ?_).symm
      have := List.all_eq_true.1 h y.1 y.2
      rw [h1] at this
      cases this
end Go.Proofs.Ytgkkemlemnlchaa
