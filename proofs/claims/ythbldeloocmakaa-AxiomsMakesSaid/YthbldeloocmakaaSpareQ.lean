/- sets.canSpareOne, sets.Blocker. -/
import Derived.Test.YthbldeloocmakaaQuietQ
import Derived.Test.YthbldeloocmakaaSieveW
import Derived.Test.YthbldeloocmakaaCheckW
namespace Go.Proofs.Ythbldeloocmakaa
open Go.RowKit Go.Shelf
attribute [local go_sem] Oper.semAt_some

set_option maxRecDepth 100000 in
set_option maxHeartbeats 2000000 in
theorem spare_any (v : Value) (l : List Nat) (s : Nat) (w : World) (hs : s < 256) (hl : ∀ s ∈ l, s < 256) (h : Ints w v (N l)) :
    Calls Try.prog 103 #[v, .int .i64 s] w fun e w' => e = .returned (.bool (spareB l s)) ∧ Below w.heap.size w w' := by
  have HR := hid h
  obtain ⟨b, cap, hv, _, _⟩ := h.nats
  subst hv
  have hd1 : s < 256 := hs
  refine (callsIn_wide (n := 6)).1 ?_
  refine callsIn_of_wp_marks Try.func103 rfl trivial ?_ rfl
  simp only [Try.ntmps103, List.size_toArray, List.length_cons, List.length_nil, Nat.reduceAdd, Nat.reduceSub, Array.replicate_succ, Array.replicate_zero, List.push_toArray, List.append_toArray, List.nil_append, List.cons_append]
  gi_wp2_with (refine ⟨trivial, ?_⟩; gi_at_call 96; refine (callsIn_wide.2 (sing_any s _)).mono ?_; rintro e w' ⟨rfl, rfl⟩)
  have c0 := cellN w (.slice b l.length cap) 22
  have c1 := cellN (w.alloc (.cells #[.slice b l.length cap] 22)) (.int .i64 s) 3
  have c2 := cellN ((w.alloc (.cells #[.slice b l.length cap] 22)).alloc (.cells #[.int .i64 s] 3)) (.bool false) 4
  have c3 := cellN (((w.alloc (.cells #[.slice b l.length cap] 22)).alloc (.cells #[.int .i64 s] 3)).alloc (.cells #[.bool false] 4)) (.int .i64 s) 3
  simp only [World.size_alloc] at c1 c2 c3
  have hB0 : Below w.heap.size w ((((w.alloc (.cells #[.slice b l.length cap] 22)).alloc (.cells #[.int .i64 s] 3)).alloc (.cells #[.bool false] 4)).alloc (.cells #[.int .i64 s] 3)) := ((((Below.refl _ w).alloc (Nat.le_refl _) _).alloc (by simp) _).alloc (by simp; omega) _).alloc (by simp; omega) _
  have d0 := cellA (.cells #[.int .i64 s] 3) (cellA (.cells #[.bool false] 4) (cellA (.cells #[.int .i64 s] 3) c0.1))
  have d1 := cellA (.cells #[.int .i64 s] 3) (cellA (.cells #[.bool false] 4) c1.1)
  have d2 := cellA (.cells #[.int .i64 s] 3) c2.1
  have f2 := frozA (.cells #[.int .i64 s] 3) c2.1 c2.2
  have d3 := c3.1
  clear c0 c1 c2 c3
  have hsz : ((((w.alloc (.cells #[.slice b l.length cap] 22)).alloc (.cells #[.int .i64 s] 3)).alloc (.cells #[.bool false] 4)).alloc (.cells #[.int .i64 s] 3)).heap.size = w.heap.size + 4 := by simp
  revert hB0 d0 d1 d2 f2 d3 hsz
  generalize ((((w.alloc (.cells #[.slice b l.length cap] 22)).alloc (.cells #[.int .i64 s] 3)).alloc (.cells #[.bool false] 4)).alloc (.cells #[.int .i64 s] 3)) = W0
  intro hB0 d0 d1 d2 f2 d3 hsz
  refine wpIn_rangeFunc_ownF rfl (by decide) (gf := 111) (lb := #[.pointer (some ⟨w.heap.size + 1 + 1 + 1, 0, none⟩)]) rfl trivial (enters_of Try.func111 (by kernel_rfl) rfl)
    (sing_stops 5 (by decide) s (w.heap.size + 1 + 1 + 1) hd1 _ (by omega) d3) (fun _ _ => trivial) (fun _ _ _ _ _ _ _ _ => trivial) (Below.refl _ _) (fun _ => rfl)
    (fun pre W => (∀ y ∈ pre, l.all (meetB (dif s (bt y.1))) = false) ∧ Below W0.heap.size W0 W)
    (fun c pre W => (c = .ret ∧ (∃ y ∈ pre, l.all (meetB (dif s (bt y.1))) = true) ∧ W.cell? ⟨w.heap.size + 1 + 1, 0, none⟩ = some (.bool true)) ∧ Below w.heap.size w W)
    (OwnFrom.and (Own.from (fun _ _ _ _ hs _ _ => hs) _) (ownFrom_below (Nat.le_refl _) (Nat.le_refl _)))
    (fun c => OwnFrom.and (Own.from (fun s A B row hs hg hr => ⟨hs.1, hs.2.1, cell_kept hs.2.2 hg hr⟩) _) (ownFrom_below (Nat.le_refl _) (by omega)))
    ⟨by simp, Below.refl _ _⟩
    (fun x => { tmps := #[.slice b l.length cap, .int .i64 s, .pointer (some ⟨w.heap.size, 0, none⟩), .pointer (some ⟨w.heap.size + 1, 0, none⟩), .pointer (some ⟨w.heap.size + 1 + 1, 0, none⟩), .int .i64 (bt x.1 : Nat), .int .i64 s, .func (.func 111) #[] #[.pointer (some ⟨w.heap.size + 1 + 1 + 1, 0, none⟩)], .int .i64 (bt x.1 : Nat), undef, undef, undef, undef, undef], defers := [] }) ?assign ?body ?done ?stop
  case assign =>
    intro l x W K hK
    dsimp only [enc1]
    gi_wp2
    exact hK
  case body =>
    rintro l0 pre x W ⟨hp, hB⟩ _
    have hx8 := bt_lt (el_lt x)
    have hsx : bits .andNot .i64 (s : Int) (bt x.1 : Int) = ((dif s (bt x.1) : Nat) : Int) := i64_andNot_nat s (bt x.1) (by omega) (by omega)
    have hlt : dif s (bt x.1) < 256 := dif_lt hs
    have e0 := (hB.cell (p := ⟨w.heap.size, 0, none⟩) (by show w.heap.size < _; omega)).trans d0
    have e1 := (hB.cell (p := ⟨w.heap.size + 1, 0, none⟩) (by show w.heap.size + 1 < _; omega)).trans d1
    have HC := hid (meetsAll_any _ l (dif s (bt x.1)) W hlt hl ((HR.out.below hB0).below hB))
    rcases hq : l.all (meetB (dif s (bt x.1))) with _ | _
    · have HQ := hid hq
      clear hq
      gi_wp2_with (refine ⟨trivial, ?_⟩; gi_at_call 102; refine (CallsIn.inRound l0 (callsIn_wide.2 HC.out)).mono ?_)
      rw [HQ.out]
      rintro e W' ⟨rfl, rfl⟩
      have HB := hid hB
      clear hB
      gi_wp2
      exact ⟨KeepsOthers.refl _, trivial, fun y hy => by rw [List.mem_append, List.mem_singleton] at hy; rcases hy with hy | rfl; exact hp y hy; exact HQ.out, HB.out⟩
    · have HQ := hid hq
      clear hq
      gi_wp2_with (refine ⟨trivial, ?_⟩; gi_at_call 102; refine (CallsIn.inRound l0 (callsIn_wide.2 HC.out)).mono ?_)
      rw [HQ.out]
      rintro e W' ⟨rfl, rfl⟩
      have e3 := (hB.cell (p := ⟨w.heap.size + 1 + 1, 0, none⟩) (by show w.heap.size + 1 + 1 < _; omega)).trans d2
      have f3' := (froz_below hB (b := w.heap.size + 1 + 1) (off := 0) (by omega)).trans f2
      have HB := hid hB
      clear hB
      gi_wp2
      exact ⟨KeepsOthers.setCell _ _ _, ⟨rfl, ⟨x, by simp, HQ.out⟩, World.cell?_setCell_same' _ _ _ (by rw [e3]; rfl)⟩, (hB0.trans (HB.out.mono (by omega))).setCell (p := ⟨w.heap.size + 1 + 1, 0, none⟩) (by simp; omega) _⟩
  case done =>
    rintro D ys W hD hys ⟨hne, hB⟩ hK
    have e3 := (hB.cell (p := ⟨w.heap.size + 1 + 1, 0, none⟩) (by show w.heap.size + 1 + 1 < _; omega)).trans d2
    have f3' := (froz_below hB (b := w.heap.size + 1 + 1) (off := 0) (by omega)).trans f2
    have HB := hid (hB0.trans (hB.mono (by omega)))
    gi_wp2
    have hK' := (KeepsOthers.setCell W ⟨w.heap.size + 1 + 1, 0, none⟩ (.bool false)).same D _ hK rfl
    refine ⟨by simp, .inl ⟨_, _, rfl, run_takeDeferred hK', ?_⟩⟩
    have hc5 := cell_kept (World.cell?_setCell_same' W ⟨w.heap.size + 1 + 1, 0, none⟩ (.bool false) (by rw [e3]; rfl)) (grownBy_putObj' _ D (.deferred none)) (fun r e => by cases e; exact ⟨_, hK', rfl⟩)
    refine ⟨.bool false, ?_, ?_, (HB.out.setCell (p := ⟨w.heap.size + 1 + 1, 0, none⟩) (by simp; omega) _).trans (belowK_b (w := w) (Nat.le_refl _) _ D _ _ (by omega) hK' rfl rfl)⟩
    · simp [results, Try.f103, go_sem, hc5]
    · refine ret_bool ?_
      unfold spareB
      refine (Bool.eq_false_iff.2 fun h => ?_).symm
      rw [List.any_eq_true] at h
      obtain ⟨i, hi, h1⟩ := h
      rw [← hys, List.mem_map] at hi
      obtain ⟨y, hy, rfl⟩ := hi
      have h2 := hne y hy
      have h1' : l.all (meetB (dif s (bt y.1))) = true := h1
      rw [h2] at h1'
      cases h1'
  case stop =>
    rintro D c pre W hD hpre ⟨⟨rfl, ⟨y, hy, h1⟩, hcr⟩, hB⟩ hK
    gi_wp2
    refine ⟨by simp, .inl ⟨_, _, rfl, run_takeDeferred hK, ?_⟩⟩
    have hc5 := cell_kept hcr (grownBy_putObj' _ D (.deferred none)) (fun r e => by cases e; exact ⟨_, hK, rfl⟩)
    refine ⟨.bool true, ?_, ?_, hB.trans (belowK_b (w := w) (Nat.le_refl _) W D _ _ (by omega) hK rfl rfl)⟩
    · simp [results, Try.f103, go_sem, hc5]
    · exact ret_bool (by unfold spareB; exact (List.any_eq_true.2 ⟨y.1, y.2, h1⟩).symm)

theorem BlockerQ_ok (s bx : Nat) (v : Value) (l : List Nat) (w : World) (hs : s < 256) (hl : ∀ s ∈ l, s < 256) (hbx : w.cell? ⟨bx, 0, none⟩ = some v) (h : Ints w v (N l)) :
    Calls Try.prog 101 #[.int .i64 s, .pointer (some ⟨bx, 0, none⟩)] w fun e w' => e = .returned (.bool (blockB l s)) ∧ Below w.heap.size w w' := by
  have MA := hid (meetsAll_any v l s w hs hl h)
  have SP := hid (spare_any v l s w hs hl h)
  obtain ⟨a, cap, hv, _, _⟩ := h.nats
  subst hv
  unfold blockB
  rcases hq : l.all (meetB s) with _ | _
  · rw [hq] at MA
    clear hq
    go_enter Try.func101, Try.ntmps101
    go_wp2_with fail
    refine MA.out.mono ?_
    rintro e w' ⟨rfl, rfl⟩
    go_wp2_with fail
    go_ret
    exact ⟨rfl, Below.refl _ _⟩
  · rw [hq] at MA
    clear hq
    generalize spareB l s = q at *
    go_enter Try.func101, Try.ntmps101
    go_wp2_with fail
    refine MA.out.mono ?_
    rintro e w' ⟨rfl, rfl⟩
    go_wp2_with fail
    refine SP.out.mono ?_
    rintro e w2 ⟨rfl, hb2⟩
    have HB := hid hb2
    clear hb2
    go_wp2_with fail
    go_ret
    exact ⟨ret_bool (by simp), HB.out⟩
theorem Blocker_fam (n : Nat) (v : Value) (l : List Nat) (w : World) (hn : n ≤ 8) (hf : Fam n l) (h : Ints w v (N l)) :
    Calls Try.prog 74 #[.int .i64 n, v] w fun e w' => ∃ r, e = .returned (.tuple #[r, .int .i64 0]) ∧ Own w.heap.size w' r (blk n l) ∧ Below w.heap.size w w' := by
  have hmf : ∀ (fn : Fn) (first cap : Array Value) (w : World), (Instr.makeFunc fn first cap).run Try.prog w = .ok (.func fn first cap) w := fun _ _ _ _ => rfl
  have HI := hid h
  obtain ⟨a, cap, hv, _, _⟩ := h.nats
  subst hv
  have B0 : Below w.heap.size w (w.alloc (.cells #[.slice a l.length cap] 22)) := (Below.refl _ _).alloc (Nat.le_refl _) _
  have FA := hid (family_any n _ (N l) _ (HI.out.below B0))
  rw [fam_mk hn hf] at FA
  have SV := hid (Sieve_any n 101 #[.pointer (some ⟨w.heap.size, 0, none⟩)] (blockB l) (w.alloc (.cells #[.slice a l.length cap] 22)) hn (fun args w => enters_of Try.func101 (by kernel_rfl) rfl args w)
    (fun x hx w1 hb1 _ => BlockerQ_ok x w.heap.size _ l w1 (lt256 hn hx) (hf.lt256 hn) ((hb1.cell (p := ⟨w.heap.size, 0, none⟩) (by simp)).trans (cellN w _ _).1) ((HI.out.below B0).below hb1)))
  have HB0 := hid B0
  clear B0 h
  unfold blk
  generalize (List.range (2 ^ n)).filter (blockB l) = acc at *
  go_enter Try.func74, Try.ntmps74
  go_wp2_with fail
  refine FA.out.mono ?_
  rintro e w' ⟨rfl, rfl⟩
  go_wp2_with fail
  refine SV.out.mono ?_
  rintro e w2 ⟨r, rfl, ho, hb2⟩
  have HB := hid (HB0.out.trans (hb2.mono HB0.out.size))
  have HO := hid (ho.mono HB0.out.size : Own w.heap.size w2 r acc)
  clear hb2 ho
  go_wp2_with fail
  go_ret2
  exact ⟨_, rfl, HO.out, HB.out⟩
end Go.Proofs.Ythbldeloocmakaa
