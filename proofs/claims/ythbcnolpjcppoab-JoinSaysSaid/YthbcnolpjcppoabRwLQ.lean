/- join.ranksWithoutLoops. -/
import Derived.Test.YthbcnolpjcppoabAxQ
import Derived.Test.YthbcnolpjcppoabPlainAll
import Derived.Test.YthbcnolpjcppoabWholeW
namespace Go.Proofs.Ythbcnolpjcppoab
open Go.RowKit Go.Shelf
attribute [local go_sem] Oper.semAt_some

def boxT (w : World) (n : Int) (v : Value) : World := ((w.alloc (.cells #[.int .i64 n, v] 24)).alloc (.cells #[.slice none 0 0] 22)).alloc (.cells #[.int .i64 0] 25)
theorem boxT_blocks {w w2 : World} {n : Int} {v : Value} (hb2 : Below (boxT w n v).heap.size (boxT w n v) w2) :
    w2.heap[w.heap.size]? = some (.cells #[.int .i64 n, v] 24 (0, 0)) ∧ w2.heap[w.heap.size + 1]? = some (.cells #[.slice none 0 0] 22 (0, 0)) ∧ w2.heap[w.heap.size + 1 + 1]? = some (.cells #[.int .i64 0] 25 (0, 0)) ∧ w.heap.size + 3 ≤ w2.heap.size := by
  have hs : (boxT w n v).heap.size = w.heap.size + 3 := by unfold boxT; simp
  refine ⟨(hb2.block _ (by omega)).trans ?_, (hb2.block _ (by omega)).trans ?_, (hb2.block _ (by omega)).trans ?_, by have := hb2.size; omega⟩
  · unfold boxT
    rw [Below.heap_alloc _ _ _ (by simp; omega), Below.heap_alloc _ _ _ (by simp)]
    exact World.alloc_heap_new w _
  · unfold boxT
    rw [Below.heap_alloc _ _ _ (by simp)]
    have := World.alloc_heap_new (w.alloc (.cells #[.int .i64 n, v] 24)) (.cells #[.slice none 0 0] 22)
    simpa using this
  · unfold boxT
    have := World.alloc_heap_new ((w.alloc (.cells #[.int .i64 n, v] 24)).alloc (.cells #[.slice none 0 0] 22)) (.cells #[.int .i64 0] 25)
    simpa using this
theorem two_cellsT {w : World} {b : Nat} {x y : Value} {t : TypeId} (h : w.heap[b]? = some (.cells #[x, y] t (0, 0))) : w.cell? ⟨b, 0, none⟩ = some x := by simp [World.cell?, h]
theorem one_cellT {w : World} {b : Nat} {x : Value} {t : TypeId} (h : w.heap[b]? = some (.cells #[x] t (0, 0))) : w.cell? ⟨b, 0, none⟩ = some x ∧ w.frozen? ⟨b, 0, none⟩ = false := by simp [World.cell?, World.frozen?, h]
/-- Is there a loop? -/
def loopB (m : Nat) (r : Nat → Nat) : Bool := (els (2 ^ m - 1)).any fun i => r (bt i) == 0
theorem el_full {m : Nat} (hm : m ≤ 8) (x : El (2 ^ m - 1)) : bt x.1 < 2 ^ m := by
  have := (mem_els (lt256 hm (full_lt m))).1 x.2
  rw [full_bit] at this
  unfold bt
  exact Nat.pow_lt_pow_right (by omega) (by simpa using this)
def RwlEnds (w : World) (m : Nat) (l : List Nat) (e : Ending) (w' : World) : Prop := ((loopB m (rk l) = false ∧ ∃ r, e = .returned (.tuple #[r, .int .i64 0]) ∧ RkAt w' r (2 ^ m) (rk l)) ∨ (loopB m (rk l) = true ∧ e = .returned (.tuple #[.slice none 0 0, .int .i64 5]))) ∧ Below w.heap.size w w'
set_option maxRecDepth 100000 in
set_option maxHeartbeats 2000000 in
theorem rwl_any (m : Nat) (v : Value) (l : List Nat) (w : World) (hm : m ≤ 8) (hf : Fam m l) (hb : Bas l) (h : Ints w v (N l)) :
    Calls Try.prog 85 #[.agg #[.int .i64 m, v]] w (RwlEnds w m l) := by
  have B0 : Below w.heap.size w (((w.alloc (.cells #[.int .i64 m, v] 24)).alloc (.cells #[.slice none 0 0] 22)).alloc (.cells #[.int .i64 0] 25)) := (((Below.refl _ w).alloc (Nat.le_refl _) _).alloc (by simp) _).alloc (by simp; omega) _
  have R1 := hid (Ranks_ok m v l _ hm hf hb (h.below B0))
  refine (callsIn_wide (n := 6)).1 ?_
  refine callsIn_of_wp_marks Try.func85 rfl trivial ?_ rfl
  simp only [Try.ntmps85, List.size_toArray, List.length_cons, List.length_nil, Nat.reduceAdd, Nat.reduceSub, Array.replicate_succ, Array.replicate_zero, List.push_toArray, List.append_toArray, List.nil_append, List.cons_append]
  gi_wp2_with fail
  refine ⟨trivial, ?_⟩
  gi_at_call 44
  refine (callsIn_wide.2 R1.out).mono ?_
  rintro e w1 ⟨r1, rfl, hr1, hb1⟩
  have HR1 := hid hr1
  obtain ⟨rb, roff, rcap, rfl, -, -⟩ := hr1
  have HB1 := hid (B0.trans (hb1.mono B0.size))
  obtain ⟨b0, b1, b2, hsz⟩ := boxT_blocks hb1
  have z0 := cellA (.cells #[.slice (some ⟨rb, roff, none⟩) (2 ^ m) rcap] 22) (two_cellsT b0)
  clear hb1 B0 R1
  gi_wp2_with fail
  refine ⟨trivial, ?_⟩
  gi_at_call 45
  refine (callsIn_wide.2 (wholeSet_any m _ hm)).mono ?_
  rintro e w2 ⟨rfl, hw2⟩
  obtain rfl := hw2.symm
  clear hw2
  gi_wp2_with fail
  refine ⟨trivial, ?_⟩
  gi_at_call 114
  refine (callsIn_wide.2 (sing_any (2 ^ m - 1) _)).mono ?_
  rintro e w3 ⟨rfl, hw3⟩
  obtain rfl := hw3.symm
  clear hw3
  gi_wp2_with fail
  obtain ⟨d1, f1⟩ := one_cellT b1
  obtain ⟨d2, f2⟩ := one_cellT b2
  have c0 := cellN w1 (.slice (some ⟨rb, roff, none⟩) (2 ^ m) rcap) 22
  have c3 := cellN (w1.alloc (.cells #[.slice (some ⟨rb, roff, none⟩) (2 ^ m) rcap] 22)) (.int .i64 (2 ^ m - 1 : Nat)) 3
  simp only [World.size_alloc] at c3
  have hB0 : Below w1.heap.size w1 ((w1.alloc (.cells #[.slice (some ⟨rb, roff, none⟩) (2 ^ m) rcap] 22)).alloc (.cells #[.int .i64 (2 ^ m - 1 : Nat)] 3)) := ((Below.refl _ w1).alloc (Nat.le_refl _) _).alloc (by simp) _
  have hfull := lt256 hm (full_lt m)
  refine wpIn_rangeFunc_ownF rfl (by decide) (gf := 125) (lb := #[.pointer (some ⟨w1.heap.size + 1, 0, none⟩)]) rfl trivial (enters_of Try.func125 (by kernel_rfl) rfl)
    (sing_stops 5 (by decide) (2 ^ m - 1) (w1.heap.size + 1) hfull _ (by simp) c3.1) (fun _ _ => trivial) (fun _ _ _ _ _ _ _ _ => trivial) (Below.refl _ _) (fun _ => rfl)
    (fun pre W => ((∀ y ∈ pre, (rk l (bt y.1) == 0) = false) ∧ W.cell? ⟨w1.heap.size, 0, none⟩ = some (.slice (some ⟨rb, roff, none⟩) (2 ^ m) rcap) ∧ (W.cell? ⟨w.heap.size + 1, 0, none⟩ = some (.slice none 0 0) ∧ W.frozen? ⟨w.heap.size + 1, 0, none⟩ = false) ∧ W.cell? ⟨w.heap.size + 1 + 1, 0, none⟩ = some (.int .i64 0) ∧ W.frozen? ⟨w.heap.size + 1 + 1, 0, none⟩ = false) ∧ Below w1.heap.size w1 W)
    (fun c pre W => (c = .ret ∧ (∃ y ∈ pre, (rk l (bt y.1) == 0) = true) ∧ W.cell? ⟨w.heap.size + 1, 0, none⟩ = some (.slice none 0 0) ∧ W.cell? ⟨w.heap.size + 1 + 1, 0, none⟩ = some (.int .i64 5)) ∧ Below w.heap.size w W)
    (OwnFrom.and (Own.from (fun s A B row hs hg hr => ⟨hs.1, cell_kept hs.2.1 hg hr, ⟨cell_kept hs.2.2.1.1 hg hr, (frozen_kept hs.2.2.1.1 hg hr).trans hs.2.2.1.2⟩, cell_kept hs.2.2.2.1 hg hr, (frozen_kept hs.2.2.2.1 hg hr).trans hs.2.2.2.2⟩) _) (ownFrom_below (Nat.le_refl _) (by simp; omega)))
    (fun c => OwnFrom.and (Own.from (fun s A B row hs hg hr => ⟨hs.1, hs.2.1, cell_kept hs.2.2.1 hg hr, cell_kept hs.2.2.2 hg hr⟩) _) (ownFrom_below (Nat.le_refl _) (by simp; omega)))
    ⟨⟨by simp, cellA _ c0.1, ⟨cellA _ (cellA _ d1), frozA _ (cellA _ d1) (frozA _ d1 f1)⟩, cellA _ (cellA _ d2), frozA _ (cellA _ d2) (frozA _ d2 f2)⟩, hB0⟩
    (fun x => { tmps := #[.agg #[.int .i64 m, v], .pointer (some ⟨w.heap.size, 0, none⟩), .pointer (some ⟨w.heap.size + 1, 0, none⟩), .pointer (some ⟨w.heap.size + 1 + 1, 0, none⟩), .pointer (some ⟨w1.heap.size, 0, none⟩), .int .i64 0, .int .i64 (bt x.1 : Nat), .tuple #[.slice (some ⟨rb, roff, none⟩) (2 ^ m) rcap, .int .i64 0], .agg #[.int .i64 m, v], .tuple #[.slice (some ⟨rb, roff, none⟩) (2 ^ m) rcap, .int .i64 0], .slice (some ⟨rb, roff, none⟩) (2 ^ m) rcap, .int .i64 0, .int .i64 0, .bool false, undef, .pointer (some ⟨w.heap.size, 0, none⟩), .int .i64 m, .int .i64 (2 ^ m - 1 : Nat), .func (.func 125) #[] #[.pointer (some ⟨w1.heap.size + 1, 0, none⟩)], .int .i64 (bt x.1 : Nat), undef, undef, undef, undef, undef, undef], defers := [] }) ?assign ?body ?done ?stop
  case assign =>
    intro l x W K hK
    dsimp only [enc1]
    gi_wp2
    exact hK
  case body =>
    rintro l' pre x W ⟨⟨hp, hcr, ⟨hc1, hf1⟩, hc2, hf2⟩, hB⟩ _
    have hx := el_full hm x
    have hT := (pow_wrap m hm).2
    have hcell : W.cell? ⟨rb, roff + bt x.1, none⟩ = some (.int .i64 (rk l (bt x.1) : Nat)) := by
      obtain ⟨b', off', cp', e, h1, h2⟩ := HR1.out.below hB
      obtain ⟨⟨rfl, rfl⟩, rfl⟩ : (rb = b' ∧ roff = off') ∧ rcap = cp' := by simpa using e
      exact h2 _ hx
    have hxi : ((bt x.1 : Nat) : Int) < ((2 ^ m : Nat) : Int) := by omega
    rcases hpx : rk l (bt x.1) == 0 with _ | _
    · have HP := hid hpx
      have hne : ((rk l (bt x.1) : Int) == 0) = false := by rw [beq_eq_false_iff_ne] at hpx ⊢; omega
      clear hpx
      generalize rk l (bt x.1) = z at hcell hne
      generalize 2 ^ m = T at *
      gi_wp2
      exact ⟨⟨Nat.le_refl _, fun _ _ h _ => h⟩, trivial, ⟨fun y hy => by rw [List.mem_append, List.mem_singleton] at hy; rcases hy with hy | rfl; exact hp y hy; exact HP.out, hcr, ⟨hc1, hf1⟩, hc2, hf2⟩, hB⟩
    · have HP := hid hpx
      have hz : rk l (bt x.1) = 0 := by simpa using hpx
      rw [hz] at hcell
      clear hpx
      generalize 2 ^ m = T at *
      gi_wp2
      refine ⟨(KeepsOthers.setCell _ _ _).trans (KeepsOthers.setCell _ _ _), ⟨rfl, ⟨x, by simp, HP.out⟩, ?_, ?_⟩, ((HB1.out.trans (hB.mono HB1.out.size)).setCell (p := ⟨w.heap.size + 1, 0, none⟩) (by show w.heap.size ≤ w.heap.size + 1; omega) _).setCell (p := ⟨w.heap.size + 1 + 1, 0, none⟩) (by show w.heap.size ≤ w.heap.size + 1 + 1; omega) _⟩
      · refine (World.cell?_setCell_other _ _ _ _ (by simp)).trans ?_
        exact World.cell?_setCell_same' _ _ _ (by rw [hc1]; rfl)
      · refine World.cell?_setCell_same' _ _ _ ?_
        rw [World.cell?_setCell_other _ _ _ _ (by simp), hc2]
        rfl
  case done =>
    rintro D ys W hD hys ⟨⟨hne, hcr, ⟨hc1, hf1⟩, hc2, hf2⟩, hB⟩ hK
    gi_wp2
    have hB1 := HB1.out
    have hK1 := (KeepsOthers.setCell W ⟨w.heap.size + 1, 0, none⟩ (.slice (some ⟨rb, roff, none⟩) (2 ^ m) rcap)).same D _ hK rfl
    have hK' := (KeepsOthers.setCell (W.setCell ⟨w.heap.size + 1, 0, none⟩ (.slice (some ⟨rb, roff, none⟩) (2 ^ m) rcap)) ⟨w.heap.size + 1 + 1, 0, none⟩ (.int .i64 0)).same D _ hK1 rfl
    refine ⟨by simp, .inl ⟨_, _, rfl, run_takeDeferred hK', ?_⟩⟩
    have q1 : ((W.setCell ⟨w.heap.size + 1, 0, none⟩ (.slice (some ⟨rb, roff, none⟩) (2 ^ m) rcap)).setCell ⟨w.heap.size + 1 + 1, 0, none⟩ (.int .i64 0)).cell? ⟨w.heap.size + 1, 0, none⟩ = some (.slice (some ⟨rb, roff, none⟩) (2 ^ m) rcap) := by
      refine (World.cell?_setCell_other _ _ _ _ (by simp)).trans ?_
      exact World.cell?_setCell_same' _ _ _ (by rw [hc1]; rfl)
    have q2 : ((W.setCell ⟨w.heap.size + 1, 0, none⟩ (.slice (some ⟨rb, roff, none⟩) (2 ^ m) rcap)).setCell ⟨w.heap.size + 1 + 1, 0, none⟩ (.int .i64 0)).cell? ⟨w.heap.size + 1 + 1, 0, none⟩ = some (.int .i64 0) := by
      refine World.cell?_setCell_same' _ _ _ ?_
      rw [World.cell?_setCell_other _ _ _ _ (by simp), hc2]
      rfl
    have hc5 := cell_kept q1 (grownBy_putObj' _ D (.deferred none)) (fun r e => by cases e; exact ⟨_, hK', rfl⟩)
    have hc6 := cell_kept q2 (grownBy_putObj' _ D (.deferred none)) (fun r e => by cases e; exact ⟨_, hK', rfl⟩)
    have hBF := ((hB1.trans (hB.mono hB1.size)).setCell (p := ⟨w.heap.size + 1, 0, none⟩) (by show w.heap.size ≤ w.heap.size + 1; omega) (.slice (some ⟨rb, roff, none⟩) (2 ^ m) rcap)).setCell (p := ⟨w.heap.size + 1 + 1, 0, none⟩) (by show w.heap.size ≤ w.heap.size + 1 + 1; omega) (.int .i64 0)
    refine ⟨.tuple #[.slice (some ⟨rb, roff, none⟩) (2 ^ m) rcap, .int .i64 0], ?_, ⟨Or.inl ⟨?_, _, rfl, ?_⟩, hBF.trans (belowK_b (w := w) (Nat.le_refl _) _ D _ _ (by simp at hD; omega) hK' rfl rfl)⟩⟩
    · simp [results, Try.f85, go_sem, hc5, hc6]
    · refine Bool.eq_false_iff.2 fun h => ?_
      unfold loopB at h
      rw [List.any_eq_true] at h
      obtain ⟨i, hi, h1⟩ := h
      rw [← hys, List.mem_map] at hi
      obtain ⟨y, hy, rfl⟩ := hi
      rw [hne y hy] at h1
      cases h1
    · obtain ⟨b', off', cp', e, h1, h2⟩ := HR1.out.below hB
      obtain ⟨⟨rfl, rfl⟩, rfl⟩ : (rb = b' ∧ roff = off') ∧ rcap = cp' := by simpa using e
      refine ⟨rb, roff, rcap, rfl, ?_, fun i hi => ?_⟩
      · have := (grownBy_putObj' ((W.setCell ⟨w.heap.size + 1, 0, none⟩ (.slice (some ⟨rb, roff, none⟩) (2 ^ m) rcap)).setCell ⟨w.heap.size + 1 + 1, 0, none⟩ (.int .i64 0)) D (.deferred none)).1
        simp at this ⊢
        omega
      · have hcl := h2 i hi
        refine cell_kept ?_ (grownBy_putObj' _ D (.deferred none)) (fun r e => by cases e; exact ⟨_, hK', rfl⟩)
        have ne1 : (⟨rb, roff + i, none⟩ : Addr) ≠ ⟨w.heap.size + 1, 0, none⟩ := fun e => by
          rw [e, hc1] at hcl
          cases hcl
        have s1 : (W.setCell ⟨w.heap.size + 1, 0, none⟩ (.slice (some ⟨rb, roff, none⟩) (2 ^ m) rcap)).cell? ⟨rb, roff + i, none⟩ = some (.int .i64 (rk l i : Nat)) := (World.cell?_setCell_other _ _ _ _ (Ne.symm ne1)).trans hcl
        by_cases e2 : (⟨rb, roff + i, none⟩ : Addr) = ⟨w.heap.size + 1 + 1, 0, none⟩
        · rw [e2] at hcl ⊢
          rw [q2, ← hcl, hc2]
        · exact (World.cell?_setCell_other _ _ _ _ (Ne.symm e2)).trans s1
  case stop =>
    rintro D c pre W hD hpre ⟨⟨rfl, ⟨y, hy, h1⟩, hc1, hc2⟩, hB⟩ hK
    gi_wp2
    refine ⟨by simp, .inl ⟨_, _, rfl, run_takeDeferred hK, ?_⟩⟩
    have hc5 := cell_kept hc1 (grownBy_putObj' _ D (.deferred none)) (fun r e => by cases e; exact ⟨_, hK, rfl⟩)
    have hc6 := cell_kept hc2 (grownBy_putObj' _ D (.deferred none)) (fun r e => by cases e; exact ⟨_, hK, rfl⟩)
    refine ⟨.tuple #[.slice none 0 0, .int .i64 5], ?_, ⟨Or.inr ⟨?_, rfl⟩, hB.trans (belowK_b (w := w) (Nat.le_refl _) W D _ _ (by simp at hD; omega) hK rfl rfl)⟩⟩
    · simp [results, Try.f85, go_sem, hc5, hc6]
    · unfold loopB
      exact List.any_eq_true.2 ⟨y.1, y.2, h1⟩

theorem loop_free {m : Nat} {l : List Nat} (hm : m ≤ 8) (hb : Bas l) : loopB m (rk l) = false → NoLoop m (rk l) := fun h => by
  refine noLoop_of (hb.rkOn m) fun i hi e => ?_
  have hin : i ∈ els (2 ^ m - 1) := (mem_els (lt256 hm (full_lt m))).2 (by rw [full_bit]; simpa using hi)
  have : loopB m (rk l) = true := List.any_eq_true.2 ⟨i, hin, by unfold bt; rw [e]; rfl⟩
  rw [h] at this
  cases this
set_option maxRecDepth 100000 in
set_option maxHeartbeats 2000000 in
theorem rwl_bad (n : Int) (v : Value) (zs : List Int) (w : World) (h : Ints w v zs) (hc : chkR n zs ≠ 0) :
    Calls Try.prog 85 #[.agg #[.int .i64 n, v]] w fun e w' => e = .returned (.tuple #[.slice none 0 0, .int .i64 (chkR n zs)]) ∧ Below w.heap.size w w' := by
  have B0 : Below w.heap.size w (((w.alloc (.cells #[.int .i64 n, v] 24)).alloc (.cells #[.slice none 0 0] 22)).alloc (.cells #[.int .i64 0] 25)) := (((Below.refl _ w).alloc (Nat.le_refl _) _).alloc (by simp) _).alloc (by simp; omega) _
  have R1 := hid (Ranks_bad n v zs _ (h.below B0) hc)
  generalize chkR n zs = q at *
  have hq : (q == 0) = false := by rw [beq_eq_false_iff_ne]; exact hc
  refine (callsIn_wide (n := 6)).1 ?_
  refine callsIn_of_wp_marks Try.func85 rfl trivial ?_ rfl
  simp only [Try.ntmps85, List.size_toArray, List.length_cons, List.length_nil, Nat.reduceAdd, Nat.reduceSub, Array.replicate_succ, Array.replicate_zero, List.push_toArray, List.append_toArray, List.nil_append, List.cons_append]
  gi_wp2_with fail
  refine ⟨trivial, ?_⟩
  gi_at_call 44
  refine (callsIn_wide.2 R1.out).mono ?_
  rintro e w1 ⟨rfl, hb1⟩
  have HB1 := hid (B0.trans (hb1.mono B0.size))
  obtain ⟨b0, b1, b2, hsz⟩ := boxT_blocks hb1
  obtain ⟨d1, f1⟩ := one_cellT b1
  obtain ⟨d2, f2⟩ := one_cellT b2
  have e1 := cellA (.cells #[.slice none 0 0] 22) d1
  have e2 := cellA (.cells #[.slice none 0 0] 22) d2
  have g1 := frozA (.cells #[.slice none 0 0] 22) d1 f1
  have g2 := frozA (.cells #[.slice none 0 0] 22) d2 f2
  clear hb1 B0 R1 b0 b1 b2
  gi_wp2_with fail
  have q1 : (((w1.alloc (.cells #[.slice none 0 0] 22)).setCell ⟨w.heap.size + 1, 0, none⟩ (.slice none 0 0)).setCell ⟨w.heap.size + 1 + 1, 0, none⟩ (.int .i64 q)).cell? ⟨w.heap.size + 1, 0, none⟩ = some (.slice none 0 0) := by
    refine (World.cell?_setCell_other _ _ _ _ (by simp)).trans ?_
    exact World.cell?_setCell_same' _ _ _ (by rw [e1]; rfl)
  have q2 : (((w1.alloc (.cells #[.slice none 0 0] 22)).setCell ⟨w.heap.size + 1, 0, none⟩ (.slice none 0 0)).setCell ⟨w.heap.size + 1 + 1, 0, none⟩ (.int .i64 q)).cell? ⟨w.heap.size + 1 + 1, 0, none⟩ = some (.int .i64 q) := by
    refine World.cell?_setCell_same' _ _ _ ?_
    rw [World.cell?_setCell_other _ _ _ _ (by simp), e2]
    rfl
  refine ⟨.tuple #[.slice none 0 0, .int .i64 q], ?_, rfl, ((HB1.out.alloc (by omega) _).setCell (p := ⟨w.heap.size + 1, 0, none⟩) (by show w.heap.size ≤ w.heap.size + 1; omega) _).setCell (p := ⟨w.heap.size + 1 + 1, 0, none⟩) (by show w.heap.size ≤ w.heap.size + 1 + 1; omega) _⟩
  simp [results, Try.f85, go_sem, q1, q2]
end Go.Proofs.Ythbcnolpjcppoab
