/- axioms.closure. -/
import Derived.Test.YtgfbajkonlaciaaIndQ
namespace Go.Proofs.Ytgfbajkonlaciaa
open Go.RowKit Go.Shelf
attribute [local go_sem] Oper.semAt_some

/-- What closure has reckoned when some have come. -/
def cloTo (r : Nat → Nat) (s : Nat) (l : List Nat) : Nat := l.foldl (fun a i => if r (s ||| 2 ^ i) = r s then a ||| 2 ^ i else a) s
theorem cloTo_snoc (r : Nat → Nat) (s : Nat) (l : List Nat) (i : Nat) : cloTo r s (l ++ [i]) = if r (s ||| bt i) = r s then cloTo r s l ||| bt i else cloTo r s l := by
  unfold cloTo bt
  rw [List.foldl_append]
  rfl
theorem cloTo_lt (r : Nat → Nat) (s : Nat) (hs : s < 256) : ∀ (l : List Nat), (∀ i ∈ l, i < 8) → cloTo r s l < 256 := fun l hl => by
  refine lt_of_bits (n := 8) fun j hj => ?_
  unfold cloTo at hj
  rw [fold_bit (fun i => r (s ||| 2 ^ i) = r s)] at hj
  simp only [Bool.or_eq_true, Bool.and_eq_true, decide_eq_true_eq] at hj
  rcases hj with hj | hj
  · exact bit8 hs hj
  · exact hl j hj.1

set_option maxRecDepth 100000 in
set_option maxHeartbeats 2000000 in
theorem closure_any (v : Value) (n : Nat) (r : Nat → Nat) (s : Nat) (w : World) (hn : n ≤ 8) (hs : s < 2 ^ n) (h : RkAt w v (2 ^ n) r) :
    Calls Try.prog 50 #[v, .int .i64 s] w fun e w' => e = .returned (.int .i64 (cl r n s : Nat)) ∧ Below w.heap.size w w' := by
  have HC0 := hid (compl_lt hn s)
  have HSUB : Hid (∀ i, i ∈ els (2 ^ n - 1 - s) → s ||| bt i < 2 ^ n) := fun i hi => by
    have h1 := (mem_els (compl_lt hn s)).1 hi
    rw [sub_compl hs, compl_bit n s _ hs] at h1
    simp only [Bool.and_eq_true, decide_eq_true_eq] at h1
    exact ad_lt hs h1.1
  unfold cl clo
  obtain ⟨T, HT, hT2, hT1⟩ : ∃ T : Nat, Hid (T = 2 ^ n) ∧ T ≤ 256 ∧ 1 ≤ T := ⟨2 ^ n, rfl, (pow_wrap _ hn).2, Nat.one_le_two_pow⟩
  rw [← HT.out] at HC0 HSUB h hs ⊢
  clear HT hn
  have HR := hid h
  obtain ⟨b, off, cap, rfl, _, _⟩ := h
  have hd1 : s < 256 := by omega
  obtain ⟨c, hc⟩ : ∃ c, T - 1 - s = c := ⟨_, rfl⟩
  rw [hc] at HC0 HSUB ⊢
  have hce : ((T : Int) - 1 - (s : Int)) = (c : Int) := by omega
  have hc8 : c < 256 := HC0.out
  refine (callsIn_wide (n := 6)).1 ?_
  refine callsIn_of_wp_marks Try.func50 rfl trivial ?_ rfl
  simp only [Try.ntmps50, List.size_toArray, List.length_cons, List.length_nil, Nat.reduceAdd, Nat.reduceSub, Array.replicate_succ, Array.replicate_zero, List.push_toArray, List.append_toArray, List.nil_append, List.cons_append]
  gi_wp2_with (refine ⟨trivial, ?_⟩; gi_at_call 58; refine (callsIn_wide.2 (sing_any c _)).mono ?_; rintro e w' ⟨rfl, rfl⟩)
  have c0 := cellN w (.slice (some ⟨b, off, none⟩) T cap) 22
  have c1 := cellN (w.alloc (.cells #[.slice (some ⟨b, off, none⟩) T cap] 22)) (.int .i64 s) 3
  have c2 := cellN ((w.alloc (.cells #[.slice (some ⟨b, off, none⟩) T cap] 22)).alloc (.cells #[.int .i64 s] 3)) (.int .i64 s) 3
  have c3 := cellN (((w.alloc (.cells #[.slice (some ⟨b, off, none⟩) T cap] 22)).alloc (.cells #[.int .i64 s] 3)).alloc (.cells #[.int .i64 s] 3)) (.int .i64 c) 3
  simp only [World.size_alloc] at c1 c2 c3
  have hB0 : Below w.heap.size w ((((w.alloc (.cells #[.slice (some ⟨b, off, none⟩) T cap] 22)).alloc (.cells #[.int .i64 s] 3)).alloc (.cells #[.int .i64 s] 3)).alloc (.cells #[.int .i64 c] 3)) := ((((Below.refl _ w).alloc (Nat.le_refl _) _).alloc (by simp) _).alloc (by simp; omega) _).alloc (by simp; omega) _
  have d0 := cellA (.cells #[.int .i64 c] 3) (cellA (.cells #[.int .i64 s] 3) (cellA (.cells #[.int .i64 s] 3) c0.1))
  have d1 := cellA (.cells #[.int .i64 c] 3) (cellA (.cells #[.int .i64 s] 3) c1.1)
  have d2 := cellA (.cells #[.int .i64 c] 3) c2.1
  have f2 := frozA (.cells #[.int .i64 c] 3) c2.1 c2.2
  have d3 := c3.1
  clear c0 c1 c2 c3
  have hsz : ((((w.alloc (.cells #[.slice (some ⟨b, off, none⟩) T cap] 22)).alloc (.cells #[.int .i64 s] 3)).alloc (.cells #[.int .i64 s] 3)).alloc (.cells #[.int .i64 c] 3)).heap.size = w.heap.size + 4 := by simp
  revert hB0 d0 d1 d2 f2 d3 hsz
  generalize ((((w.alloc (.cells #[.slice (some ⟨b, off, none⟩) T cap] 22)).alloc (.cells #[.int .i64 s] 3)).alloc (.cells #[.int .i64 s] 3)).alloc (.cells #[.int .i64 c] 3)) = W0
  intro hB0 d0 d1 d2 f2 d3 hsz
  have HW0 := hid (HR.out.below hB0)
  refine wpIn_rangeFunc_ownF rfl (by decide) (gf := 72) (lb := #[.pointer (some ⟨w.heap.size + 1 + 1 + 1, 0, none⟩)]) rfl trivial (enters_of Try.func72 (by kernel_rfl) rfl)
    (sing_stops 5 (by decide) c (w.heap.size + 1 + 1 + 1) hc8 _ (by omega) d3) (fun _ _ => trivial) (fun _ _ _ _ _ _ _ _ => trivial) (Below.refl _ _) (fun _ => rfl)
    (fun pre W => (W.cell? ⟨w.heap.size + 1 + 1, 0, none⟩ = some (.int .i64 (cloTo r s (pre.map (·.1)) : Nat)) ∧ W.frozen? ⟨w.heap.size + 1 + 1, 0, none⟩ = false) ∧ Below (w.heap.size + 1 + 1) W0 W)
    (fun _ _ _ => False)
    (OwnFrom.and (Own.from (fun s A B row hs hg hr => ⟨cell_kept hs.1 hg hr, (frozen_kept hs.1 hg hr).trans hs.2⟩) _) (ownFrom_below (by omega) (by omega)))
    (fun _ _ _ _ _ hs _ _ => hs)
    ⟨⟨d2, f2⟩, Below.refl _ _⟩
    (fun x => { tmps := #[.slice (some ⟨b, off, none⟩) T cap, .int .i64 s, .pointer (some ⟨w.heap.size, 0, none⟩), .pointer (some ⟨w.heap.size + 1, 0, none⟩), .int .i64 0, .pointer (some ⟨w.heap.size + 1 + 1, 0, none⟩), .int .i64 (bt x.1 : Nat), .int .i64 s, .slice (some ⟨b, off, none⟩) T cap, .int .i64 T, .int .i64 ((T : Int) - 1), .int .i64 s, .int .i64 c, .func (.func 72) #[] #[.pointer (some ⟨w.heap.size + 1 + 1 + 1, 0, none⟩)], .int .i64 (bt x.1 : Nat), undef, undef, undef, undef, undef, undef, undef, undef, undef, undef, undef, undef, undef, undef, undef], defers := [] }) ?assign ?body ?done ?stop
  case assign =>
    intro l x W K hK
    dsimp only [enc1]
    gi_wp2
    exact hK
  case body =>
    rintro l pre x W ⟨⟨hcc, hfc⟩, hB⟩ _
    have hx8 := bt_lt (el_lt x)
    have hsx : bits .or .i64 (s : Int) (bt x.1 : Int) = ((s ||| bt x.1 : Nat) : Int) := i64_or_nat s (bt x.1) (by omega) (by omega)
    have hlt : s ||| bt x.1 < T := HSUB.out x.1 x.2
    have hcl8 : cloTo r s (pre.map (·.1)) < 256 := cloTo_lt r s hd1 _ fun i hi => by
      rw [List.mem_map] at hi
      obtain ⟨y, _, rfl⟩ := hi
      exact el_lt y
    have hcx : bits .or .i64 (cloTo r s (pre.map (·.1)) : Int) (bt x.1 : Int) = ((cloTo r s (pre.map (·.1)) ||| bt x.1 : Nat) : Int) := i64_or_nat _ (bt x.1) (by omega) (by omega)
    have SN := hid (cloTo_snoc r s (pre.map (·.1)) x.1)
    have MP : Hid ((pre ++ [x]).map (·.1) = pre.map (·.1) ++ [x.1]) := by show _ = _; simp
    have e0 := (hB.cell (p := ⟨w.heap.size, 0, none⟩) (by show w.heap.size < _; omega)).trans d0
    have e1 := (hB.cell (p := ⟨w.heap.size + 1, 0, none⟩) (by show w.heap.size + 1 < _; omega)).trans d1
    obtain ⟨b', off', cap', heq, hbl, hcells⟩ := HR.out.below (hB0.trans (hB.mono (by omega)))
    obtain ⟨⟨rfl, rfl⟩, rfl⟩ : (b = b' ∧ off = off') ∧ cap = cap' := by simpa using heq
    have r1 := hcells _ hlt
    have r2 := hcells s hs
    have HB := hid hB
    clear hcells heq hB
    generalize cloTo r s (pre.map (·.1)) = q at *
    generalize s ||| bt x.1 = z at *
    by_cases hq : r z = r s
    · have hq' : (((r z : Nat) : Int) == ((r s : Nat) : Int)) = true := by rw [hq]; simp
      have HQ := hid hq
      clear hq
      gi_wp2
      refine region_quiet_round (by kernel_rfl) (by kernel_rfl) (by kernel_rfl) ?_
      repeat (gi_big_quiet_step (fail))
      refine wpQuietIn_nil ?_
      intro _ hw'
      obtain ⟨nq, hw''⟩ := hw'
      subst hw''
      gi_wp2
      refine ⟨(keeps_drewN _ _).trans (KeepsOthers.setCell _ _ _), trivial, ⟨?_, (World.frozen?_setCell _ _ _ _).trans hfc⟩, (HB.out.trans (drewN_below _ _ _)).setCell (p := ⟨w.heap.size + 1 + 1, 0, none⟩) (Nat.le_refl _) _⟩
      rw [MP.out, SN.out, if_pos HQ.out]
      exact World.cell?_setCell_same' _ _ _ (by rw [World.cell?_drewN, hcc]; rfl)
    · have hq' : (((r z : Nat) : Int) == ((r s : Nat) : Int)) = false := by rw [beq_eq_false_iff_ne]; omega
      have HQ := hid hq
      clear hq
      gi_wp2
      refine region_quiet_round (by kernel_rfl) (by kernel_rfl) (by kernel_rfl) ?_
      repeat (gi_big_quiet_step (fail))
      refine wpQuietIn_nil ?_
      intro _ hw'
      obtain ⟨nq, hw''⟩ := hw'
      subst hw''
      gi_wp2
      refine ⟨keeps_drewN _ _, trivial, ⟨?_, hfc⟩, HB.out.trans (drewN_below _ _ _)⟩
      rw [MP.out, SN.out, if_neg HQ.out]
      exact hcc
  case done =>
    rintro D ys W hD hys ⟨⟨hcc, hfc⟩, hB⟩ hK
    rw [hys] at hcc
    generalize hq : cloTo r s (els c) = q at *
    have HQ := hid hq
    clear hq
    gi_wp2
    refine ⟨by simp, .inl ⟨_, _, rfl, run_takeDeferred hK, ?_⟩⟩
    exact ⟨_, results_tmp rfl _ _ _, by show Ending.returned (.int .i64 (q : Int)) = _; rw [← HQ.out]; rfl, (hB0.trans (hB.mono (by omega))).trans (belowK_b (w := w) (Nat.le_refl _) W D _ _ (by omega) hK rfl rfl)⟩
  case stop =>
    rintro D c pre W _ _ h _
    exact h.elim
end Go.Proofs.Ytgfbajkonlaciaa
