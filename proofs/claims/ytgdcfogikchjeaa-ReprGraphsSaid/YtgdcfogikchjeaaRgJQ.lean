/- repr.choices at one element and no columns. -/
import Derived.Test.YtgdcfogikchjeaaGrBW
import Derived.Test.YtgdcfogikchjeaaQuietW
namespace Go.Proofs.Ytgdcfogikchjeaa
open Go.RowKit Go.Shelf
attribute [local go_sem] Oper.semAt_some

set_option maxRecDepth 100000 in
set_option maxHeartbeats 2000000 in
theorem sing_stopsP (n : Nat) (hn : 1 ≤ n) (c B : Nat) (hc : c < 256) (w : World) (hB : B < w.heap.size) (hcell : w.cell? ⟨B, 0, none⟩ = some (.int .i64 c)) :
    SeqStopsK Fence.wide n Try.prog 59 #[.pointer (some ⟨B, 0, none⟩)] (enc1 (c := c)) (fun _ _ => True) (fun xs => xs.map (·.1) = els c) (fun pre => pre.map (·.1) <+: els c) (els c).length w := fun l J Jx W hW _ _ hY h0 => by
  have hc' := (hW.cell (p := ⟨B, 0, none⟩) hB).trans hcell
  refine callsIn_of_wp Try.func59 rfl trivial ?_ rfl
  simp only [Try.ntmps59, List.size_toArray, List.length_cons, List.length_nil, Nat.reduceAdd, Nat.reduceSub, Array.replicate_succ, Array.replicate_zero, List.push_toArray, List.append_toArray, List.nil_append, List.cons_append]
  gi_wp2
  gi_loopw [3] (fun p wr => ∃ (pre : List (El c)) (r : Nat), p = .int .i64 r ∧ r < 256 ∧ Hid (pre.map (·.1) ++ els r = els c) ∧ J pre wr) (fun p _ => (intOf p).toNat)
  case atStart => exact ⟨[], c, rfl, hc, rfl, h0⟩
  case round =>
    obtain ⟨pre, r, rfl, hr, hx, hJs⟩ := hrel
    by_cases h0 : 0 < r
    · have HS := hid (els_step r hr h0)
      have hmem : tz r ∈ els c := by have := hx.out; rw [HS.out] at this; rw [← this]; simp
      have hlen : pre.length < (els c).length := by
        have h2 := congrArg List.length hx.out
        rw [HS.out] at h2
        simp at h2
        omega
      obtain ⟨fn, tmps, assign, body, hy, hR⟩ := hY pre ⟨tz r, hmem⟩ wr hJs hlen
      dsimp only [enc1] at hy
      have hlow := low_fact' r hr h0
      have hne : ((r : Int) == 0) = false := by rw [beq_eq_false_iff_ne]; omega
      gi_wp2_with (refine ⟨trivial, ?_⟩; gi_at_call 61; refine (callsIn_wide.2 (low_any r _ hr h0)).mono ?_; rintro e w' ⟨rfl, rfl⟩)
      refine hR.mono ?_
      rintro e W3 (⟨rfl, hJ3, hk3⟩ | ⟨rfl, hJx3⟩)
      · gi_wp2_with (refine ⟨trivial, ?_⟩; gi_at_call 60; refine (callsIn_wide.2 (without_any r _ h0 hr)).mono ?_; rintro e w' ⟨rfl, rfl⟩)
        go_roundw
        case rel => exact ⟨pre ++ [⟨tz r, hmem⟩], wl r, rfl, Nat.lt_trans (wl_lt r hr h0) hr, by have := hx.out; rw [HS.out] at this; show _ = _; rw [List.map_append, List.append_assoc]; exact this, hJ3⟩
        case measure => simp [intOf]; exact wl_lt r hr h0
      · gi_wp2
        refine bodyPost_ret (results_none rfl _ _ _) rfl ?_
        exact ⟨⟨_, rfl⟩, .inr ⟨pre ++ [⟨tz r, hmem⟩], ⟨els (wl r), by have := hx.out; rw [HS.out] at this; rw [List.map_append, List.append_assoc]; exact this⟩, hJx3⟩⟩
    · have e0 : r = 0 := by omega
      subst e0
      gi_wp2
      go_end0
      exact ⟨⟨_, rfl⟩, .inl ⟨pre, by have := hx.out; rw [els_zero, List.append_nil] at this; exact this, hJs⟩⟩

/-- basis and element in their boxes. -/
structure TwoC (w0 W : World) (g5 g6 : Nat) : Prop where
  size : W.heap.size = w0.heap.size + 1 + 1
  l5 : w0.heap.size ≤ g5
  l6 : w0.heap.size ≤ g6
  b5 : W.heap[g5]? = some (.cells #[.int .i64 1] 3 (0, 0))
  b6 : W.heap[g6]? = some (.cells #[.int .i64 1] 3 (0, 0))
  bel : Below w0.heap.size w0 W
theorem TwoC.ab (w : World) : TwoC w ((w.alloc (.cells #[.int .i64 1] 3)).alloc (.cells #[.int .i64 1] 3)).drew w.heap.size (w.heap.size + 1) := by
  have h1 := World.alloc_heap_new w (.cells #[.int .i64 1] 3)
  have h2 := World.alloc_heap_new (w.alloc (.cells #[.int .i64 1] 3)) (.cells #[.int .i64 1] 3)
  rw [World.size_alloc] at h2
  exact ⟨by show ((w.alloc _).alloc _).heap.size = _; simp, Nat.le_refl _, by omega, (Below.heap_alloc _ _ _ (by simp)).trans h1, h2, (((Below.refl _ _).alloc (Nat.le_refl _) _).alloc (by simp) _).drew⟩
theorem TwoC.ba (w : World) : TwoC w ((w.alloc (.cells #[.int .i64 1] 3)).alloc (.cells #[.int .i64 1] 3)).drew (w.heap.size + 1) w.heap.size := ⟨(TwoC.ab w).size, (TwoC.ab w).l6, (TwoC.ab w).l5, (TwoC.ab w).b6, (TwoC.ab w).b5, (TwoC.ab w).bel⟩
theorem cell_up {W W' : World} {p : Addr} {v : Value} (hb : Below W.heap.size W W') (h : W.cell? p = some v) : W'.cell? p = some v := (hb.cell (World.block_lt_of_cell? W p h)).trans h
theorem froz_up {W W' : World} {b off : Nat} {v : Value} (hb : Below W.heap.size W W') (h : W.cell? ⟨b, off, none⟩ = some v) (hf : W.frozen? ⟨b, off, none⟩ = false) : W'.frozen? ⟨b, off, none⟩ = false := (froz_below hb (World.block_lt_of_cell? W ⟨b, off, none⟩ h)).trans hf
/-- What the one round reads. -/
structure ChA (w : World) (s rg rcp b off cap g5 g6 : Nat) (W : World) : Prop where
  k0 : W.cell? ⟨w.heap.size, 0, none⟩ = some (.int .i64 1)
  k1 : W.cell? ⟨w.heap.size, 1, none⟩ = some (.slice (some ⟨b, off, none⟩) 1 cap)
  m2 : W.cell? ⟨w.heap.size + 1, 2, none⟩ = some (.slice (some ⟨rg, 0, none⟩) 1 rcp)
  r0 : W.cell? ⟨rg, 0, none⟩ = some (.slice none 0 0)
  c5 : W.cell? ⟨g5, 0, none⟩ = some (.int .i64 1)
  c6 : W.cell? ⟨g6, 0, none⟩ = some (.int .i64 1)
  l0 : W.cell? ⟨s, 0, none⟩ = some (.slice none 0 0)
  l1 : W.cell? ⟨s + 1, 0, none⟩ = some (.slice (some ⟨s, 0, none⟩) 1 1)
  f1 : W.frozen? ⟨s + 1, 0, none⟩ = false
  l4 : W.cell? ⟨s + 1 + 1 + 1 + 1, 0, none⟩ = some (.int .i64 0)
  f4 : W.frozen? ⟨s + 1 + 1 + 1 + 1, 0, none⟩ = false
theorem ChA.kept {w : World} {s rg rcp b off cap g5 g6 : Nat} {W W' : World} {row : Option Nat} (h : ChA w s rg rcp b off cap g5 g6 W) (hg : W.grownBy W' row) (hr : ∀ r, row = some r → ∃ o : Obj, W.heap[r]? = some o ∧ o.isCells = false) : ChA w s rg rcp b off cap g5 g6 W' :=
  ⟨cell_kept h.k0 hg hr, cell_kept h.k1 hg hr, cell_kept h.m2 hg hr, cell_kept h.r0 hg hr, cell_kept h.c5 hg hr, cell_kept h.c6 hg hr, cell_kept h.l0 hg hr, cell_kept h.l1 hg hr, (frozen_kept h.l1 hg hr).trans h.f1, cell_kept h.l4 hg hr, (frozen_kept h.l4 hg hr).trans h.f4⟩
theorem ChA.up {w : World} {s rg rcp b off cap g5 g6 : Nat} {W W' : World} (h : ChA w s rg rcp b off cap g5 g6 W) (hb : Below W.heap.size W W') : ChA w s rg rcp b off cap g5 g6 W' :=
  ⟨cell_up hb h.k0, cell_up hb h.k1, cell_up hb h.m2, cell_up hb h.r0, cell_up hb h.c5, cell_up hb h.c6, cell_up hb h.l0, cell_up hb h.l1, froz_up hb h.l1 h.f1, cell_up hb h.l4, froz_up hb h.l4 h.f4⟩
/-- What it leaves behind. -/
def ChB (s : Nat) (W : World) : Prop := ∃ g cp rb rc, 1 ≤ rc ∧ W.cell? ⟨s + 1, 0, none⟩ = some (.slice (some ⟨g, 0, none⟩) 1 cp) ∧ W.cell? ⟨g, 0, none⟩ = some (.slice (some ⟨rb, 0, none⟩) 1 rc) ∧ W.cell? ⟨rb, 0, none⟩ = some (.int .i64 1)
theorem ChB.kept {s : Nat} {W W' : World} {row : Option Nat} (h : ChB s W) (hg : W.grownBy W' row) (hr : ∀ r, row = some r → ∃ o : Obj, W.heap[r]? = some o ∧ o.isCells = false) : ChB s W' := by
  obtain ⟨g, cp, rb, rc, h0, h1, h2, h3⟩ := h
  exact ⟨g, cp, rb, rc, h0, cell_kept h1 hg hr, cell_kept h2 hg hr, cell_kept h3 hg hr⟩
/-- The world ahead of the loop. -/
theorem chA_new {w W2 W3 : World} {rg rcp b off cap g5 g6 : Nat} (k0 : W2.cell? ⟨w.heap.size, 0, none⟩ = some (.int .i64 1)) (k1 : W2.cell? ⟨w.heap.size, 1, none⟩ = some (.slice (some ⟨b, off, none⟩) 1 cap)) (m2 : W2.cell? ⟨w.heap.size + 1, 2, none⟩ = some (.slice (some ⟨rg, 0, none⟩) 1 rcp)) (r0 : W2.cell? ⟨rg, 0, none⟩ = some (.slice none 0 0)) (T : TwoC W2 W3 g5 g6) :
    ChA w W3.heap.size rg rcp b off cap g5 g6 (((((W3.alloc (.cells #[.slice none 0 0] 31)).alloc (.cells #[.slice (some ⟨W3.heap.size, 0, none⟩) 1 1] 25)).alloc (.cells #[.int .i64 1] 3)).alloc (.cells #[.slice (some ⟨W3.heap.size + 1 + 1, 0, none⟩) 1 1] 31)).alloc (.cells #[.int .i64 0] 3)) := by
  have hb := T.bel
  have x5 := (box_oneG T.b5).1
  have x6 := (box_oneG T.b6).1
  have y0 := cell_up hb k0
  have y1 := cell_up hb k1
  have y2 := cell_up hb m2
  have y3 := cell_up hb r0
  have z0 := cellN W3 (.slice none 0 0) 31
  have z1 := cellN (W3.alloc (.cells #[.slice none 0 0] 31)) (.slice (some ⟨W3.heap.size, 0, none⟩) 1 1) 25
  have z4 := cellN ((((W3.alloc (.cells #[.slice none 0 0] 31)).alloc (.cells #[.slice (some ⟨W3.heap.size, 0, none⟩) 1 1] 25)).alloc (.cells #[.int .i64 1] 3)).alloc (.cells #[.slice (some ⟨W3.heap.size + 1 + 1, 0, none⟩) 1 1] 31)) (.int .i64 0) 3
  simp only [World.size_alloc] at z1 z4
  refine ⟨cellA _ (cellA _ (cellA _ (cellA _ (cellA _ y0)))), cellA _ (cellA _ (cellA _ (cellA _ (cellA _ y1)))), cellA _ (cellA _ (cellA _ (cellA _ (cellA _ y2)))), cellA _ (cellA _ (cellA _ (cellA _ (cellA _ y3)))), cellA _ (cellA _ (cellA _ (cellA _ (cellA _ x5)))), cellA _ (cellA _ (cellA _ (cellA _ (cellA _ x6)))), cellA _ (cellA _ (cellA _ (cellA _ z0.1))), cellA _ (cellA _ (cellA _ z1.1)), frozA _ (cellA _ (cellA _ z1.1)) (frozA _ (cellA _ z1.1) (frozA _ z1.1 z1.2)), z4.1, z4.2⟩
set_option maxRecDepth 100000 in
set_option maxHeartbeats 4000000 in
theorem choices_one (a : Option Addr) (cap rg rcp : Nat) (w : World) (h : Ints w (.slice a 1 cap) (N [1])) (hrg : rg < w.heap.size) (h0 : w.cell? ⟨rg, 0, none⟩ = some (.slice none 0 0)) :
    Calls Try.prog 27 #[.agg #[.int .i64 1, .slice a 1 cap], .agg #[.int .i64 2, .int .i64 0, .slice (some ⟨rg, 0, none⟩) 1 rcp]] w fun e w' => ∃ r, e = .returned r ∧ OneR w' r ∧ Below w.heap.size w w' := by
  have HI := hid h
  obtain ⟨a', cap', e, -, hc⟩ := h
  obtain ⟨b, off, ea, hb, hcl⟩ := hc (by decide)
  have e1 : a' = a := by cases e; rfl
  subst e1
  subst ea
  have c1 : w.cell? ⟨b, off, none⟩ = some (.int .i64 1) := hcl 0 (by decide)
  have b1 := (Below.refl _ w).alloc (Nat.le_refl _) (.cells #[.int .i64 1, .slice (some ⟨b, off, none⟩) 1 cap] 33)
  have x1 := World.alloc_heap_new w (.cells #[.int .i64 1, .slice (some ⟨b, off, none⟩) 1 cap] 33)
  have s1 := World.size_alloc w (.cells #[.int .i64 1, .slice (some ⟨b, off, none⟩) 1 cap] 33)
  obtain ⟨W1, hW1⟩ : ∃ W1, w.alloc (.cells #[.int .i64 1, .slice (some ⟨b, off, none⟩) 1 cap] 33) = W1 := ⟨_, rfl⟩
  rw [hW1] at b1 x1 s1
  have b2 := (Below.refl _ W1).alloc (Nat.le_refl _) (.cells #[.int .i64 2, .int .i64 0, .slice (some ⟨rg, 0, none⟩) 1 rcp] 27)
  have x2 := World.alloc_heap_new W1 (.cells #[.int .i64 2, .int .i64 0, .slice (some ⟨rg, 0, none⟩) 1 rcp] 27)
  have s2 := World.size_alloc W1 (.cells #[.int .i64 2, .int .i64 0, .slice (some ⟨rg, 0, none⟩) 1 rcp] 27)
  rw [s1] at x2 s2
  obtain ⟨W2, hW2⟩ : ∃ W2, W1.alloc (.cells #[.int .i64 2, .int .i64 0, .slice (some ⟨rg, 0, none⟩) 1 rcp] 27) = W2 := ⟨_, rfl⟩
  rw [hW2] at b2 x2 s2
  have X1 := hid ((b2.block _ (by omega)).trans x1)
  have X2 := hid x2
  have B2 := hid (b1.trans (b2.mono b1.size))
  have HS2 := hid s2
  have S1 := hid s1
  obtain ⟨k0, k1, -, -⟩ := two_cells X1.out
  obtain ⟨⟨m0, m1, m2⟩, -⟩ := cells_3 X2.out
  have c2 := (B2.out.cell (p := ⟨b, off, none⟩) hb).trans c1
  have hsh : IntKind.i64.wrap 1 = 1 := by decide
  clear b1 x1 b2 x2 s1 s2 hcl hc e
  refine (callsIn_wide (n := 6)).1 ?_
  refine callsIn_of_wp_marks Try.func27 rfl trivial ?_ rfl
  simp only [Try.ntmps27, List.size_toArray, List.length_cons, List.length_nil, Nat.reduceAdd, Nat.reduceSub, Array.replicate_succ, Array.replicate_zero, List.push_toArray, List.append_toArray, List.nil_append, List.cons_append]
  gi_wp2_with fail
  rw [S1.out]
  clear hW1 hW2
  refine wpIn_wide.2 (wp_mono (Q := fun e a' W' => e = .normal ∧ ∃ g5 g6 u11 u12 u13 u14 u15 u16 u17, a' = { tmps := #[.agg #[.int .i64 1, .slice (some ⟨b, off, none⟩) 1 cap], .agg #[.int .i64 2, .int .i64 0, .slice (some ⟨rg, 0, none⟩) 1 rcp], .pointer (some ⟨w.heap.size, 0, none⟩), .pointer (some ⟨w.heap.size + 1, 0, none⟩), .slice none 0 0, .pointer (some ⟨g5, 0, none⟩), .pointer (some ⟨g6, 0, none⟩), undef, undef, undef, undef, u11, u12, u13, u14, u15, u16, u17, undef, undef, undef, undef, undef, undef, undef, undef, undef, undef, undef, undef, undef, undef, undef, undef, undef, undef, undef, undef, undef, undef, undef, undef, undef, undef, undef, undef, undef, undef, undef, undef, undef, undef, undef, undef, undef], defers := [] } ∧ Hid (TwoC W2 W' g5 g6)) ?_ ?_)
  · go_region_held3 (fun W' => W'.cell? ⟨w.heap.size, 1, none⟩ = some (.slice (some ⟨b, off, none⟩) 1 cap) ∧ W'.cell? ⟨b, off, none⟩ = some (.int .i64 1) ∧ W'.cell? ⟨w.heap.size + 1, 1, none⟩ = some (.int .i64 0)) (go_keep) (fail)
    all_goals first
      | exact ⟨rfl, _, _, _, _, _, _, _, _, _, rfl, TwoC.ab W2⟩
      | exact ⟨rfl, _, _, _, _, _, _, _, _, _, rfl, TwoC.ba W2⟩
  rintro _ _ W3 ⟨rfl, g5, g6, u11, u12, u13, u14, u15, u16, u17, rfl, TC⟩
  have c20 : W2.cell? ⟨rg, 0, none⟩ = some (.slice none 0 0) := (B2.out.cell (p := ⟨rg, 0, none⟩) hrg).trans h0
  have CA := chA_new k0 k1 m2 c20 TC.out
  have hB4 : Below w.heap.size w (((((W3.alloc (.cells #[.slice none 0 0] 31)).alloc (.cells #[.slice (some ⟨W3.heap.size, 0, none⟩) 1 1] 25)).alloc (.cells #[.int .i64 1] 3)).alloc (.cells #[.slice (some ⟨W3.heap.size + 1 + 1, 0, none⟩) 1 1] 31)).alloc (.cells #[.int .i64 0] 3)) := by
    have h1 := B2.out.trans (TC.out.bel.mono B2.out.size)
    have h2 := h1.size
    exact ((((h1.alloc h2 _).alloc (by simp; omega) _).alloc (by simp; omega) _).alloc (by simp; omega) _).alloc (by simp; omega) _
  have hs4 : (((((W3.alloc (.cells #[.slice none 0 0] 31)).alloc (.cells #[.slice (some ⟨W3.heap.size, 0, none⟩) 1 1] 25)).alloc (.cells #[.int .i64 1] 3)).alloc (.cells #[.slice (some ⟨W3.heap.size + 1 + 1, 0, none⟩) 1 1] 31)).alloc (.cells #[.int .i64 0] 3)).heap.size = W3.heap.size + 1 + 1 + 1 + 1 + 1 := by simp
  have hs3 := TC.out.size
  rw [HS2.out] at hs3
  have HS3 := hid hs3
  have HS4 := hid hs4
  clear hs3 hs4
  have q5 := CA.c5
  gi_wp2_with fail
  refine ⟨trivial, ?_⟩
  gi_at_call 42
  refine (callsIn_wide.2 (sing_any 1 _)).mono ?_
  rintro r w3 ⟨rfl, hw3⟩
  obtain rfl := hw3.symm
  clear hw3 q5
  gi_wp2_with fail
  have hs4 := HS4.out
  clear HS4
  revert CA hB4 hs4
  generalize ((((W3.alloc (.cells #[.slice none 0 0] 31)).alloc (.cells #[.slice (some ⟨W3.heap.size, 0, none⟩) 1 1] 25)).alloc (.cells #[.int .i64 1] 3)).alloc (.cells #[.slice (some ⟨W3.heap.size + 1 + 1, 0, none⟩) 1 1] 31)).alloc (.cells #[.int .i64 0] 3) = W4
  intro CA hB4 hs4
  have cS := cellN W4 (.int .i64 1) 3
  have CA5 := CA.up ((Below.refl _ W4).alloc (Nat.le_refl _) (.cells #[.int .i64 1] 3))
  have hB5 : Below w.heap.size w (W4.alloc (.cells #[.int .i64 1] 3)) := hB4.alloc hB4.size _
  have hs5 : (W4.alloc (.cells #[.int .i64 1] 3)).heap.size = W3.heap.size + 1 + 1 + 1 + 1 + 1 + 1 := by rw [World.size_alloc, hs4]
  rw [hs4] at cS
  revert cS CA5 hB5 hs5
  generalize W4.alloc (.cells #[.int .i64 1] 3) = W5
  intro cS CA5 hB5 hs5
  clear CA hB4 hs4
  have hel : ∀ x : El 1, bt x.1 = 1 := fun x => by
    have h1 : x.1 ∈ [0] := x.2
    simp at h1
    rw [h1]; rfl
  refine wpIn_rangeFunc_ownF rfl (by decide) (gf := 59) (lb := #[.pointer (some ⟨W3.heap.size + 1 + 1 + 1 + 1 + 1, 0, none⟩)]) rfl trivial (enters_of Try.func59 (by kernel_rfl) rfl)
    (sing_stopsP 5 (by decide) 1 (W3.heap.size + 1 + 1 + 1 + 1 + 1) (by decide) _ (by omega) cS.1) (fun _ _ => trivial) (fun _ _ _ _ _ _ _ _ => trivial) (Below.refl _ _) (fun _ => rfl)
    (fun pre W => ((pre = [] ∧ ChA w W3.heap.size rg rcp b off cap g5 g6 W) ∨ (pre ≠ [] ∧ ChB W3.heap.size W)) ∧ Below w.heap.size w W ∧ W5.heap.size ≤ W.heap.size)
    (fun _ _ _ => False)
    (OwnFrom.and (Own.from (fun s A B row hs hg hr => by
      rcases hs with ⟨h1, h2⟩ | ⟨h1, h2⟩
      · exact .inl ⟨h1, h2.kept hg hr⟩
      · exact .inr ⟨h1, h2.kept hg hr⟩) _) (OwnFrom.and (ownFrom_below (Nat.le_refl _) hB5.size) (Own.from (fun s A B row hs hg hr => Nat.le_trans hs hg.size) _)))
    (fun _ _ _ _ _ hs _ _ => hs)
    ⟨.inl ⟨rfl, CA5⟩, hB5, Nat.le_refl _⟩
    (fun _ => { tmps := #[.agg #[.int .i64 1, .slice (some ⟨b, off, none⟩) 1 cap], .agg #[.int .i64 2, .int .i64 0, .slice (some ⟨rg, 0, none⟩) 1 rcp], .pointer (some ⟨w.heap.size, 0, none⟩), .pointer (some ⟨w.heap.size + 1, 0, none⟩), .slice none 0 0, .pointer (some ⟨g5, 0, none⟩), .pointer (some ⟨g6, 0, none⟩), .pointer (some ⟨W3.heap.size + 1, 0, none⟩), .pointer (some ⟨W3.heap.size + 1 + 1 + 1, 0, none⟩), .pointer (some ⟨W3.heap.size + 1 + 1 + 1 + 1, 0, none⟩), .int .i64 1, u11, u12, u13, u14, u15, u16, u17, .slice (some ⟨W3.heap.size, 0, none⟩) 1 1, .slice (some ⟨W3.heap.size + 1 + 1, 0, none⟩) 1 1, .int .i64 1, .func (.func 59) #[] #[.pointer (some ⟨W3.heap.size + 1 + 1 + 1 + 1 + 1, 0, none⟩)], .int .i64 1, undef, undef, undef, undef, undef, undef, undef, undef, undef, undef, undef, undef, undef, undef, undef, undef, undef, undef, undef, undef, undef, undef, undef, undef, undef, undef, undef, undef, undef, undef, undef, undef], defers := [] }) ?assign ?body ?done ?stop
  case assign =>
    intro l x W K hK
    dsimp only [enc1]
    rw [hel x]
    gi_wp2
    exact hK
  case body =>
    rintro l' pre x W ⟨hP, hB, hsz⟩ hlen
    have hpre : pre = [] := List.length_eq_zero_iff.1 (Nat.lt_one_iff.1 hlen)
    subst hpre
    rcases hP with ⟨-, CW⟩ | ⟨hne, -⟩
    case inr => exact absurd rfl hne
    have HB := hid hB
    obtain ⟨k0, k1, m2, r0, c5, c6, l0, l1, f1, l4, f4⟩ := CW
    have HCW : Hid (ChA w W3.heap.size rg rcp b off cap g5 g6 W) := ⟨k0, k1, m2, r0, c5, c6, l0, l1, f1, l4, f4⟩
    have HIB : Hid (Calls Try.prog 43 #[.agg #[.int .i64 1, .slice (some ⟨b, off, none⟩) 1 cap], .int .i64 1] W fun e w' => e = .returned (.bool true) ∧ Below W.heap.size W w') := isBasis_any 1 _ (N [1]) 1 W (HI.out.below hB)
    have hbt : bits .andNot .i64 1 1 = 0 := by decide
    have hbo : bits .or .i64 0 1 = 1 := by decide
    clear hB
    gi_wp2_with fail
    refine ⟨trivial, ?_⟩
    gi_at_call 43
    refine (callsIn_wide.2 HIB.out).mono ?_
    rintro r w6 ⟨rfl, hb6⟩
    have HB6 := hid hb6
    have C6 := hid (HCW.out.up hb6)
    clear k0 k1 m2 r0 c5 c6 l0 l1 f1 l4 f4 hb6
    obtain ⟨k0, k1, m2, r0, c5, c6, l0, l1, f1, l4, f4⟩ := C6.out
    gi_wp2_with fail
    refine ⟨trivial, ?_⟩
    gi_at_call 45
    refine (callsIn_wide.2 (fresh_nil w6)).mono ?_
    rintro r w7 ⟨rfl, hw7⟩
    obtain rfl := hw7.symm
    clear hw7
    have xN := cellN w6 (.int .i64 1) 3
    have HB7 : Hid (Below W.heap.size W (w6.alloc (.cells #[.int .i64 1] 3))) := HB6.out.alloc HB6.out.size _
    have C7 := hid (C6.out.up ((Below.refl _ w6).alloc (Nat.le_refl _) (.cells #[.int .i64 1] 3)))
    have hls := World.block_lt_of_cell? _ _ C7.out.l0
    have LEN := hid (lengthened_one W3.heap.size 1 w6.heap.size 1 (w6.alloc (.cells #[.int .i64 1] 3)) hls (by simp) C7.out.l0 xN.1)
    gi_wp2_with fail
    refine ⟨trivial, ?_⟩
    gi_at_call 44
    refine (callsIn_wide.2 LEN.out).mono ?_
    rintro r w8 ⟨r, rfl, ⟨g, cp, rb, rc, rfl, hg1, hrb1, hrc1, hg2, hrb2⟩, hb8⟩
    have C8 := hid (C7.out.up hb8)
    have HB8 := hid (HB7.out.trans (hb8.mono HB7.out.size))
    clear k0 k1 m2 r0 c5 c6 l0 l1 f1 l4 f4 hb8 xN hls
    obtain ⟨k0, k1, m2, r0, c5, c6, l0, l1, f1, l4, f4⟩ := C8.out
    gi_wp2_with fail
    have n1 : (⟨W3.heap.size + 1, 0, none⟩ : Addr) ≠ ⟨g, 0, none⟩ := fun e => by
      rw [← e, l1] at hg2
      have h1 : W3.heap.size = rb := by simpa using congrArg (fun o => match o with | some (Value.slice (some a) _ _) => a.block | _ => 0) hg2
      rw [← h1, l0] at hrb2
      cases hrb2
    have n2 : (⟨W3.heap.size + 1 + 1 + 1 + 1, 0, none⟩ : Addr) ≠ ⟨g, 0, none⟩ := fun e => by
      rw [← e, l4] at hg2
      cases hg2
    have n3 : (⟨W3.heap.size + 1, 0, none⟩ : Addr) ≠ ⟨rb, 0, none⟩ := fun e => by
      rw [← e, l1] at hrb2
      cases hrb2
    have n4 : (⟨W3.heap.size + 1 + 1 + 1 + 1, 0, none⟩ : Addr) ≠ ⟨rb, 0, none⟩ := fun e => by
      rw [← e, l4] at hrb2
      cases hrb2
    have hs3 := HS3.out
    refine ⟨((keeps_below HB8.out).trans (KeepsOthers.setCell _ _ _)).trans (KeepsOthers.setCell _ _ _), trivial, .inr ⟨by simp, g, cp, rb, rc, hrc1, ?_, (World.cell?_setCell_other _ _ _ _ n2).trans ((World.cell?_setCell_other _ _ _ _ n1).trans hg2), (World.cell?_setCell_other _ _ _ _ n4).trans ((World.cell?_setCell_other _ _ _ _ n3).trans hrb2)⟩, ((HB.out.trans (HB8.out.mono HB.out.size)).setCell (p := ⟨W3.heap.size + 1, 0, none⟩) (by show w.heap.size ≤ W3.heap.size + 1; omega) _).setCell (p := ⟨W3.heap.size + 1 + 1 + 1 + 1, 0, none⟩) (by show w.heap.size ≤ W3.heap.size + 1 + 1 + 1 + 1; omega) _, by rw [World.size_setCell, World.size_setCell]; exact Nat.le_trans hsz HB8.out.size⟩
    refine (World.cell?_setCell_other _ _ _ _ (by simp)).trans ?_
    exact World.cell?_setCell_same' _ _ _ (by rw [l1]; rfl)
  case done =>
    rintro D ys W hD hys ⟨hP, hB, hsz⟩ hK
    rcases hP with ⟨rfl, -⟩ | ⟨-, g, cp, rb, rc, hrc1, h1, h2, h3⟩
    · exact absurd hys (by decide)
    have HB := hid hB
    clear hB
    gi_wp2
    refine ⟨by simp, .inl ⟨_, _, rfl, run_takeDeferred hK, ?_⟩⟩
    have hc2 := cell_kept h2 (grownBy_putObj' _ D (.deferred none)) (fun r e => by cases e; exact ⟨_, hK, rfl⟩)
    have hc3 := cell_kept h3 (grownBy_putObj' _ D (.deferred none)) (fun r e => by cases e; exact ⟨_, hK, rfl⟩)
    have hs5' := hB5.size
    refine ⟨.slice (some ⟨g, 0, none⟩) 1 cp, ?_, ⟨_, rfl, ⟨g, cp, rb, rc, rfl, World.block_lt_of_cell? _ _ hc2, World.block_lt_of_cell? _ _ hc3, hrc1, hc2, hc3⟩, HB.out.trans (belowK_b (w := w) (Nat.le_refl _) _ D _ _ (by omega) hK rfl rfl)⟩⟩
    simp [results, Try.f27, go_sem]
  case stop =>
    rintro D c pre W _ _ h _
    exact h.elim
end Go.Proofs.Ytgdcfogikchjeaa
