/- tutte.activities. -/
import Derived.Test.YtgfbajkonlaciaaTtAQ
namespace Go.Proofs.Ytgfbajkonlaciaa
open Go.RowKit Go.Shelf
attribute [local go_sem] Oper.semAt_some

def accI (l : List Nat) (b : Nat) (xs : List Nat) : Nat := xs.foldl (fun a e => if (actB l b e && b.testBit e) = true then a ||| 2 ^ e else a) 0
def accO (l : List Nat) (b : Nat) (xs : List Nat) : Nat := xs.foldl (fun a e => if (actB l b e && !b.testBit e) = true then a ||| 2 ^ e else a) 0
theorem accI_snoc (l : List Nat) (b : Nat) (xs : List Nat) (e : Nat) : accI l b (xs ++ [e]) = if (actB l b e && b.testBit e) = true then accI l b xs ||| 2 ^ e else accI l b xs := by
  unfold accI; rw [List.foldl_append]; rfl
theorem accO_snoc (l : List Nat) (b : Nat) (xs : List Nat) (e : Nat) : accO l b (xs ++ [e]) = if (actB l b e && !b.testBit e) = true then accO l b xs ||| 2 ^ e else accO l b xs := by
  unfold accO; rw [List.foldl_append]; rfl
theorem accI_range (l : List Nat) (b : Nat) : ∀ n, accI l b (List.range n) = actI l b n
  | 0 => rfl
  | n + 1 => by rw [List.range_succ, accI_snoc, accI_range l b n]; rfl
theorem accO_range (l : List Nat) (b : Nat) : ∀ n, accO l b (List.range n) = actO l b n
  | 0 => rfl
  | n + 1 => by rw [List.range_succ, accO_snoc, accO_range l b n]; rfl
theorem accI_lt (l : List Nat) (b : Nat) : ∀ (xs : List Nat) (a : Nat), a < 256 → (∀ x ∈ xs, x < 8) → xs.foldl (fun a e => if (actB l b e && b.testBit e) = true then a ||| 2 ^ e else a) a < 256
  | [], a, h, _ => h
  | x :: xs, a, h, k => by
    refine accI_lt l b xs _ ?_ fun y hy => k y (by simp [hy])
    dsimp only
    split
    · exact or_lt h (pow_lt256 (k x (by simp)))
    · exact h
theorem accO_lt (l : List Nat) (b : Nat) : ∀ (xs : List Nat) (a : Nat), a < 256 → (∀ x ∈ xs, x < 8) → xs.foldl (fun a e => if (actB l b e && !b.testBit e) = true then a ||| 2 ^ e else a) a < 256
  | [], a, h, _ => h
  | x :: xs, a, h, k => by
    refine accO_lt l b xs _ ?_ fun y hy => k y (by simp [hy])
    dsimp only
    split
    · exact or_lt h (pow_lt256 (k x (by simp)))
    · exact h
theorem sub_bt (b e : Nat) : subB (bt e) b = b.testBit e := by
  rw [Bool.eq_iff_iff, subB_iff]
  unfold bt
  constructor
  · intro h
    exact h e (by rw [Nat.testBit_two_pow]; simp)
  · intro h i hi
    rw [Nat.testBit_two_pow] at hi
    simp at hi
    rw [← hi]; exact h
/-- The world when activities' blocks are laid. -/
def boxA (w : World) (m v b : Value) : World := (((w.alloc (.cells #[m, v] 24)).alloc (.cells #[b] 3)).alloc (.cells #[.int .i64 0] 3)).alloc (.cells #[.int .i64 0] 3)
theorem boxA_is (w : World) (m v b : Value) : Below w.heap.size w (boxA w m v b) ∧ (boxA w m v b).heap.size = w.heap.size + 4 ∧ (boxA w m v b).heap[w.heap.size]? = some (.cells #[m, v] 24 (0, 0)) ∧ (boxA w m v b).heap[w.heap.size + 1]? = some (.cells #[b] 3 (0, 0)) ∧ (boxA w m v b).heap[w.heap.size + 1 + 1]? = some (.cells #[.int .i64 0] 3 (0, 0)) ∧ (boxA w m v b).heap[w.heap.size + 1 + 1 + 1]? = some (.cells #[.int .i64 0] 3 (0, 0)) := by
  unfold boxA
  refine ⟨((((Below.refl _ w).alloc (Nat.le_refl _) _).alloc (by simp) _).alloc (by simp; omega) _).alloc (by simp; omega) _, by simp, ?_, ?_, ?_, ?_⟩
  · rw [Below.heap_alloc _ _ _ (by simp; omega), Below.heap_alloc _ _ _ (by simp; omega), Below.heap_alloc _ _ _ (by simp)]
    exact World.alloc_heap_new w _
  · rw [Below.heap_alloc _ _ _ (by simp), Below.heap_alloc _ _ _ (by simp)]
    have := World.alloc_heap_new (w.alloc (.cells #[m, v] 24)) (.cells #[b] 3)
    simpa using this
  · rw [Below.heap_alloc _ _ _ (by simp)]
    have := World.alloc_heap_new ((w.alloc (.cells #[m, v] 24)).alloc (.cells #[b] 3)) (.cells #[.int .i64 0] 3)
    simpa using this
  · have := World.alloc_heap_new (((w.alloc (.cells #[m, v] 24)).alloc (.cells #[b] 3)).alloc (.cells #[.int .i64 0] 3)) (.cells #[.int .i64 0] 3)
    simpa using this
set_option maxRecDepth 100000 in
set_option maxHeartbeats 2000000 in
theorem act_any (m : Nat) (v : Value) (l : List Nat) (b : Nat) (w : World) (hm : m ≤ 8) (hb8 : b < 256) (h : Ints w v (N l)) :
    Calls Try.prog 40 #[.agg #[.int .i64 m, v], .int .i64 b] w fun r w' => r = .returned (.tuple #[.int .i64 (actI l b m : Nat), .int .i64 (actO l b m : Nat)]) ∧ Below w.heap.size w w' := by
  obtain ⟨b0, b1, b2, b3, b4, b5⟩ := boxA_is w (.int .i64 m) v (.int .i64 b)
  have HI := hid h
  have c0 := two_cells b2
  have c1 := one_cellT b3
  have c2 := one_cellT b4
  have c3 := one_cellT b5
  obtain ⟨a, cap, rfl, -, -⟩ := h
  unfold boxA at *
  refine (callsIn_wide (n := 6)).1 ?_
  refine callsIn_of_wp_marks Try.func40 rfl trivial ?_ rfl
  simp only [Try.ntmps40, List.size_toArray, List.length_cons, List.length_nil, Nat.reduceAdd, Nat.reduceSub, Array.replicate_succ, Array.replicate_zero, List.push_toArray, List.append_toArray, List.nil_append, List.cons_append]
  gi_wp2_with fail
  refine ⟨trivial, ?_⟩
  gi_at_call 59
  refine (callsIn_wide.2 (wholeSet_any m _ hm)).mono ?_
  rintro r w2 ⟨rfl, hw2⟩
  obtain rfl := hw2.symm
  clear hw2
  gi_wp2_with fail
  refine ⟨trivial, ?_⟩
  gi_at_call 58
  refine (callsIn_wide.2 (sing_any (2 ^ m - 1) _)).mono ?_
  rintro r w3 ⟨rfl, hw3⟩
  obtain rfl := hw3.symm
  clear hw3
  gi_wp2_with fail
  revert b0 b1 b2 b3 b4 b5 c0 c1 c2 c3
  generalize (((w.alloc (.cells #[.int .i64 (m : Int), .slice a (N l).length cap] 24)).alloc (.cells #[.int .i64 b] 3)).alloc (.cells #[.int .i64 0] 3)).alloc (.cells #[.int .i64 0] 3) = W4
  intro b0 b1 b2 b3 b4 b5 c0 c1 c2 c3
  have c5 := cellN W4 (.int .i64 (2 ^ m - 1 : Nat)) 3
  rw [b1] at c5
  have hs5 : (W4.alloc (.cells #[.int .i64 (2 ^ m - 1 : Nat)] 3)).heap.size = w.heap.size + 5 := by simp [b1]
  have hB5 : Below w.heap.size w (W4.alloc (.cells #[.int .i64 (2 ^ m - 1 : Nat)] 3)) := b0.alloc (by omega) _
  have d0 := cellA (.cells #[.int .i64 (2 ^ m - 1 : Nat)] 3) c0.1
  have d0' := cellA (.cells #[.int .i64 (2 ^ m - 1 : Nat)] 3) c0.2.1
  have d1 := cellA (.cells #[.int .i64 (2 ^ m - 1 : Nat)] 3) c1.1
  have d2 := cellA (.cells #[.int .i64 (2 ^ m - 1 : Nat)] 3) c2.1
  have d3 := cellA (.cells #[.int .i64 (2 ^ m - 1 : Nat)] 3) c3.1
  have f2 := frozA (.cells #[.int .i64 (2 ^ m - 1 : Nat)] 3) c2.1 c2.2
  have f3 := frozA (.cells #[.int .i64 (2 ^ m - 1 : Nat)] 3) c3.1 c3.2
  have hfull := lt256 hm (full_lt m)
  revert c5 hs5 hB5 d0 d0' d1 d2 d3 f2 f3
  generalize W4.alloc (.cells #[.int .i64 (2 ^ m - 1 : Nat)] 3) = W5
  intro c5 hs5 hB5 d0 d0' d1 d2 d3 f2 f3
  clear b0 b1 b2 b3 b4 b5 c0 c1 c2 c3
  refine wpIn_rangeFunc_ownF rfl (by decide) (gf := 72) (lb := #[.pointer (some ⟨w.heap.size + 4, 0, none⟩)]) rfl trivial (enters_of Try.func72 (by kernel_rfl) rfl)
    (sing_stops 5 (by decide) (2 ^ m - 1) (w.heap.size + 4) hfull _ (by omega) c5.1) (fun _ _ => trivial) (fun _ _ _ _ _ _ _ _ => trivial) (Below.refl _ _) (fun _ => rfl)
    (fun pre W => (W.cell? ⟨w.heap.size, 0, none⟩ = some (.int .i64 m) ∧ W.cell? ⟨w.heap.size, 1, none⟩ = some (.slice a (N l).length cap) ∧ W.cell? ⟨w.heap.size + 1, 0, none⟩ = some (.int .i64 b) ∧ (W.cell? ⟨w.heap.size + 1 + 1, 0, none⟩ = some (.int .i64 (accI l b (pre.map (·.1)) : Nat)) ∧ W.frozen? ⟨w.heap.size + 1 + 1, 0, none⟩ = false) ∧ W.cell? ⟨w.heap.size + 1 + 1 + 1, 0, none⟩ = some (.int .i64 (accO l b (pre.map (·.1)) : Nat)) ∧ W.frozen? ⟨w.heap.size + 1 + 1 + 1, 0, none⟩ = false) ∧ Below w.heap.size w W ∧ W5.heap.size ≤ W.heap.size)
    (fun _ _ _ => False)
    (OwnFrom.and (Own.from (fun s A B row hs hg hr => ⟨cell_kept hs.1 hg hr, cell_kept hs.2.1 hg hr, cell_kept hs.2.2.1 hg hr, ⟨cell_kept hs.2.2.2.1.1 hg hr, (frozen_kept hs.2.2.2.1.1 hg hr).trans hs.2.2.2.1.2⟩, cell_kept hs.2.2.2.2.1 hg hr, (frozen_kept hs.2.2.2.2.1 hg hr).trans hs.2.2.2.2.2⟩) _) (OwnFrom.and (ownFrom_below (Nat.le_refl _) (by omega)) (Own.from (fun s A B row hs hg hr => Nat.le_trans hs hg.size) _)))
    (fun _ _ _ _ _ hs _ _ => hs)
    ⟨⟨d0, d0', d1, ⟨d2, f2⟩, d3, f3⟩, hB5, Nat.le_refl _⟩
    (fun x => { tmps := #[.agg #[.int .i64 m, .slice a (N l).length cap], .int .i64 b, .pointer (some ⟨w.heap.size, 0, none⟩), .pointer (some ⟨w.heap.size + 1, 0, none⟩), .pointer (some ⟨w.heap.size + 1 + 1, 0, none⟩), .pointer (some ⟨w.heap.size + 1 + 1 + 1, 0, none⟩), .int .i64 (bt x.1 : Nat), .pointer (some ⟨w.heap.size, 0, none⟩), .int .i64 m, .int .i64 (2 ^ m - 1 : Nat), .func (.func 72) #[] #[.pointer (some ⟨w.heap.size + 4, 0, none⟩)], .int .i64 (bt x.1 : Nat), undef, undef, undef, undef, undef, undef, undef, undef, undef, undef, undef, undef, undef, undef, undef, undef, undef], defers := [] }) ?assign ?body ?done ?stop
  case assign =>
    intro l x W K hK
    dsimp only [enc1]
    gi_wp2
    exact hK
  case body =>
    rintro l' pre x W ⟨⟨y0, y0', y1, ⟨y2, g2⟩, y3, g3⟩, hB, hsz⟩ _
    have hx := el_below hm x
    have hx8 := bt_lt (i := x.1) (by omega)
    have h8 : ∀ y ∈ pre.map (·.1), y < 8 := fun y hy => by
      rw [List.mem_map] at hy
      obtain ⟨z, _, rfl⟩ := hy
      have := el_below hm z
      omega
    have hI8 : accI l b (pre.map (·.1)) < 256 := accI_lt l b _ 0 (by omega) h8
    have hO8 : accO l b (pre.map (·.1)) < 256 := accO_lt l b _ 0 (by omega) h8
    have hcI : bits .or .i64 (accI l b (pre.map (·.1)) : Int) (bt x.1 : Int) = ((accI l b (pre.map (·.1)) ||| bt x.1 : Nat) : Int) := i64_or_nat _ (bt x.1) (by omega) (by omega)
    have hcO : bits .or .i64 (accO l b (pre.map (·.1)) : Int) (bt x.1 : Int) = ((accO l b (pre.map (·.1)) ||| bt x.1 : Nat) : Int) := i64_or_nat _ (bt x.1) (by omega) (by omega)
    have SI := hid (accI_snoc l b (pre.map (·.1)) x.1)
    have SO := hid (accO_snoc l b (pre.map (·.1)) x.1)
    have MP : Hid ((pre ++ [x]).map (·.1) = pre.map (·.1) ++ [x.1]) := by show _ = _; simp
    have CH := hid (chg_any m _ l b x.1 W hb8 (by omega) (HI.out.below hB))
    have WI := hid (fun w => within_any (bt x.1) b w hx8 hb8)
    rw [sub_bt] at WI
    have HB := hid hB
    have BT : Hid (bt x.1 = 2 ^ x.1) := rfl
    clear hB h8
    generalize accI l b (pre.map (·.1)) = qi at *
    generalize accO l b (pre.map (·.1)) = qo at *
    have KC : Hid (∀ w6, Below W.heap.size W w6 → (w6.cell? ⟨w.heap.size, 0, none⟩ = some (.int .i64 m) ∧ w6.cell? ⟨w.heap.size, 1, none⟩ = some (.slice a (N l).length cap) ∧ w6.cell? ⟨w.heap.size + 1, 0, none⟩ = some (.int .i64 b) ∧ (w6.cell? ⟨w.heap.size + 1 + 1, 0, none⟩ = some (.int .i64 (qi : Nat)) ∧ w6.frozen? ⟨w.heap.size + 1 + 1, 0, none⟩ = false) ∧ w6.cell? ⟨w.heap.size + 1 + 1 + 1, 0, none⟩ = some (.int .i64 (qo : Nat)) ∧ w6.frozen? ⟨w.heap.size + 1 + 1 + 1, 0, none⟩ = false)) := fun w6 hb6 =>
      ⟨(hb6.cell (p := ⟨w.heap.size, 0, none⟩) (by show w.heap.size < _; omega)).trans y0, (hb6.cell (p := ⟨w.heap.size, 1, none⟩) (by show w.heap.size < _; omega)).trans y0', (hb6.cell (p := ⟨w.heap.size + 1, 0, none⟩) (by show w.heap.size + 1 < _; omega)).trans y1, ⟨(hb6.cell (p := ⟨w.heap.size + 1 + 1, 0, none⟩) (by show w.heap.size + 1 + 1 < _; omega)).trans y2, (froz_below hb6 (b := w.heap.size + 1 + 1) (off := 0) (by omega)).trans g2⟩, (hb6.cell (p := ⟨w.heap.size + 1 + 1 + 1, 0, none⟩) (by show w.heap.size + 1 + 1 + 1 < _; omega)).trans y3, (froz_below hb6 (b := w.heap.size + 1 + 1 + 1) (off := 0) (by omega)).trans g3⟩
    clear y2 g2 y3 g3
    rcases hq : actB l b x.1 with _ | _
    · rw [hq] at CH SI SO
      clear hq
      gi_wp2_with fail
      refine ⟨trivial, ?_⟩
      gi_at_call 60
      refine (callsIn_wide.2 CH.out).mono ?_
      rintro r w6 ⟨rfl, hb6⟩
      have KK := hid (KC.out w6 hb6)
      have HB6 := hid hb6
      clear hb6 KC y0 y0' y1
      gi_wp2
      refine ⟨keeps_below HB6.out, trivial, ?_, HB.out.trans (HB6.out.mono (HB.out.size)), Nat.le_trans hsz HB6.out.size⟩
      rw [MP.out, SI.out, SO.out]
      exact KK.out
    · rw [hq] at CH SI SO
      clear hq
      rcases hr : b.testBit x.1 with _ | _
      · rw [hr] at WI SI SO
        clear hr
        gi_wp2_with fail
        refine ⟨trivial, ?_⟩
        gi_at_call 60
        refine (callsIn_wide.2 CH.out).mono ?_
        rintro r w6 ⟨rfl, hb6⟩
        obtain ⟨z0, z0', z1, ⟨z2, k2⟩, z3, k3⟩ := KC.out w6 hb6
        have HB6 := hid hb6
        clear hb6 KC y0 y0' y1
        gi_wp2_with fail
        refine ⟨trivial, ?_⟩
        gi_at_call 29
        refine (callsIn_wide.2 (WI.out _)).mono ?_
        rintro r w7 ⟨rfl, hw7⟩
        obtain rfl := hw7.symm
        clear hw7
        gi_wp2
        refine ⟨(keeps_below HB6.out).trans (KeepsOthers.setCell _ _ _), trivial, ?_, (HB.out.trans (HB6.out.mono (HB.out.size))).setCell (p := ⟨w.heap.size + 1 + 1 + 1, 0, none⟩) (by show w.heap.size ≤ w.heap.size + 1 + 1 + 1; omega) _, by rw [World.size_setCell]; exact Nat.le_trans hsz HB6.out.size⟩
        rw [MP.out, SI.out, SO.out]
        refine ⟨(World.cell?_setCell_other _ _ _ _ (by simp)).trans z0, (World.cell?_setCell_other _ _ _ _ (by simp)).trans z0', (World.cell?_setCell_other _ _ _ _ (by simp)).trans z1, ⟨(World.cell?_setCell_other _ _ _ _ (by simp)).trans z2, (World.frozen?_setCell _ _ _ _).trans k2⟩, ?_, (World.frozen?_setCell _ _ _ _).trans k3⟩
        exact World.cell?_setCell_same' _ _ _ (by rw [z3]; rfl)
      · rw [hr] at WI SI SO
        clear hr
        gi_wp2_with fail
        refine ⟨trivial, ?_⟩
        gi_at_call 60
        refine (callsIn_wide.2 CH.out).mono ?_
        rintro r w6 ⟨rfl, hb6⟩
        obtain ⟨z0, z0', z1, ⟨z2, k2⟩, z3, k3⟩ := KC.out w6 hb6
        have HB6 := hid hb6
        clear hb6 KC y0 y0' y1
        gi_wp2_with fail
        refine ⟨trivial, ?_⟩
        gi_at_call 29
        refine (callsIn_wide.2 (WI.out _)).mono ?_
        rintro r w7 ⟨rfl, hw7⟩
        obtain rfl := hw7.symm
        clear hw7
        gi_wp2
        refine ⟨(keeps_below HB6.out).trans (KeepsOthers.setCell _ _ _), trivial, ?_, (HB.out.trans (HB6.out.mono (HB.out.size))).setCell (p := ⟨w.heap.size + 1 + 1, 0, none⟩) (by show w.heap.size ≤ w.heap.size + 1 + 1; omega) _, by rw [World.size_setCell]; exact Nat.le_trans hsz HB6.out.size⟩
        rw [MP.out, SI.out, SO.out]
        refine ⟨(World.cell?_setCell_other _ _ _ _ (by simp)).trans z0, (World.cell?_setCell_other _ _ _ _ (by simp)).trans z0', (World.cell?_setCell_other _ _ _ _ (by simp)).trans z1, ⟨?_, (World.frozen?_setCell _ _ _ _).trans k2⟩, (World.cell?_setCell_other _ _ _ _ (by simp)).trans z3, (World.frozen?_setCell _ _ _ _).trans k3⟩
        exact World.cell?_setCell_same' _ _ _ (by rw [z2]; rfl)
  case done =>
    rintro D ys W hD hys ⟨⟨y0, y0', y1, ⟨y2, g2⟩, y3, g3⟩, hB, hsz⟩ hK
    obtain ⟨qi, EI⟩ : ∃ qi, Hid (actI l b m = qi) := ⟨_, rfl⟩
    obtain ⟨qo, EO⟩ : ∃ qo, Hid (actO l b m = qo) := ⟨_, rfl⟩
    rw [hys, elsB_full m hm, accI_range, EI.out] at y2
    rw [hys, elsB_full m hm, accO_range, EO.out] at y3
    have HB := hid hB
    clear hB
    gi_wp2
    refine wpIn_wide.2 ?_
    go_region
    have q1 : ((W.setCell ⟨w.heap.size + 1 + 1, 0, none⟩ (.int .i64 (qi : Nat))).setCell ⟨w.heap.size + 1 + 1 + 1, 0, none⟩ (.int .i64 (qo : Nat))).drew.cell? ⟨w.heap.size + 1 + 1, 0, none⟩ = some (.int .i64 (qi : Nat)) := by
      show ((W.setCell ⟨w.heap.size + 1 + 1, 0, none⟩ (.int .i64 (qi : Nat))).setCell ⟨w.heap.size + 1 + 1 + 1, 0, none⟩ (.int .i64 (qo : Nat))).cell? ⟨w.heap.size + 1 + 1, 0, none⟩ = _
      refine (World.cell?_setCell_other _ _ _ _ (by simp)).trans ?_
      exact World.cell?_setCell_same' _ _ _ (by rw [y2]; rfl)
    have q2 : ((W.setCell ⟨w.heap.size + 1 + 1, 0, none⟩ (.int .i64 (qi : Nat))).setCell ⟨w.heap.size + 1 + 1 + 1, 0, none⟩ (.int .i64 (qo : Nat))).drew.cell? ⟨w.heap.size + 1 + 1 + 1, 0, none⟩ = some (.int .i64 (qo : Nat)) := by
      show ((W.setCell ⟨w.heap.size + 1 + 1, 0, none⟩ (.int .i64 (qi : Nat))).setCell ⟨w.heap.size + 1 + 1 + 1, 0, none⟩ (.int .i64 (qo : Nat))).cell? ⟨w.heap.size + 1 + 1 + 1, 0, none⟩ = _
      refine World.cell?_setCell_same' _ _ _ ?_
      rw [World.cell?_setCell_other _ _ _ _ (by simp), y3]
      rfl
    have hBF : Below w.heap.size w ((W.setCell ⟨w.heap.size + 1 + 1, 0, none⟩ (.int .i64 (qi : Nat))).setCell ⟨w.heap.size + 1 + 1 + 1, 0, none⟩ (.int .i64 (qo : Nat))).drew := ((HB.out.setCell (p := ⟨w.heap.size + 1 + 1, 0, none⟩) (by show w.heap.size ≤ w.heap.size + 1 + 1; omega) _).setCell (p := ⟨w.heap.size + 1 + 1 + 1, 0, none⟩) (by show w.heap.size ≤ w.heap.size + 1 + 1 + 1; omega) _).drew
    have hK1 := (KeepsOthers.setCell W ⟨w.heap.size + 1 + 1, 0, none⟩ (.int .i64 (qi : Nat))).same D _ hK rfl
    have hK' : ((W.setCell ⟨w.heap.size + 1 + 1, 0, none⟩ (.int .i64 (qi : Nat))).setCell ⟨w.heap.size + 1 + 1 + 1, 0, none⟩ (.int .i64 (qo : Nat))).drew.heap[D]? = _ := (KeepsOthers.setCell (W.setCell ⟨w.heap.size + 1 + 1, 0, none⟩ (.int .i64 (qi : Nat))) ⟨w.heap.size + 1 + 1 + 1, 0, none⟩ (.int .i64 (qo : Nat))).same D _ hK1 rfl
    revert q1 q2 hBF hK'
    generalize ((W.setCell ⟨w.heap.size + 1 + 1, 0, none⟩ (.int .i64 (qi : Nat))).setCell ⟨w.heap.size + 1 + 1 + 1, 0, none⟩ (.int .i64 (qo : Nat))).drew = W9
    intro q1 q2 hBF hK'
    gi_wp2
    refine ⟨by simp, .inl ⟨_, _, rfl, run_takeDeferred hK', ?_⟩⟩
    have hc5 := cell_kept q1 (grownBy_putObj' _ D (.deferred none)) (fun r e => by cases e; exact ⟨_, hK', rfl⟩)
    have hc6 := cell_kept q2 (grownBy_putObj' _ D (.deferred none)) (fun r e => by cases e; exact ⟨_, hK', rfl⟩)
    refine ⟨.tuple #[.int .i64 (qi : Nat), .int .i64 (qo : Nat)], ?_, by rw [EI.out, EO.out], hBF.trans (belowK_b (w := w) (Nat.le_refl _) _ D _ _ (by omega) hK' rfl rfl)⟩
    simp [results, Try.f40, go_sem, hc5, hc6]
  case stop =>
    rintro D c pre W _ _ h _
    exact h.elim
end Go.Proofs.Ytgfbajkonlaciaa
