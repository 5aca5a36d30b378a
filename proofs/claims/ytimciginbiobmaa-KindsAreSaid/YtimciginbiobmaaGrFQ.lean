/- greedy.Fundamental. -/
import Derived.Test.YtimciginbiobmaaGrBQ
namespace Go.Proofs.Ytimciginbiobmaa
open Go.RowKit Go.Shelf
attribute [local go_sem] Oper.semAt_some
theorem newBox (W : World) (x y : Value) (t : TypeId) : Below W.heap.size W ((W.alloc (.cells #[x] t)).setCell ⟨W.heap.size, 0, none⟩ y) ∧ ((W.alloc (.cells #[x] t)).setCell ⟨W.heap.size, 0, none⟩ y).cell? ⟨W.heap.size, 0, none⟩ = some y ∧ ((W.alloc (.cells #[x] t)).setCell ⟨W.heap.size, 0, none⟩ y).frozen? ⟨W.heap.size, 0, none⟩ = false ∧ ((W.alloc (.cells #[x] t)).setCell ⟨W.heap.size, 0, none⟩ y).heap.size = W.heap.size + 1 := by
  have h := cellN W x t
  refine ⟨((Below.refl _ _).alloc (Nat.le_refl _) _).setCell (p := ⟨W.heap.size, 0, none⟩) (Nat.le_refl _) _, World.cell?_setCell_same' _ _ _ (by rw [h.1]; rfl), (World.frozen?_setCell _ _ _ _).trans h.2, by simp⟩
theorem asked_wide (P : Program) (o : Oper) (a : Act) (C : World → Prop) : Oper.askedIn Fence.wide P o a C = True := eq_true fun _ _ _ _ => trivial
attribute [local go_sem] asked_wide
theorem region_quiet_wide {P : Program} {n id : Nat} {Q : Exit → Act → World → Prop} {a : Act} {w : World} {l : List Oper} (hm : P.follows .mixedOrders = true) (hB : Region.lexB .any l.toArray = true)
    (h : wpQuietIn Fence.wide n P l.toArray (fun w' => ∃ n, w' = w.drewN n) (fun a' => ∀ w', (∃ n, w' = w.drewN n) → Q .normal a' w') l a) : (Code.region id l.toArray true).wpIn Fence.wide n P Q a w := by
  simp only [Region.lexB, Bool.and_eq_true] at hB
  refine wpIn_region_any hm (wpAnyIn_of_quiet (C := fun w' => ∃ n, w' = w.drewN n) (Q := fun a' => ∀ w', (∃ n, w' = w.drewN n) → Q .normal a' w') rfl (fun _ w' hw' h => h w' hw') _ _ _ _ ⟨1, rfl⟩ ?_)
  have := wpAnyQIn_lex (F := Fence.wide) (n := n) (C := fun w' => ∃ n, w' = w.drewN n) (md := .any) hB.1 l 0 (Array.replicate l.toArray.size false) a (by simp) (by simpa using hB.2) h
  simpa using this
theorem region_later_round {P : Program} {n l0 id : Nat} {Q : Exit → Act → World → Prop} {a : Act} {w : World} {l : List Oper} (hd : noDefer l = true) (hm : P.follows .mixedOrders = true) (hB : Region.lexB .any l.toArray = true)
    (h : wpQuietIn Fence.wide n P l.toArray (fun w' => ∃ x : Later w, w' = x.now) (fun a' => ∀ w', (∃ x : Later w, w' = x.now) → Q .normal a' w') l a) : (Code.region id l.toArray true).wpIn (Fence.wide.inRound l0) n P Q a w := by
  simp only [Region.lexB, Bool.and_eq_true] at hB
  refine wpIn_region_any hm (any_round hd _ _ _ _ (wpAnyIn_of_quiet (C := fun w' => ∃ x : Later w, w' = x.now) (Q := fun a' => ∀ w', (∃ x : Later w, w' = x.now) → Q .normal a' w') rfl (fun _ w' hw' h => h w' hw') _ _ _ _ ⟨⟨_, (Below.refl _ _).drew⟩, rfl⟩ ?_))
  have := wpAnyQIn_lex (F := Fence.wide) (n := n) (C := fun w' => ∃ x : Later w, w' = x.now) (md := .any) hB.1 l 0 (Array.replicate l.toArray.size false) a (by simp) (by simpa using hB.2) h
  simpa using this
theorem cb_mk {m : Nat} {l ys : List Nat} (hm : m ≤ 8) (hf : Fam m l) (hb : Bas l) (hy : ∀ y ∈ ys, y ∈ l) : cbR m (N l) (N ys) = 0 := by
  unfold cbR
  rw [if_neg (by rw [chk_mk hm hf hb]; simp), if_pos]
  rw [List.all_eq_true]
  intro y h
  unfold N at h
  rw [List.mem_map] at h
  obtain ⟨x, hx, rfl⟩ := h
  rw [memZ_N]
  unfold memB
  simpa using hy x hx
set_option maxRecDepth 100000 in
set_option maxHeartbeats 2000000 in
theorem Fund_ok (m : Nat) (l : List Nat) (b i : Nat) (v : Value) (w : World) (h : Ints w v (N l)) (hm : m ≤ 8) (hf : Fam m l) (hbs : Bas l) (hbl : b ∈ l) (hi : i < m) (hbi : b.testBit i = false) :
    Calls Try.prog 41 #[.agg #[.int .i64 m, v], .int .i64 b, .int .i64 i] w fun e w' => e = .returned (.tuple #[.int .i64 (fund l b i : Nat), .int .i64 0]) ∧ Below w.heap.size w w' := by
  have hb8 : b < 256 := hbs.lt b hbl
  have hB0 : Below w.heap.size w ((((w.alloc (.cells #[.int .i64 m, v] 34)).alloc (.cells #[.int .i64 b] 3)).alloc (.cells #[.int .i64 i] 3)).alloc (.cells #[.int .i64 b] 3)) := ((((Below.refl _ w).alloc (Nat.le_refl _) _).alloc (by simp) _).alloc (by simp; omega) _).alloc (by simp; omega) _
  have HV := hid (h.below hB0)
  have HLIT := hid (Ints.lit1 (((w.alloc (.cells #[.int .i64 m, v] 34)).alloc (.cells #[.int .i64 b] 3)).alloc (.cells #[.int .i64 i] 3)) b)
  simp only [World.size_alloc] at HLIT
  have c0 := two_cells (World.alloc_heap_new w (.cells #[.int .i64 m, v] 34))
  have c1 := cellN (w.alloc (.cells #[.int .i64 m, v] 34)) (.int .i64 b) 3
  have c2 := cellN ((w.alloc (.cells #[.int .i64 m, v] 34)).alloc (.cells #[.int .i64 b] 3)) (.int .i64 i) 3
  simp only [World.size_alloc] at c1 c2
  have d0 := cellA (.cells #[.int .i64 b] 3) (cellA (.cells #[.int .i64 i] 3) (cellA (.cells #[.int .i64 b] 3) c0.1))
  have d0' := cellA (.cells #[.int .i64 b] 3) (cellA (.cells #[.int .i64 i] 3) (cellA (.cells #[.int .i64 b] 3) c0.2.1))
  have d1 := cellA (.cells #[.int .i64 b] 3) (cellA (.cells #[.int .i64 i] 3) c1.1)
  have d2 := cellA (.cells #[.int .i64 b] 3) c2.1
  have hsz : ((((w.alloc (.cells #[.int .i64 m, v] 34)).alloc (.cells #[.int .i64 b] 3)).alloc (.cells #[.int .i64 i] 3)).alloc (.cells #[.int .i64 b] 3)).heap.size = w.heap.size + 4 := by simp
  obtain ⟨a, cap, rfl, _, _⟩ := h
  refine (callsIn_wide (n := 6)).1 ?_
  refine callsIn_of_wp_marks Try.func41 rfl trivial ?_ rfl
  simp only [Try.ntmps41, List.size_toArray, List.length_cons, List.length_nil, Nat.reduceAdd, Nat.reduceSub, Array.replicate_succ, Array.replicate_zero, List.push_toArray, List.append_toArray, List.nil_append, List.cons_append]
  gi_wp2
  revert hB0 HV HLIT d0 d0' d1 d2 hsz
  clear c0 c1 c2
  generalize ((((w.alloc (.cells #[.int .i64 m, .slice a (N l).length cap] 34)).alloc (.cells #[.int .i64 b] 3)).alloc (.cells #[.int .i64 i] 3)).alloc (.cells #[.int .i64 b] 3)) = W0
  intro hB0 HV HLIT d0 d0' d1 d2 hsz
  have CB : Hid (cbR m (N l) [(b : Int)] = 0) := cb_mk (ys := [b]) hm hf hbs (by simpa using hbl)
  refine ⟨trivial, (callsIn_wide.2 (checkBases_any m _ (N l) _ [(b : Int)] W0 HV.out HLIT.out)).mono ?_⟩
  rw [CB.out]
  rintro e w1 ⟨rfl, hb1⟩
  have hB1 := hB0.trans (hb1.mono (by omega))
  have e0 := (hb1.cell (p := ⟨w.heap.size, 0, none⟩) (by show w.heap.size < _; omega)).trans d0
  have e0' := (hb1.cell (p := ⟨w.heap.size, 1, none⟩) (by show w.heap.size < _; omega)).trans d0'
  have e1 := (hb1.cell (p := ⟨w.heap.size + 1, 0, none⟩) (by show w.heap.size + 1 < _; omega)).trans d1
  have e2 := (hb1.cell (p := ⟨w.heap.size + 1 + 1, 0, none⟩) (by show w.heap.size + 1 + 1 < _; omega)).trans d2
  have HV1 := hid (HV.out.below hb1)
  have hs1 := hb1.size
  have hi1 : decide ((i : Int) < 0) = false := by rw [decide_eq_false_iff_not]; omega
  have hi2 : decide ((m : Int) ≤ (i : Int)) = false := by rw [decide_eq_false_iff_not]; omega
  have hi2' : decide (m ≤ i) = false := by rw [decide_eq_false_iff_not]; omega
  have hi3 : wrap64 (2 ^ i) = ((bt i : Nat) : Int) := (pow_wrap i (by omega)).1
  have hbt := bt_lt (i := i) (by omega)
  have hsub : subB (bt i) b = false := by
    rw [Bool.eq_false_iff]
    intro hh
    have := subB_iff.1 hh i (by unfold bt; rw [Nat.testBit_two_pow]; simp)
    rw [hbi] at this
    cases this
  have HWI := hid (fun w => within_any (bt i) b w hbt hb8)
  rw [hsub] at HWI
  gi_wp2
  refine region_quiet_wide (by kernel_rfl) (by kernel_rfl) ?_
  repeat (gi_big_quiet_step (fail))
  rw [hi3]
  refine BigFrame.wpQuietIn_want (by rw [asked_wide]; trivial) rfl ?_
  intro K hK
  gi_big_quiet_op
  apply Exists.intro
  refine ⟨fun _ => ?_, ?_⟩
  · gi_at_call 82
    refine (callsIn_wide.2 (HWI.out _)).mono ?_
    rintro e w' ⟨rfl, rfl⟩
    exact ⟨rfl, _, rfl⟩
  go_big_quiet_on
  repeat (gi_big_quiet_step (fail))
  refine wpQuietIn_nil ?_
  intro _ hw'
  obtain ⟨nq, hw''⟩ := hw'
  subst hw''
  obtain ⟨n1, n2, n3, n4⟩ := newBox (w1.drewN nq) (.int .i64 0) (.int .i64 (bt i : Nat)) 3
  have q1 : ((w1.drewN nq).alloc (.cells #[.int .i64 0] 3)).cell? ⟨w1.heap.size, 0, none⟩ = some (.int .i64 0) := (cellN (w1.drewN nq) (.int .i64 0) 3).1
  have q2 : ((w1.drewN nq).alloc (.cells #[.int .i64 0] 3)).frozen? ⟨w1.heap.size, 0, none⟩ = false := (cellN (w1.drewN nq) (.int .i64 0) 3).2
  have n1' : Below w1.heap.size w1 (((w1.drewN nq).alloc (.cells #[.int .i64 0] 3)).setCell ⟨w1.heap.size, 0, none⟩ (.int .i64 (bt i : Nat))) := (drewN_below _ _ _).trans n1
  have n2' : (((w1.drewN nq).alloc (.cells #[.int .i64 0] 3)).setCell ⟨w1.heap.size, 0, none⟩ (.int .i64 (bt i : Nat))).cell? ⟨w1.heap.size, 0, none⟩ = some (.int .i64 (bt i : Nat)) := n2
  have n3' : (((w1.drewN nq).alloc (.cells #[.int .i64 0] 3)).setCell ⟨w1.heap.size, 0, none⟩ (.int .i64 (bt i : Nat))).frozen? ⟨w1.heap.size, 0, none⟩ = false := n3
  have n4' : (((w1.drewN nq).alloc (.cells #[.int .i64 0] 3)).setCell ⟨w1.heap.size, 0, none⟩ (.int .i64 (bt i : Nat))).heap.size = w1.heap.size + 1 := n4
  have g1 := (n1'.cell (p := ⟨w.heap.size + 1, 0, none⟩) (by show w.heap.size + 1 < _; omega)).trans e1
  clear n1 n2 n3 n4
  gi_wp2_with (refine ⟨trivial, ?_⟩; gi_at_call 87; refine (callsIn_wide.2 (sing_any b _)).mono ?_; rintro e w' ⟨rfl, rfl⟩)
  have hB2 : Below w.heap.size w (((w1.drewN nq).alloc (.cells #[.int .i64 0] 3)).setCell ⟨w1.heap.size, 0, none⟩ (.int .i64 (bt i : Nat))) := hB1.trans (n1'.mono (by omega))
  revert n1' n2' n3' n4' g1 hB2
  clear q1 q2
  generalize ((w1.drewN nq).alloc (.cells #[.int .i64 0] 3)).setCell ⟨w1.heap.size, 0, none⟩ (.int .i64 (bt i : Nat)) = W2
  intro n1' n2' n3' n4' g1 hB2
  have hx3 : (W2.alloc (.cells #[.int .i64 b] 3)).cell? ⟨w1.heap.size + 1, 0, none⟩ = some (.int .i64 b) := by
    have := (cellN W2 (.int .i64 b) 3).1
    rwa [n4'] at this
  have hx2 := cellA (.cells #[.int .i64 b] 3) n2'
  have hf2 := frozA (.cells #[.int .i64 b] 3) n2' n3'
  have hB3 : Below w.heap.size w (W2.alloc (.cells #[.int .i64 b] 3)) := hB2.alloc (by omega) _
  have hK3 : Below w1.heap.size w1 (W2.alloc (.cells #[.int .i64 b] 3)) := n1'.alloc (by omega) _
  have hs3 : (W2.alloc (.cells #[.int .i64 b] 3)).heap.size = w1.heap.size + 2 := by simp [n4']
  revert hx3 hx2 hf2 hB3 hK3 hs3
  generalize W2.alloc (.cells #[.int .i64 b] 3) = W3
  intro hx3 hx2 hf2 hB3 hK3 hs3
  clear n1' n2' n3' n4' g1 hB2
  refine wpIn_rangeFunc_ownF rfl (by decide) (gf := 103) (lb := #[.pointer (some ⟨w1.heap.size + 1, 0, none⟩)]) rfl trivial (enters_of Try.func103 (by kernel_rfl) rfl)
    (sing_stops 5 (by decide) b (w1.heap.size + 1) hb8 _ (by omega) hx3) (fun _ _ => trivial) (fun _ _ _ _ _ _ _ _ => trivial) (Below.refl _ _) (fun _ => rfl)
    (fun pre W => (W.cell? ⟨w1.heap.size, 0, none⟩ = some (.int .i64 (fundTo l b i (pre.map (·.1)) : Nat)) ∧ W.frozen? ⟨w1.heap.size, 0, none⟩ = false) ∧ Below w1.heap.size W3 W)
    (fun _ _ _ => False)
    (OwnFrom.and (Own.from (fun s A B row hs hg hr => ⟨cell_kept hs.1 hg hr, (frozen_kept hs.1 hg hr).trans hs.2⟩) _) (ownFrom_below (by omega) (by omega)))
    (fun _ _ _ _ _ hs _ _ => hs)
    ⟨⟨hx2, hf2⟩, Below.refl _ _⟩
    (fun x => { tmps := #[.agg #[.int .i64 m, .slice a (N l).length cap], .int .i64 b, .int .i64 i, .pointer (some ⟨w.heap.size, 0, none⟩), .pointer (some ⟨w.heap.size + 1, 0, none⟩), .pointer (some ⟨w.heap.size + 1 + 1, 0, none⟩), .int .i64 0, .int .i64 0, .int .i64 0, .pointer (some ⟨w1.heap.size, 0, none⟩), .int .i64 (bt x.1 : Nat), .agg #[.int .i64 m, .slice a (N l).length cap], .int .i64 b, .slice (some ⟨w.heap.size + 1 + 1 + 1, 0, none⟩) 1 1, .int .i64 0, .int .i64 0, .bool false, undef, .int .i64 i, .bool false, .bool false, .int .i64 i, .pointer (some ⟨w.heap.size, 0, none⟩), .int .i64 m, .bool false, .bool false, .bool false, .int .i64 i, .int .i64 (bt i : Nat), .int .i64 b, .bool false, .bool false, .int .i64 i, .int .i64 (bt i : Nat), .int .i64 b, .func (.func 103) #[] #[.pointer (some ⟨w1.heap.size + 1, 0, none⟩)], .int .i64 (bt x.1 : Nat), undef, undef, undef, undef, undef, undef, undef, undef, undef, undef, undef, undef], defers := [] }) ?assign ?body ?done ?stop
  case assign =>
    intro l x W K hK
    dsimp only [enc1]
    gi_wp2
    exact hK
  case body =>
    rintro l0 pre x W ⟨⟨hcc, hfc⟩, hB⟩ _
    have hx8 := bt_lt (el_lt x)
    have hsx : bits .andNot .i64 (b : Int) (bt x.1 : Int) = ((dif b (bt x.1) : Nat) : Int) := i64_andNot_nat b (bt x.1) (by omega) (by omega)
    have hd8 : dif b (bt x.1) < 256 := dif_lt hb8
    have hor : bits .or .i64 (dif b (bt x.1) : Int) (bt i : Int) = ((dif b (bt x.1) ||| bt i : Nat) : Int) := i64_or_nat _ _ (by omega) (by omega)
    have hcl8 : fundTo l b i (pre.map (·.1)) < 256 := fundTo_lt l b i (by omega) _ fun j hj => by
      rw [List.mem_map] at hj
      obtain ⟨y, _, rfl⟩ := hj
      exact el_lt y
    have hcx : bits .or .i64 (fundTo l b i (pre.map (·.1)) : Int) (bt x.1 : Int) = ((fundTo l b i (pre.map (·.1)) ||| bt x.1 : Nat) : Int) := i64_or_nat _ (bt x.1) (by omega) (by omega)
    have SN := hid (fundTo_snoc l b i (pre.map (·.1)) x.1)
    have MP : Hid ((pre ++ [x]).map (·.1) = pre.map (·.1) ++ [x.1]) := by show _ = _; simp
    have hBK : Below w1.heap.size w1 W := hK3.trans hB
    have y0 : ∀ z : Later W, z.now.cell? ⟨w.heap.size, 0, none⟩ = some (.int .i64 m) := fun z => (z.kept.cell (p := ⟨w.heap.size, 0, none⟩) (by show w.heap.size < _; have := hBK.size; omega)).trans ((hBK.cell (p := ⟨w.heap.size, 0, none⟩) (by show w.heap.size < _; omega)).trans e0)
    have y0' : ∀ z : Later W, z.now.cell? ⟨w.heap.size, 1, none⟩ = some (.slice a (N l).length cap) := fun z => (z.kept.cell (p := ⟨w.heap.size, 1, none⟩) (by show w.heap.size < _; have := hBK.size; omega)).trans ((hBK.cell (p := ⟨w.heap.size, 1, none⟩) (by show w.heap.size < _; omega)).trans e0')
    have y1 : ∀ z : Later W, z.now.cell? ⟨w.heap.size + 1, 0, none⟩ = some (.int .i64 b) := fun z => (z.kept.cell (p := ⟨w.heap.size + 1, 0, none⟩) (by show w.heap.size + 1 < _; have := hBK.size; omega)).trans ((hBK.cell (p := ⟨w.heap.size + 1, 0, none⟩) (by show w.heap.size + 1 < _; omega)).trans e1)
    have y2 : ∀ z : Later W, z.now.cell? ⟨w.heap.size + 1 + 1, 0, none⟩ = some (.int .i64 i) := fun z => (z.kept.cell (p := ⟨w.heap.size + 1 + 1, 0, none⟩) (by show w.heap.size + 1 + 1 < _; have := hBK.size; omega)).trans ((hBK.cell (p := ⟨w.heap.size + 1 + 1, 0, none⟩) (by show w.heap.size + 1 + 1 < _; omega)).trans e2)
    have HIB := hid (fun z : Later W => isBasis_any m _ (N l) ((dif b (bt x.1) ||| bt i : Nat) : Int) z.now ((HV1.out.below hBK).below (Below.trans (Below.refl _ _) z.kept)))
    have HB := hid hB
    have hws : W.heap.size ≥ w1.heap.size + 2 := by have := hB.size; omega
    clear hB hBK
    have MB : Hid (memZ ((dif b (bt x.1) ||| bt i : Nat) : Int) (N l) = memB (rm b x.1 ||| 2 ^ i) l) := memZ_N _ _
    have HQ0 := hid (rfl : memB (rm b x.1 ||| 2 ^ i) l = memB (rm b x.1 ||| 2 ^ i) l)
    generalize fundTo l b i (pre.map (·.1)) = q at *
    generalize (dif b (bt x.1)) ||| bt i = z at *
    rcases hq : memB (rm b x.1 ||| 2 ^ i) l with _ | _
    · rw [hq] at MB
      rw [hq] at SN
      rw [MB.out] at HIB
      gi_wp2
      refine region_later_round (by kernel_rfl) (by kernel_rfl) (by kernel_rfl) ?_
      repeat (gi_big_quiet_step (fail))
      refine BigFrame.wpQuietIn_want (by rw [asked_wide]; trivial) rfl ?_
      intro K hK
      gi_big_quiet_op
      apply Exists.intro
      refine ⟨fun y => ?_, ?_⟩
      · gi_at_call 85
        refine (callsIn_wide.2 (HIB.out y)).mono ?_
        rintro e w' ⟨rfl, hb9⟩
        exact ⟨rfl, Later.on _ hb9⟩
      go_big_quiet_on
      refine wpQuietIn_nil ?_
      intro w6 hw'
      obtain ⟨⟨y6, hb6⟩, hw''⟩ := hw'
      dsimp only at hw''
      subst hw''
      have hcc6 := (hb6.cell (p := ⟨w1.heap.size, 0, none⟩) (by show w1.heap.size < _; omega)).trans hcc
      have hfc6 := (froz_below hb6 (b := w1.heap.size) (off := 0) (by omega)).trans hfc
      have HB6 := hid hb6
      clear hb6 y0 y0' y1 y2
      gi_wp2
      refine ⟨keeps_below HB6.out, trivial, ⟨?_, hfc6⟩, HB.out.trans (HB6.out.mono (by omega))⟩
      rw [MP.out, SN.out]
      simpa using hcc6
    · rw [hq] at MB
      rw [hq] at SN
      rw [MB.out] at HIB
      gi_wp2
      refine region_later_round (by kernel_rfl) (by kernel_rfl) (by kernel_rfl) ?_
      repeat (gi_big_quiet_step (fail))
      refine BigFrame.wpQuietIn_want (by rw [asked_wide]; trivial) rfl ?_
      intro K hK
      gi_big_quiet_op
      apply Exists.intro
      refine ⟨fun y => ?_, ?_⟩
      · gi_at_call 85
        refine (callsIn_wide.2 (HIB.out y)).mono ?_
        rintro e w' ⟨rfl, hb9⟩
        exact ⟨rfl, Later.on _ hb9⟩
      go_big_quiet_on
      refine wpQuietIn_nil ?_
      intro w6 hw'
      obtain ⟨⟨y6, hb6⟩, hw''⟩ := hw'
      dsimp only at hw''
      subst hw''
      have hcc6 := (hb6.cell (p := ⟨w1.heap.size, 0, none⟩) (by show w1.heap.size < _; omega)).trans hcc
      have hfc6 := (froz_below hb6 (b := w1.heap.size) (off := 0) (by omega)).trans hfc
      have HB6 := hid hb6
      clear hb6 y0 y0' y1 y2
      gi_wp2
      refine ⟨(keeps_below HB6.out).trans (KeepsOthers.setCell _ _ _), trivial, ⟨?_, (World.frozen?_setCell _ _ _ _).trans hfc6⟩, (HB.out.trans (HB6.out.mono (by omega))).setCell (p := ⟨w1.heap.size, 0, none⟩) (Nat.le_refl _) _⟩
      rw [MP.out, SN.out, if_pos trivial]
      exact World.cell?_setCell_same' _ _ _ (by rw [hcc6]; rfl)
  case done =>
    rintro D ys W hD hys ⟨⟨hcc, hfc⟩, hB⟩ hK
    rw [hys] at hcc
    have FD : Hid (fundTo l b i (els b) = fund l b i) := rfl
    rw [FD.out] at hcc
    generalize fund l b i = q at *
    have HB := hid (hB3.trans (hB.mono (by omega)))
    clear hB
    gi_wp2
    refine ⟨by simp, .inl ⟨_, _, rfl, run_takeDeferred hK, ?_⟩⟩
    refine ⟨.tuple #[.int .i64 q, .int .i64 0], ?_, ?_, HB.out.trans (belowK_b (w := w) (Nat.le_refl _) W D _ _ (by omega) hK rfl rfl)⟩
    · simp [results, Try.f41, go_sem]
    · rw [← FD.out]
      rfl
  case stop =>
    rintro D c pre W _ _ h _
    exact h.elim
end Go.Proofs.Ytimciginbiobmaa
