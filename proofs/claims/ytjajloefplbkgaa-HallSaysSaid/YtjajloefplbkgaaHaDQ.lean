/- hall.least. -/
import Derived.Test.YtjajloefplbkgaaHaCQ
import Derived.Test.YtjajloefplbkgaaIsIndQ
namespace Go.Proofs.Ytjajloefplbkgaa
open Go.RowKit Go.Shelf
attribute [local go_sem] Oper.semAt_some

/-- The world when four blocks are laid. -/
def boxH (w : World) (u t v : Value) : World := (((w.alloc (.cells #[u] 22)).alloc (.cells #[t] 3)).alloc (.cells #[v] 22)).alloc (.cells #[.int .i64 0] 3)
theorem boxH_is (w : World) (u t v : Value) : Below w.heap.size w (boxH w u t v) ∧ (boxH w u t v).heap.size = w.heap.size + 4 ∧ (boxH w u t v).heap[w.heap.size]? = some (.cells #[u] 22 (0, 0)) ∧ (boxH w u t v).heap[w.heap.size + 1]? = some (.cells #[t] 3 (0, 0)) ∧ (boxH w u t v).heap[w.heap.size + 2]? = some (.cells #[v] 22 (0, 0)) ∧ (boxH w u t v).heap[w.heap.size + 3]? = some (.cells #[.int .i64 0] 3 (0, 0)) := by
  unfold boxH
  refine ⟨((((Below.refl _ w).alloc (Nat.le_refl _) _).alloc (by simp) _).alloc (by simp; omega) _).alloc (by simp; omega) _, by simp, ?_, ?_, ?_, ?_⟩
  · rw [Below.heap_alloc _ _ _ (by simp; omega), Below.heap_alloc _ _ _ (by simp; omega), Below.heap_alloc _ _ _ (by simp)]
    exact World.alloc_heap_new w _
  · rw [Below.heap_alloc _ _ _ (by simp), Below.heap_alloc _ _ _ (by simp)]
    have := World.alloc_heap_new (w.alloc (.cells #[u] 22)) (.cells #[t] 3)
    simpa using this
  · rw [Below.heap_alloc _ _ _ (by simp)]
    have := World.alloc_heap_new ((w.alloc (.cells #[u] 22)).alloc (.cells #[t] 3)) (.cells #[v] 22)
    simpa using this
  · have := World.alloc_heap_new (((w.alloc (.cells #[u] 22)).alloc (.cells #[t] 3)).alloc (.cells #[v] 22)) (.cells #[.int .i64 0] 3)
    simpa using this
/-- The element, as a set of its own; or the empty set. -/
def leaV : Option Nat → Nat
  | some i => bt i
  | none => 0
theorem el_in {n c : Nat} (hc : c < 256) (hn : c < 2 ^ n) (x : El c) : x.1 < n := by
  have := (mem_els hc).1 x.2
  refine Classical.byContradiction fun hx => ?_
  rw [Nat.testBit_lt_two_pow (Nat.lt_of_lt_of_le hn (Nat.pow_le_pow_right (by decide) (by omega)))] at this
  cases this
set_option maxRecDepth 100000 in
set_option maxHeartbeats 2000000 in
theorem lea_any (n t s : Nat) (r : Nat → Nat) (u v : Value) (l : List Nat) (w : World) (hn : n ≤ 8) (ht : t < 2 ^ n) (hs : s < 2 ^ n) (hr8 : ∀ i, i < 2 ^ n → r i ≤ 8) (hk8 : l.length ≤ 8) (hl : ∀ x ∈ l, x < 2 ^ n) (hu : RkAt w u (2 ^ n) r) (h : Ints w v (N l)) :
    Calls Try.prog 39 #[u, .int .i64 t, .int .i64 s, v] w fun e w' => e = .returned (.int .i64 (leaV (leaF r t s l) : Nat)) ∧ Below w.heap.size w w' := by
  obtain ⟨b0, b1, b2, b3, b4, b5⟩ := boxH_is w u (.int .i64 t) v
  have HV := hid (h.below b0)
  have HU := hid (hu.below b0)
  have c0 := one_cellT b2
  have c1 := one_cellT b3
  have c2 := one_cellT b4
  have c3 := one_cellT b5
  have hT : 2 ^ n ≤ 256 := Nat.pow_le_pow_right (by decide) hn
  have hD8 : dif s t < 2 ^ n := sub_lt (dif_subl _ _) hs
  have hdn : bits .andNot .i64 (s : Int) (t : Int) = ((dif s t : Nat) : Int) := i64_andNot_nat s t (by omega) (by omega)
  have HLF : Hid (leaF r t s l = (els (dif s t)).find? (leaB r t l)) := rfl
  have HLB : Hid (∀ i, leaB r t l i = ((r (t ||| bt i) == pop (t ||| bt i)) && (barF r (t ||| bt i) l).isNone)) := fun i => rfl
  have HTB : Hid (∀ i, i < n → t ||| bt i < 2 ^ n) := fun i hi => Nat.or_lt_two_pow ht (Nat.pow_lt_pow_right (by decide) hi)
  have BAR := hid (fun t w ht hu h => bar_any n t r u v l w hn ht hr8 hk8 hl hu h)
  have IND := hid (fun s w hs h => isInd_q u (2 ^ n) r s w hT hs h)
  obtain ⟨a, cap, rfl, -, -⟩ := h.nats
  obtain ⟨rb, roff, rcap, rfl, -, -⟩ := hu
  have hD256 : dif s t < 256 := by omega
  have HEL : Hid (∀ x : El (dif s t), x.1 < n) := fun x => el_in hD256 hD8 x
  unfold boxH at *
  clear hl hr8 h
  generalize dif s t = D0 at *
  generalize leaF r t s l = LF at *
  generalize leaB r t l = LB at *
  generalize 2 ^ n = T at *
  refine (callsIn_wide (n := 6)).1 ?_
  refine callsIn_of_wp_marks Try.func39 rfl trivial ?_ rfl
  simp only [Try.ntmps39, List.size_toArray, List.length_cons, List.length_nil, Nat.reduceAdd, Nat.reduceSub, Array.replicate_succ, Array.replicate_zero, List.push_toArray, List.append_toArray, List.nil_append, List.cons_append]
  gi_wp2_with fail
  refine ⟨trivial, ?_⟩
  gi_at_call 43
  refine (callsIn_wide.2 (sing_any D0 _)).mono ?_
  rintro e w3 ⟨rfl, hw3⟩
  obtain rfl := hw3.symm
  clear hw3
  gi_wp2_with fail
  revert b0 b1 b2 b3 b4 b5 HV HU c0 c1 c2 c3
  generalize (((w.alloc (.cells #[.slice (some ⟨rb, roff, none⟩) T rcap] 22)).alloc (.cells #[.int .i64 t] 3)).alloc (.cells #[.slice a l.length cap] 22)).alloc (.cells #[.int .i64 0] 3) = W4
  intro b0 b1 b2 b3 b4 b5 HV HU c0 c1 c2 c3
  have c5 := cellN W4 (.int .i64 D0) 3
  rw [b1] at c5
  have hB5 : Below W4.heap.size W4 (W4.alloc (.cells #[.int .i64 D0] 3)) := (Below.refl _ W4).alloc (Nat.le_refl _) _
  have hs5 : (W4.alloc (.cells #[.int .i64 D0] 3)).heap.size = w.heap.size + 5 := by simp [b1]
  refine wpIn_rangeFunc_ownF rfl (by decide) (gf := 48) (lb := #[.pointer (some ⟨w.heap.size + 4, 0, none⟩)]) rfl trivial (enters_of Try.func48 (by kernel_rfl) rfl)
    (sing_stops 5 (by decide) D0 (w.heap.size + 4) hD256 _ (by omega) c5.1) (fun _ _ => trivial) (fun _ _ _ _ _ _ _ _ => trivial) (Below.refl _ _) (fun _ => rfl)
    (fun pre W => (∀ y ∈ pre, LB y.1 = false) ∧ Below W4.heap.size W4 W)
    (fun c pre W => (c = .ret ∧ (∃ q y, pre = q ++ [y] ∧ (∀ z ∈ q, LB z.1 = false) ∧ LB y.1 = true ∧ W.cell? ⟨w.heap.size + 1 + 1 + 1, 0, none⟩ = some (.int .i64 (bt y.1 : Nat)))) ∧ Below w.heap.size w W)
    (OwnFrom.and (Own.from (fun s A B row hs hg hr => hs) _) (ownFrom_below (Nat.le_refl _) (by omega)))
    (fun c => OwnFrom.and (Own.from (fun s A B row hs hg hr => ⟨hs.1, by obtain ⟨q, y, e, h1, h2, h3⟩ := hs.2; exact ⟨q, y, e, h1, h2, cell_kept h3 hg hr⟩⟩) _) (ownFrom_below (Nat.le_refl _) (by omega)))
    ⟨by simp, hB5⟩
    (fun x => { tmps := #[.slice (some ⟨rb, roff, none⟩) T rcap, .int .i64 t, .int .i64 s, .slice a l.length cap, .pointer (some ⟨w.heap.size, 0, none⟩), .pointer (some ⟨w.heap.size + 1, 0, none⟩), undef, .pointer (some ⟨w.heap.size + 1 + 1, 0, none⟩), .pointer (some ⟨w.heap.size + 1 + 1 + 1, 0, none⟩), .int .i64 (bt x.1 : Nat), undef, undef, .int .i64 s, .int .i64 t, .int .i64 D0, .func (.func 48) #[] #[.pointer (some ⟨w.heap.size + 4, 0, none⟩)], .int .i64 (bt x.1 : Nat), undef, undef, undef, undef, undef, undef, undef, undef, undef, undef, undef, undef, undef, undef, undef, undef, undef, undef], defers := [] }) ?assign ?body ?done ?stop
  case assign =>
    intro l x W K hK
    dsimp only [enc1]
    gi_wp2
    exact hK
  case body =>
    rintro l' pre x W ⟨hp, hB⟩ _
    have hx := HEL.out x
    have hx8 := bt_lt (i := x.1) (by omega)
    have htb := HTB.out x.1 hx
    have hor : bits .or .i64 (t : Int) (bt x.1 : Int) = ((t ||| bt x.1 : Nat) : Int) := i64_or_nat _ _ (by omega) (by omega)
    have y0 := (hB.cell (p := ⟨w.heap.size, 0, none⟩) (by show w.heap.size < _; omega)).trans c0.1
    have y1 := (hB.cell (p := ⟨w.heap.size + 1, 0, none⟩) (by show w.heap.size + 1 < _; omega)).trans c1.1
    have y2 := (hB.cell (p := ⟨w.heap.size + 1 + 1, 0, none⟩) (by show w.heap.size + 1 + 1 < _; omega)).trans c2.1
    have HB := hid hB
    have HP := hid hp
    have LBx := hid (HLB.out x.1)
    have HUW := HU.out.below hB
    have HVW := HV.out.below hB
    have HI := hid (IND.out _ W htb HUW)
    have HBR := hid (fun w' hb => BAR.out _ w' htb (HUW.below hb) (HVW.below hb))
    clear hB hp HUW HVW
    generalize t ||| bt x.1 = tb at *
    rcases hq : (r tb == pop tb) with _ | _
    · rw [hq] at HI LBx
      have NO : Hid (LB x.1 = false) := by show _ = _; rw [LBx.out]; rfl
      clear hq
      gi_wp2_with fail
      refine ⟨trivial, ?_⟩
      gi_at_call 44
      refine (callsIn_wide.2 HI.out).mono ?_
      rintro e w6 ⟨rfl, kk, hw6⟩
      have HB6 : Hid (Below W.heap.size W w6) := by rw [hw6]; exact drewN_below _ _ _
      clear hw6
      gi_wp2
      refine ⟨keeps_below HB6.out, trivial, fun y hy => ?_, HB.out.trans (HB6.out.mono HB.out.size)⟩
      rw [List.mem_append, List.mem_singleton] at hy
      rcases hy with hy | rfl
      · exact HP.out y hy
      · exact NO.out
    · rw [hq] at HI LBx
      clear hq
      gi_wp2_with fail
      refine ⟨trivial, ?_⟩
      gi_at_call 44
      refine (callsIn_wide.2 HI.out).mono ?_
      rintro e w6 ⟨rfl, kk, hw6⟩
      have HB6 : Hid (Below W.heap.size W w6) := by rw [hw6]; exact drewN_below _ _ _
      have z0 := (HB6.out.cell (p := ⟨w.heap.size, 0, none⟩) (by have := HB.out.size; show w.heap.size < _; omega)).trans y0
      have z1 := (HB6.out.cell (p := ⟨w.heap.size + 1, 0, none⟩) (by have := HB.out.size; show w.heap.size + 1 < _; omega)).trans y1
      have z2 := (HB6.out.cell (p := ⟨w.heap.size + 1 + 1, 0, none⟩) (by have := HB.out.size; show w.heap.size + 1 + 1 < _; omega)).trans y2
      clear hw6
      have BR := hid (HBR.out w6 HB6.out)
      rcases hbar : barF r tb l with _ | pl
      · rw [hbar] at BR LBx
        have YES : Hid (LB x.1 = true) := by show _ = _; rw [LBx.out]; rfl
        clear hbar
        gi_wp2_with fail
        refine ⟨trivial, ?_⟩
        gi_at_call 34
        refine (callsIn_wide.2 BR.out).mono ?_
        rintro e w7 ⟨he, hb7⟩
        have he' : e = .returned (.tuple #[.int .i64 0, .int .i64 5]) := he
        subst he'
        have HB7 := hid (HB6.out.trans (hb7.mono HB6.out.size))
        have hb47 := HB.out.trans (HB7.out.mono HB.out.size)
        have y3 := (hb47.cell (p := ⟨w.heap.size + 1 + 1 + 1, 0, none⟩) (by show w.heap.size + 1 + 1 + 1 < _; omega)).trans c3.1
        have f3 := (froz_below hb47 (b := w.heap.size + 1 + 1 + 1) (off := 0) (by omega)).trans c3.2
        have HB47 := hid hb47
        clear hb7 hb47 z0 z1 z2 he
        gi_wp2
        refine ⟨(keeps_below HB7.out).trans (KeepsOthers.setCell _ _ _), ⟨rfl, pre, x, rfl, HP.out, YES.out, ?_⟩, ((b0.trans (HB47.out.mono b0.size))).setCell (p := ⟨w.heap.size + 1 + 1 + 1, 0, none⟩) (by show w.heap.size ≤ w.heap.size + 1 + 1 + 1; omega) _⟩
        exact World.cell?_setCell_same' _ _ _ (by rw [y3]; rfl)
      · rw [hbar] at BR LBx
        have NO : Hid (LB x.1 = false) := by show _ = _; rw [LBx.out]; rfl
        clear hbar
        gi_wp2_with fail
        refine ⟨trivial, ?_⟩
        gi_at_call 34
        refine (callsIn_wide.2 BR.out).mono ?_
        rintro e w7 ⟨he, hb7⟩
        have he' : e = .returned (.tuple #[.int .i64 pl, .int .i64 0]) := he
        subst he'
        have HB7 := hid (HB6.out.trans (hb7.mono HB6.out.size))
        clear hb7 z0 z1 z2 he
        gi_wp2
        refine ⟨keeps_below HB7.out, trivial, fun y hy => ?_, HB.out.trans (HB7.out.mono HB.out.size)⟩
        rw [List.mem_append, List.mem_singleton] at hy
        rcases hy with hy | rfl
        · exact HP.out y hy
        · exact NO.out
  case done =>
    rintro D ys W hD hys ⟨hne, hB⟩ hK
    have y3 := (hB.cell (p := ⟨w.heap.size + 1 + 1 + 1, 0, none⟩) (by show w.heap.size + 1 + 1 + 1 < _; omega)).trans c3.1
    have f3 := (froz_below hB (b := w.heap.size + 1 + 1 + 1) (off := 0) (by omega)).trans c3.2
    gi_wp2
    have hK' := (KeepsOthers.setCell W ⟨w.heap.size + 1 + 1 + 1, 0, none⟩ (.int .i64 0)).same D _ hK rfl
    refine ⟨by simp, .inl ⟨_, _, rfl, run_takeDeferred hK', ?_⟩⟩
    have q1 : (W.setCell ⟨w.heap.size + 1 + 1 + 1, 0, none⟩ (.int .i64 0)).cell? ⟨w.heap.size + 1 + 1 + 1, 0, none⟩ = some (.int .i64 0) := World.cell?_setCell_same' _ _ _ (by rw [y3]; rfl)
    have hc5 := cell_kept q1 (grownBy_putObj' _ D (.deferred none)) (fun r e => by cases e; exact ⟨_, hK', rfl⟩)
    have hBF := (b0.trans (hB.mono b0.size)).setCell (p := ⟨w.heap.size + 1 + 1 + 1, 0, none⟩) (by show w.heap.size ≤ w.heap.size + 1 + 1 + 1; omega) (.int .i64 0)
    refine ⟨.int .i64 0, ?_, ?_, hBF.trans (belowK_b (w := w) (Nat.le_refl _) _ D _ _ (by omega) hK' rfl rfl)⟩
    · simp [results, Try.f39, go_sem, hc5]
    · have : LF = none := by
        rw [HLF.out, ← hys]
        refine find_none fun i hi => ?_
        rw [List.mem_map] at hi
        obtain ⟨y, hy, rfl⟩ := hi
        exact hne y hy
      rw [this]; rfl
  case stop =>
    rintro D c pre W hD hpre ⟨⟨rfl, q, y, rfl, h1, h2, hc1⟩, hB⟩ hK
    gi_wp2
    refine ⟨by simp, .inl ⟨_, _, rfl, run_takeDeferred hK, ?_⟩⟩
    have hc5 := cell_kept hc1 (grownBy_putObj' _ D (.deferred none)) (fun r e => by cases e; exact ⟨_, hK, rfl⟩)
    refine ⟨.int .i64 (bt y.1 : Nat), ?_, ?_, hB.trans (belowK_b (w := w) (Nat.le_refl _) W D _ _ (by omega) hK rfl rfl)⟩
    · simp [results, Try.f39, go_sem, hc5]
    · have : LF = some y.1 := by
        obtain ⟨rest, hrest⟩ := hpre
        have e : els D0 = q.map (·.1) ++ y.1 :: rest := hrest.symm.trans (by rw [List.map_append, List.append_assoc]; rfl)
        refine HLF.out.trans ((congrArg (List.find? LB) e).trans (find_mid (fun i hi => ?_) h2))
        rw [List.mem_map] at hi
        obtain ⟨z, hz, rfl⟩ := hi
        exact h1 z hz
      rw [this]; rfl
end Go.Proofs.Ytjajloefplbkgaa
