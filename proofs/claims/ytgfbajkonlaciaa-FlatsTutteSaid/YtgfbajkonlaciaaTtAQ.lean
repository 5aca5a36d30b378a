/- tutte.changesWithLesser. -/
import Derived.Test.YtgfbajkonlaciaaRwLW
import Derived.Test.YtgfbajkonlaciaaPlainAll1
namespace Go.Proofs.Ytgfbajkonlaciaa
open Go.RowKit Go.Shelf
attribute [local go_sem] Oper.semAt_some

theorem i64_xor_nat (a b : Nat) (ha : a < 9223372036854775808) (hb : b < 9223372036854775808) : bits .xor .i64 (a : Int) (b : Int) = ((a ^^^ b : Nat) : Int) := by
  have hlt : a ^^^ b < 2 ^ 63 := Nat.xor_lt_two_pow (by omega) (by omega)
  show IntKind.i64.wrap ((BitVec.ofInt 64 (a : Int) ^^^ BitVec.ofInt 64 (b : Int)).toNat : Int) = _
  rw [BitVec.toNat_xor, ofInt_i64 a ha, ofInt_i64 b hb, wrap_i64_nat _ (by omega)]
/-- The world when four blocks are laid. -/
def box4 (w : World) (m v b x : Value) : World := (((w.alloc (.cells #[m, v] 24)).alloc (.cells #[b] 3)).alloc (.cells #[x] 3)).alloc (.cells #[.bool false] 4)
theorem box4_is (w : World) (m v b x : Value) : Below w.heap.size w (box4 w m v b x) ∧ (box4 w m v b x).heap.size = w.heap.size + 4 ∧ (box4 w m v b x).heap[w.heap.size]? = some (.cells #[m, v] 24 (0, 0)) ∧ (box4 w m v b x).heap[w.heap.size + 1]? = some (.cells #[b] 3 (0, 0)) ∧ (box4 w m v b x).heap[w.heap.size + 2]? = some (.cells #[x] 3 (0, 0)) ∧ (box4 w m v b x).heap[w.heap.size + 3]? = some (.cells #[.bool false] 4 (0, 0)) := by
  unfold box4
  refine ⟨((((Below.refl _ w).alloc (Nat.le_refl _) _).alloc (by simp) _).alloc (by simp; omega) _).alloc (by simp; omega) _, by simp, ?_, ?_, ?_, ?_⟩
  · rw [Below.heap_alloc _ _ _ (by simp; omega), Below.heap_alloc _ _ _ (by simp; omega), Below.heap_alloc _ _ _ (by simp)]
    exact World.alloc_heap_new w _
  · rw [Below.heap_alloc _ _ _ (by simp), Below.heap_alloc _ _ _ (by simp)]
    have := World.alloc_heap_new (w.alloc (.cells #[m, v] 24)) (.cells #[b] 3)
    simpa using this
  · rw [Below.heap_alloc _ _ _ (by simp)]
    have := World.alloc_heap_new ((w.alloc (.cells #[m, v] 24)).alloc (.cells #[b] 3)) (.cells #[x] 3)
    simpa using this
  · have := World.alloc_heap_new (((w.alloc (.cells #[m, v] 24)).alloc (.cells #[b] 3)).alloc (.cells #[x] 3)) (.cells #[.bool false] 4)
    simpa using this
theorem el_below {e : Nat} (he : e ≤ 8) (x : El (2 ^ e - 1)) : x.1 < e := by
  have := (mem_els (lt256 he (full_lt e))).1 x.2
  rw [full_bit] at this
  simpa using this
set_option maxRecDepth 100000 in
set_option maxHeartbeats 2000000 in
theorem chg_any (m : Int) (v : Value) (l : List Nat) (b e : Nat) (w : World) (hb8 : b < 256) (he : e < 8) (h : Ints w v (N l)) :
    Calls Try.prog 60 #[.agg #[.int .i64 m, v], .int .i64 b, .int .i64 (bt e : Nat)] w fun r w' => r = .returned (.bool (!actB l b e)) ∧ Below w.heap.size w w' := by
  obtain ⟨b0, b1, b2, b3, b4, b5⟩ := box4_is w (.int .i64 m) v (.int .i64 b) (.int .i64 (bt e : Nat))
  have HV := hid (h.below b0)
  have c0 := two_cells b2
  have c1 := one_cellT b3
  have c2 := one_cellT b4
  have c3 := one_cellT b5
  obtain ⟨a, cap, rfl, -, -⟩ := h
  have hbte := bt_lt he
  have hbt1 : 1 ≤ bt e := Nat.one_le_two_pow
  have hx1 : ((bt e : Nat) : Int) - 1 = ((2 ^ e - 1 : Nat) : Int) := by unfold bt; have := Nat.one_le_two_pow (n := e); omega
  unfold box4 at *
  refine (callsIn_wide (n := 6)).1 ?_
  refine callsIn_of_wp_marks Try.func60 rfl trivial ?_ rfl
  simp only [Try.ntmps60, List.size_toArray, List.length_cons, List.length_nil, Nat.reduceAdd, Nat.reduceSub, Array.replicate_succ, Array.replicate_zero, List.push_toArray, List.append_toArray, List.nil_append, List.cons_append]
  gi_wp2_with fail
  refine ⟨trivial, ?_⟩
  gi_at_call 58
  refine (callsIn_wide.2 (sing_any (2 ^ e - 1) _)).mono ?_
  rintro r w3 ⟨rfl, hw3⟩
  obtain rfl := hw3.symm
  clear hw3
  gi_wp2_with fail
  revert b0 b1 b2 b3 b4 b5 HV c0 c1 c2 c3
  generalize (((w.alloc (.cells #[.int .i64 m, .slice a (N l).length cap] 24)).alloc (.cells #[.int .i64 b] 3)).alloc (.cells #[.int .i64 (bt e : Nat)] 3)).alloc (.cells #[.bool false] 4) = W4
  intro b0 b1 b2 b3 b4 b5 HV c0 c1 c2 c3
  have c5 := cellN W4 (.int .i64 (2 ^ e - 1 : Nat)) 3
  rw [b1] at c5
  have hB5 : Below W4.heap.size W4 (W4.alloc (.cells #[.int .i64 (2 ^ e - 1 : Nat)] 3)) := (Below.refl _ W4).alloc (Nat.le_refl _) _
  have hs5 : (W4.alloc (.cells #[.int .i64 (2 ^ e - 1 : Nat)] 3)).heap.size = w.heap.size + 5 := by simp [b1]
  have hfull : 2 ^ e - 1 < 256 := lt256 (by omega : e ≤ 8) (full_lt e)
  refine wpIn_rangeFunc_ownF rfl (by decide) (gf := 72) (lb := #[.pointer (some ⟨w.heap.size + 4, 0, none⟩)]) rfl trivial (enters_of Try.func72 (by kernel_rfl) rfl)
    (sing_stops 5 (by decide) (2 ^ e - 1) (w.heap.size + 4) hfull _ (by omega) c5.1) (fun _ _ => trivial) (fun _ _ _ _ _ _ _ _ => trivial) (Below.refl _ _) (fun _ => rfl)
    (fun pre W => (∀ y ∈ pre, memB (b ^^^ 2 ^ e ^^^ 2 ^ y.1) l = false) ∧ Below W4.heap.size W4 W)
    (fun c pre W => (c = .ret ∧ (∃ y ∈ pre, memB (b ^^^ 2 ^ e ^^^ 2 ^ y.1) l = true) ∧ W.cell? ⟨w.heap.size + 1 + 1 + 1, 0, none⟩ = some (.bool true)) ∧ Below w.heap.size w W)
    (OwnFrom.and (Own.from (fun s A B row hs hg hr => hs) _) (ownFrom_below (Nat.le_refl _) (by omega)))
    (fun c => OwnFrom.and (Own.from (fun s A B row hs hg hr => ⟨hs.1, hs.2.1, cell_kept hs.2.2 hg hr⟩) _) (ownFrom_below (Nat.le_refl _) (by omega)))
    ⟨by simp, hB5⟩
    (fun x => { tmps := #[.agg #[.int .i64 m, .slice a (N l).length cap], .int .i64 b, .int .i64 (bt e : Nat), .pointer (some ⟨w.heap.size, 0, none⟩), .pointer (some ⟨w.heap.size + 1, 0, none⟩), .pointer (some ⟨w.heap.size + 1 + 1, 0, none⟩), .pointer (some ⟨w.heap.size + 1 + 1 + 1, 0, none⟩), .int .i64 (bt x.1 : Nat), .int .i64 (bt e : Nat), .int .i64 (2 ^ e - 1 : Nat), .func (.func 72) #[] #[.pointer (some ⟨w.heap.size + 4, 0, none⟩)], .int .i64 (bt x.1 : Nat), undef, undef, undef, undef, undef, undef, undef], defers := [] }) ?assign ?body ?done ?stop
  case assign =>
    intro l x W K hK
    dsimp only [enc1]
    gi_wp2
    exact hK
  case body =>
    rintro l' pre x W ⟨hp, hB⟩ _
    have hx := el_below (by omega) x
    have hx8 := bt_lt (i := x.1) (by omega)
    have hlt : b ^^^ bt e < 256 := Nat.xor_lt_two_pow (n := 8) hb8 hbte
    have h1 : bits .xor .i64 (b : Int) (bt e : Int) = ((b ^^^ bt e : Nat) : Int) := i64_xor_nat _ _ (by omega) (by omega)
    have h2 : bits .xor .i64 ((b ^^^ bt e : Nat) : Int) (bt x.1 : Int) = ((b ^^^ bt e ^^^ bt x.1 : Nat) : Int) := i64_xor_nat _ _ (by omega) (by omega)
    have y0 := (hB.cell (p := ⟨w.heap.size, 0, none⟩) (by show w.heap.size < _; omega)).trans c0.1
    have y0' := (hB.cell (p := ⟨w.heap.size, 1, none⟩) (by show w.heap.size < _; omega)).trans c0.2.1
    have y1 := (hB.cell (p := ⟨w.heap.size + 1, 0, none⟩) (by show w.heap.size + 1 < _; omega)).trans c1.1
    have y2 := (hB.cell (p := ⟨w.heap.size + 1 + 1, 0, none⟩) (by show w.heap.size + 1 + 1 < _; omega)).trans c2.1
    have HIB := hid (isBasis_any m _ (N l) ((b ^^^ bt e ^^^ bt x.1 : Nat) : Int) W (HV.out.below hB))
    have HB := hid hB
    have MB : Hid (memZ ((b ^^^ bt e ^^^ bt x.1 : Nat) : Int) (N l) = memB (b ^^^ 2 ^ e ^^^ 2 ^ x.1) l) := memZ_N _ _
    have HP := hid hp
    rw [MB.out] at HIB
    clear hB hp MB
    generalize b ^^^ bt e ^^^ bt x.1 = z2 at *
    generalize b ^^^ bt e = z1 at *
    rcases hq : memB (b ^^^ 2 ^ e ^^^ 2 ^ x.1) l with _ | _
    · rw [hq] at HIB
      have HQ := hid hq
      clear hq
      gi_wp2_with fail
      refine ⟨trivial, ?_⟩
      gi_at_call 75
      refine (callsIn_wide.2 HIB.out).mono ?_
      rintro r w6 ⟨rfl, hb6⟩
      have HB6 := hid hb6
      clear hb6
      gi_wp2
      refine ⟨keeps_below HB6.out, trivial, fun y hy => ?_, HB.out.trans (HB6.out.mono (HB.out.size))⟩
      rw [List.mem_append, List.mem_singleton] at hy
      rcases hy with hy | rfl
      · exact HP.out y hy
      · exact HQ.out
    · rw [hq] at HIB
      have HQ := hid hq
      clear hq
      gi_wp2_with fail
      refine ⟨trivial, ?_⟩
      gi_at_call 75
      refine (callsIn_wide.2 HIB.out).mono ?_
      rintro r w6 ⟨rfl, hb6⟩
      have hb46 := HB.out.trans (hb6.mono (HB.out.size))
      have y3 := (hb46.cell (p := ⟨w.heap.size + 1 + 1 + 1, 0, none⟩) (by show w.heap.size + 1 + 1 + 1 < _; omega)).trans c3.1
      have f3 := (froz_below hb46 (b := w.heap.size + 1 + 1 + 1) (off := 0) (by omega)).trans c3.2
      have HB6 := hid hb6
      have HB46 := hid hb46
      clear hb6 hb46
      gi_wp2
      refine ⟨(keeps_below HB6.out).trans (KeepsOthers.setCell _ _ _), ⟨rfl, ⟨x, by simp, HQ.out⟩, ?_⟩, ((b0.trans (HB46.out.mono b0.size))).setCell (p := ⟨w.heap.size + 1 + 1 + 1, 0, none⟩) (by show w.heap.size ≤ w.heap.size + 1 + 1 + 1; omega) _⟩
      exact World.cell?_setCell_same' _ _ _ (by rw [y3]; rfl)
  case done =>
    rintro D ys W hD hys ⟨hne, hB⟩ hK
    have y3 := (hB.cell (p := ⟨w.heap.size + 1 + 1 + 1, 0, none⟩) (by show w.heap.size + 1 + 1 + 1 < _; omega)).trans c3.1
    have f3 := (froz_below hB (b := w.heap.size + 1 + 1 + 1) (off := 0) (by omega)).trans c3.2
    gi_wp2
    have hK' := (KeepsOthers.setCell W ⟨w.heap.size + 1 + 1 + 1, 0, none⟩ (.bool false)).same D _ hK rfl
    refine ⟨by simp, .inl ⟨_, _, rfl, run_takeDeferred hK', ?_⟩⟩
    have q1 : (W.setCell ⟨w.heap.size + 1 + 1 + 1, 0, none⟩ (.bool false)).cell? ⟨w.heap.size + 1 + 1 + 1, 0, none⟩ = some (.bool false) := World.cell?_setCell_same' _ _ _ (by rw [y3]; rfl)
    have hc5 := cell_kept q1 (grownBy_putObj' _ D (.deferred none)) (fun r e => by cases e; exact ⟨_, hK', rfl⟩)
    have hBF := (b0.trans (hB.mono b0.size)).setCell (p := ⟨w.heap.size + 1 + 1 + 1, 0, none⟩) (by show w.heap.size ≤ w.heap.size + 1 + 1 + 1; omega) (.bool false)
    refine ⟨.bool false, ?_, ?_, hBF.trans (belowK_b (w := w) (Nat.le_refl _) _ D _ _ (by omega) hK' rfl rfl)⟩
    · simp [results, Try.f60, go_sem, hc5]
    · have : actB l b e = true := act_iff.2 fun i hi hmem => by
        have hin : i ∈ els (2 ^ e - 1) := (mem_els hfull).2 (by rw [full_bit]; simpa using hi)
        rw [← hys, List.mem_map] at hin
        obtain ⟨y, hy, rfl⟩ := hin
        have := hne y hy
        unfold memB at this
        simp at this
        exact this hmem
      rw [this]; rfl
  case stop =>
    rintro D c pre W hD hpre ⟨⟨rfl, ⟨y, hy, h1⟩, hc1⟩, hB⟩ hK
    gi_wp2
    refine ⟨by simp, .inl ⟨_, _, rfl, run_takeDeferred hK, ?_⟩⟩
    have hc5 := cell_kept hc1 (grownBy_putObj' _ D (.deferred none)) (fun r e => by cases e; exact ⟨_, hK, rfl⟩)
    refine ⟨.bool true, ?_, ?_, hB.trans (belowK_b (w := w) (Nat.le_refl _) W D _ _ (by omega) hK rfl rfl)⟩
    · simp [results, Try.f60, go_sem, hc5]
    · have : actB l b e = false := by
        rw [Bool.eq_false_iff]
        intro h
        unfold memB at h1
        simp at h1
        exact act_iff.1 h y.1 (el_below (by omega) y) h1
      rw [this]; rfl
end Go.Proofs.Ytgfbajkonlaciaa
