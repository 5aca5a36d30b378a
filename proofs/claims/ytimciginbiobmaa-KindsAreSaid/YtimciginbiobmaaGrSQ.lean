/- greedy.Swap. -/
import Derived.Test.YtimciginbiobmaaGrFQ
namespace Go.Proofs.Ytimciginbiobmaa
open Go.RowKit Go.Shelf
attribute [local go_sem] Oper.semAt_some

/-- Can y come for x? -/
def swapB (l : List Nat) (a b x y : Nat) : Bool := subB y (dif b a) && memB (dif a x ||| y) l && memB (dif b y ||| x) l
set_option maxHeartbeats 2000000 in
theorem SwapQ_ok (y a b x m pb pa pm px : Nat) (v : Value) (l : List Nat) (w : World) (hy : y < 256) (ha : a < 256) (hb : b < 256) (hx : x < 256) (h : Ints w v (N l))
    (cb : w.cell? ⟨pb, 0, none⟩ = some (.int .i64 b)) (ca : w.cell? ⟨pa, 0, none⟩ = some (.int .i64 a)) (cm : w.cell? ⟨pm, 0, none⟩ = some (.int .i64 m)) (cm' : w.cell? ⟨pm, 1, none⟩ = some v) (cx : w.cell? ⟨px, 0, none⟩ = some (.int .i64 x)) :
    Calls Try.prog 84 #[.int .i64 y, .pointer (some ⟨pb, 0, none⟩), .pointer (some ⟨pa, 0, none⟩), .pointer (some ⟨pm, 0, none⟩), .pointer (some ⟨px, 0, none⟩)] w fun e w' => e = .returned (.bool (swapB l a b x y)) ∧ Below w.heap.size w w' := by
  have hba : bits .andNot .i64 (b : Int) (a : Int) = ((dif b a : Nat) : Int) := i64_andNot_nat b a (by omega) (by omega)
  have hax : bits .andNot .i64 (a : Int) (x : Int) = ((dif a x : Nat) : Int) := i64_andNot_nat a x (by omega) (by omega)
  have hby : bits .andNot .i64 (b : Int) (y : Int) = ((dif b y : Nat) : Int) := i64_andNot_nat b y (by omega) (by omega)
  have hd1 := dif_lt (b := a) hb
  have hd2 := dif_lt (b := x) ha
  have hd3 := dif_lt (b := y) hb
  have ho1 : bits .or .i64 (dif a x : Int) (y : Int) = ((dif a x ||| y : Nat) : Int) := i64_or_nat _ _ (by omega) (by omega)
  have ho2 : bits .or .i64 (dif b y : Int) (x : Int) = ((dif b y ||| x : Nat) : Int) := i64_or_nat _ _ (by omega) (by omega)
  have HWI := hid (fun w => within_any y (dif b a) w hy hd1)
  have H1 := hid (fun z : Later w => isBasis_any m v (N l) ((dif a x ||| y : Nat) : Int) z.now (h.below z.kept))
  have H2 := hid (fun z : Later w => isBasis_any m v (N l) ((dif b y ||| x : Nat) : Int) z.now (h.below z.kept))
  simp only [memZ_N] at H1 H2
  have SB : Hid (swapB l a b x y = (subB y (dif b a) && memB (dif a x ||| y) l && memB (dif b y ||| x) l)) := rfl
  have cb' : ∀ z : Later w, z.now.cell? ⟨pb, 0, none⟩ = some (.int .i64 b) := fun z => (z.kept.cell (p := ⟨pb, 0, none⟩) (World.block_lt_of_cell? w _ cb)).trans cb
  have ca' : ∀ z : Later w, z.now.cell? ⟨pa, 0, none⟩ = some (.int .i64 a) := fun z => (z.kept.cell (p := ⟨pa, 0, none⟩) (World.block_lt_of_cell? w _ ca)).trans ca
  have cm0 : ∀ z : Later w, z.now.cell? ⟨pm, 0, none⟩ = some (.int .i64 m) := fun z => (z.kept.cell (p := ⟨pm, 0, none⟩) (World.block_lt_of_cell? w _ cm)).trans cm
  have cm1 : ∀ z : Later w, z.now.cell? ⟨pm, 1, none⟩ = some v := fun z => (z.kept.cell (p := ⟨pm, 1, none⟩) (World.block_lt_of_cell? w _ cm')).trans cm'
  have cx' : ∀ z : Later w, z.now.cell? ⟨px, 0, none⟩ = some (.int .i64 x) := fun z => (z.kept.cell (p := ⟨px, 0, none⟩) (World.block_lt_of_cell? w _ cx)).trans cx
  clear hd1 hd2 hd3
  obtain ⟨sa, scap, rfl, _, _⟩ := h
  generalize swapB l a b x y = res at *
  rcases q1 : subB y (dif b a) with _ | _
  · rw [q1] at HWI SB
    simp only [Bool.false_and] at SB
    clear q1
    go_enter Try.func84, Try.ntmps84
    go_wp2_with fail
    refine (HWI.out _).mono ?_
    rintro e w' ⟨rfl, rfl⟩
    go_wp2_with fail
    go_ret
    exact ⟨ret_bool SB.out.symm, Below.refl _ _⟩
  · rw [q1] at HWI SB
    simp only [Bool.true_and] at SB
    clear q1
    rcases q2 : memB (dif a x ||| y) l with _ | _
    · rw [q2] at H1 SB
      simp only [Bool.false_and] at SB
      clear q2
      generalize dif a x ||| y = z1 at *
      go_enter Try.func84, Try.ntmps84
      go_wp2_with fail
      refine (HWI.out _).mono ?_
      rintro e w' ⟨rfl, rfl⟩
      go_wp2_with fail
      refine (H1.out ⟨_, Below.refl _ _⟩).mono ?_
      rintro e w1 ⟨rfl, hb1⟩
      have HB := hid hb1
      clear hb1
      go_wp2_with fail
      go_ret
      exact ⟨ret_bool SB.out.symm, HB.out⟩
    · rw [q2] at H1 SB
      simp only [Bool.true_and] at SB
      clear q2
      generalize dif a x ||| y = z1 at *
      generalize dif b y ||| x = z2 at *
      go_enter Try.func84, Try.ntmps84
      go_wp2_with fail
      refine (HWI.out _).mono ?_
      rintro e w' ⟨rfl, rfl⟩
      go_wp2_with fail
      refine (H1.out ⟨_, Below.refl _ _⟩).mono ?_
      rintro e w1 ⟨rfl, hb1⟩
      have k1 : w1.cell? _ = _ := cb' ⟨w1, hb1⟩
      have k2 : w1.cell? _ = _ := cm0 ⟨w1, hb1⟩
      have k3 : w1.cell? _ = _ := cm1 ⟨w1, hb1⟩
      have k4 : w1.cell? _ = _ := cx' ⟨w1, hb1⟩
      have HB := hid hb1
      have H3 := H2.out ⟨w1, hb1⟩
      dsimp only at H3
      have H3 := hid H3
      clear hb1
      go_wp2_with fail
      refine H3.out.mono ?_
      rintro e w2 ⟨rfl, hb2⟩
      have HB2 := hid (HB.out.trans (hb2.mono HB.out.size))
      clear hb2
      go_wp2_with fail
      go_ret
      exact ⟨ret_bool SB.out.symm, HB2.out⟩

/-- Is x within c? Of whatever number. -/
def wiB (x : Int) (c : Nat) : Bool := bits .andNot .i64 x (c : Int) == 0
theorem withinZ_any (x : Int) (c : Nat) (w : World) : Calls Try.prog 82 #[.int .i64 x, .int .i64 c] w fun e w' => e = .returned (.bool (wiB x c)) ∧ w' = w := by
  go_enter Try.func82, Try.ntmps82
  go_wp2_with fail
  go_ret
  exact ⟨rfl, rfl⟩
theorem wiB_nat {x c : Nat} (hx : x < 256) (hc : c < 256) : wiB x c = subB x c := by
  unfold wiB
  rw [i64_andNot_nat x c (by omega) (by omega), subB_xor, Bool.eq_iff_iff, beq_iff_eq, beq_iff_eq]
  omega
/-- The world when Swap's parameters are laid. -/
def boxS (w : World) (m a b x : Int) (v : Value) : World := ((((w.alloc (.cells #[.int .i64 m, v] 34)).alloc (.cells #[.int .i64 a] 3)).alloc (.cells #[.int .i64 b] 3)).alloc (.cells #[.int .i64 x] 3)).alloc (.cells #[.int .i64 a, .int .i64 b] 3)
theorem boxS_is (w : World) (m a b x : Int) (v : Value) : Below w.heap.size w (boxS w m a b x v) ∧ (boxS w m a b x v).heap.size = w.heap.size + 5 ∧ (boxS w m a b x v).cell? ⟨w.heap.size, 0, none⟩ = some (.int .i64 m) ∧ (boxS w m a b x v).cell? ⟨w.heap.size, 1, none⟩ = some v ∧ (boxS w m a b x v).cell? ⟨w.heap.size + 1, 0, none⟩ = some (.int .i64 a) ∧ (boxS w m a b x v).cell? ⟨w.heap.size + 1 + 1, 0, none⟩ = some (.int .i64 b) ∧ (boxS w m a b x v).cell? ⟨w.heap.size + 1 + 1 + 1, 0, none⟩ = some (.int .i64 x) ∧ Ints (boxS w m a b x v) (.slice (some ⟨w.heap.size + 1 + 1 + 1 + 1, 0, none⟩) 2 2) [a, b] := by
  have c0 := two_cells (World.alloc_heap_new w (.cells #[.int .i64 m, v] 34))
  have c1 := cellN (w.alloc (.cells #[.int .i64 m, v] 34)) (.int .i64 a) 3
  have c2 := cellN ((w.alloc (.cells #[.int .i64 m, v] 34)).alloc (.cells #[.int .i64 a] 3)) (.int .i64 b) 3
  have c3 := cellN (((w.alloc (.cells #[.int .i64 m, v] 34)).alloc (.cells #[.int .i64 a] 3)).alloc (.cells #[.int .i64 b] 3)) (.int .i64 x) 3
  have L := Ints.lit2 ((((w.alloc (.cells #[.int .i64 m, v] 34)).alloc (.cells #[.int .i64 a] 3)).alloc (.cells #[.int .i64 b] 3)).alloc (.cells #[.int .i64 x] 3)) a b
  simp only [World.size_alloc] at c1 c2 c3 L
  unfold boxS
  exact ⟨(((((Below.refl _ w).alloc (Nat.le_refl _) _).alloc (by simp) _).alloc (by simp; omega) _).alloc (by simp; omega) _).alloc (by simp; omega) _, by simp, cellA _ (cellA _ (cellA _ (cellA _ c0.1))), cellA _ (cellA _ (cellA _ (cellA _ c0.2.1))), cellA _ (cellA _ (cellA _ c1.1)), cellA _ (cellA _ c2.1), cellA _ c3.1, L⟩
set_option maxRecDepth 20000 in
set_option maxHeartbeats 2000000 in
theorem Swap_bad (m a b x : Int) (v : Value) (zs : List Int) (w : World) (h : Ints w v zs) (hc : cbR m zs [a, b] ≠ 0) :
    Calls Try.prog 39 #[.agg #[.int .i64 m, v], .int .i64 a, .int .i64 b, .int .i64 x] w fun e w' => e = .returned (.tuple #[.int .i64 0, .int .i64 (cbR m zs [a, b])]) ∧ Below w.heap.size w w' := by
  obtain ⟨b1, b2, b3, b4, b5, b6, b7, b8⟩ := boxS_is w m a b x v
  have HC := hid (checkBases_any m v zs _ [a, b] _ (h.below b1) b8)
  have HB := hid b1
  obtain ⟨sa, scap, rfl, _, _⟩ := h
  have hne : (cbR m zs [a, b] != 0) = true := by simp [hc]
  generalize cbR m zs [a, b] = q at *
  clear b1 b2 b3 b4 b5 b6 b7 b8 hc
  go_enter Try.func39, Try.ntmps39
  go_wp2_with fail
  refine HC.out.mono ?_
  rintro e w1 ⟨rfl, hb1⟩
  have HB1 := hid (HB.out.trans (hb1.mono HB.out.size))
  clear hb1
  go_wp2_with fail
  go_ret2
  exact ⟨rfl, HB1.out⟩
set_option maxRecDepth 20000 in
set_option maxHeartbeats 2000000 in
theorem Swap_shape (m : Int) (a b : Nat) (x : Int) (v : Value) (zs : List Int) (w : World) (h : Ints w v zs) (hc : cbR m zs [(a : Int), (b : Int)] = 0) (ha : a < 256) (hb : b < 256) (hx : wiB x (dif a b) = false) :
    Calls Try.prog 39 #[.agg #[.int .i64 m, v], .int .i64 a, .int .i64 b, .int .i64 x] w fun e w' => e = .returned (.tuple #[.int .i64 0, .int .i64 3]) ∧ Below w.heap.size w w' := by
  obtain ⟨b1, b2, b3, b4, b5, b6, b7, b8⟩ := boxS_is w m a b x v
  have HC := hid (checkBases_any m v zs _ [(a : Int), (b : Int)] _ (h.below b1) b8)
  have HWI := hid (fun w => withinZ_any x (dif a b) w)
  have hab : bits .andNot .i64 (a : Int) (b : Int) = ((dif a b : Nat) : Int) := i64_andNot_nat a b (by omega) (by omega)
  rw [hx] at HWI
  rw [hc] at HC
  have HB := hid b1
  obtain ⟨sa, scap, rfl, _, _⟩ := h
  clear hc
  go_enter Try.func39, Try.ntmps39
  go_wp2_with fail
  refine HC.out.mono ?_
  rintro e w1 ⟨rfl, hb1⟩
  have k1 := (hb1.cell (p := ⟨w.heap.size + 1, 0, none⟩) (by show w.heap.size + 1 < _; omega)).trans b5
  have k2 := (hb1.cell (p := ⟨w.heap.size + 1 + 1, 0, none⟩) (by show w.heap.size + 1 + 1 < _; omega)).trans b6
  have k3 := (hb1.cell (p := ⟨w.heap.size + 1 + 1 + 1, 0, none⟩) (by show w.heap.size + 1 + 1 + 1 < _; omega)).trans b7
  have HB1 := hid (HB.out.trans (hb1.mono HB.out.size))
  clear hb1 b1 b2 b3 b4 b5 b6 b7 b8
  go_wp2_with fail
  refine (HWI.out _).mono ?_
  rintro e w2 ⟨rfl, rfl⟩
  go_wp2_with fail
  go_ret2
  exact ⟨rfl, HB1.out⟩
set_option maxRecDepth 20000 in
set_option maxHeartbeats 2000000 in
theorem Swap_ok (m a b x : Nat) (v : Value) (l : List Nat) (w : World) (h : Ints w v (N l)) (hm : m ≤ 8) (hf : Fam m l) (hbs : Bas l) (hal : a ∈ l) (hbl : b ∈ l) (hx : subB x (dif a b) = true) (y : Nat) (ys : List Nat) (hy : (List.range (2 ^ m)).filter (swapB l a b x) = y :: ys) :
    Calls Try.prog 39 #[.agg #[.int .i64 m, v], .int .i64 a, .int .i64 b, .int .i64 x] w fun e w' => e = .returned (.tuple #[.int .i64 y, .int .i64 0]) ∧ Below w.heap.size w w' := by
  have ha := hbs.lt a hal
  have hb := hbs.lt b hbl
  have hx8 : x < 256 := sub_lt (n := 8) hx (dif_lt ha)
  have T8 : (2 : Nat) ^ m ≤ 256 := (pow_wrap m hm).2
  obtain ⟨b1, b2, b3, b4, b5, b6, b7, b8⟩ := boxS_is w m a b x v
  have HC := hid (checkBases_any m v (N l) _ [(a : Int), (b : Int)] _ (h.below b1) b8)
  have HWI := hid (fun w => withinZ_any x (dif a b) w)
  have hab : bits .andNot .i64 (a : Int) (b : Int) = ((dif a b : Nat) : Int) := i64_andNot_nat a b (by omega) (by omega)
  rw [wiB_nat hx8 (dif_lt ha), hx] at HWI
  rw [show cbR m (N l) [(a : Int), (b : Int)] = 0 from cb_mk (ys := [a, b]) hm hf hbs (by simp [hal, hbl])] at HC
  have HV0 := hid (h.below b1)
  have HB := hid b1
  obtain ⟨sa, scap, rfl, _, _⟩ := h
  go_enter Try.func39, Try.ntmps39
  go_wp2_with fail
  refine HC.out.mono ?_
  rintro e w1 ⟨rfl, hb1⟩
  have k0 := (hb1.cell (p := ⟨w.heap.size, 0, none⟩) (by show w.heap.size < _; omega)).trans b3
  have k0' := (hb1.cell (p := ⟨w.heap.size, 1, none⟩) (by show w.heap.size < _; omega)).trans b4
  have k1 := (hb1.cell (p := ⟨w.heap.size + 1, 0, none⟩) (by show w.heap.size + 1 < _; omega)).trans b5
  have k2 := (hb1.cell (p := ⟨w.heap.size + 1 + 1, 0, none⟩) (by show w.heap.size + 1 + 1 < _; omega)).trans b6
  have k3 := (hb1.cell (p := ⟨w.heap.size + 1 + 1 + 1, 0, none⟩) (by show w.heap.size + 1 + 1 + 1 < _; omega)).trans b7
  have HB1 := hid (HB.out.trans (hb1.mono HB.out.size))
  have HV1 := hid (HV0.out.below hb1)
  have HSV := hid (Sieve_any m 84 #[.pointer (some ⟨w.heap.size + 1 + 1, 0, none⟩), .pointer (some ⟨w.heap.size + 1, 0, none⟩), .pointer (some ⟨w.heap.size, 0, none⟩), .pointer (some ⟨w.heap.size + 1 + 1 + 1, 0, none⟩)] (swapB l a b x) w1 hm (enters_of Try.func84 (by kernel_rfl) rfl) (fun y hy w2 hb2 _ =>
    SwapQ_ok y a b x m _ _ _ _ _ l w2 (by omega) ha hb hx8 (HV1.out.below hb2) ((hb2.cell (World.block_lt_of_cell? w1 _ k2)).trans k2) ((hb2.cell (World.block_lt_of_cell? w1 _ k1)).trans k1) ((hb2.cell (World.block_lt_of_cell? w1 _ k0)).trans k0) ((hb2.cell (World.block_lt_of_cell? w1 _ k0')).trans k0') ((hb2.cell (World.block_lt_of_cell? w1 _ k3)).trans k3)))
  clear hb1 b1 b2 b3 b4 b5 b6 b7 b8
  go_wp2_with fail
  refine (HWI.out _).mono ?_
  rintro e w2 ⟨rfl, rfl⟩
  go_wp2_with fail
  refine HSV.out.mono ?_
  rintro e w3 ⟨r, rfl, hown, hb3⟩
  have hlen := rg_le (swapB l a b x) (2 ^ m)
  rw [hy] at hown hlen
  obtain ⟨ra, rcap, rfl, _, hcl⟩ := hown.ints (by omega)
  have hlz : (N (y :: ys)).length = ys.length + 1 := by unfold N; simp
  rw [hlz] at hcl ⊢
  obtain ⟨rb, roff, rfl, _, hcell⟩ := hcl (by omega)
  have h0 : w3.cell? ⟨rb, roff, none⟩ = some (.int .i64 y) := hcell 0 (by omega)
  have hl1 : (0 : Int) < ((ys.length + 1 : Nat) : Int) := by omega
  have HB3 := hid (HB1.out.trans (hb3.mono HB1.out.size))
  clear hb3 hcell hcl hlz hlen
  generalize ys.length + 1 = L at *
  go_wp2_with fail
  go_ret2
  exact ⟨rfl, HB3.out⟩
end Go.Proofs.Ytimciginbiobmaa
