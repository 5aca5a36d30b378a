/- rotaref.Swapped. -/
import Derived.Test.YtimciginbiobmaaGsRefQ
namespace Go.Proofs.Ytimciginbiobmaa
open Go.RowKit

theorem add_disj (a : Nat) (ha : a < 256) (b : Nat) (hb : b < 256) (h : a &&& b = 0) : a + b = a ||| b := by
  have hA : (BitVec.ofNat 16 a).toNat = a := by rw [BitVec.toNat_ofNat]; exact Nat.mod_eq_of_lt (by omega)
  have hB : (BitVec.ofNat 16 b).toNat = b := by rw [BitVec.toNat_ofNat]; exact Nat.mod_eq_of_lt (by omega)
  have h1 := BitVec.add_eq_or_of_and_eq_zero (BitVec.ofNat 16 a) (BitVec.ofNat 16 b) (BitVec.eq_of_toNat_eq (by rw [BitVec.toNat_and, hA, hB, h]; rfl))
  have h2 := congrArg BitVec.toNat h1
  rw [BitVec.toNat_add, BitVec.toNat_or, hA, hB] at h2
  rw [← h2]
  exact (Nat.mod_eq_of_lt (by omega)).symm
theorem swap_size {l : List Nat} (hb : Bas l) {a b x y : Nat} (ha : a ∈ l) (hx : subB x (dif a b) = true) (hy : subB y (dif b a) = true) (hm : (dif a x ||| y) ∈ l) : pop y = pop x := by
  have h1 := hb.size _ hm a ha
  have d : dif a x &&& y = 0 := Nat.eq_of_testBit_eq fun i => by
    rw [Nat.testBit_and, dif_bit]
    have := subB_iff.1 hy i
    rw [dif_bit] at this
    cases e1 : a.testBit i <;> cases e2 : y.testBit i <;> simp_all
  have p1 := pop_disj d
  have p2 := pop_dif a x
  have e : a &&& x = x := by
    rw [Nat.and_comm]
    exact sub_and (sub_trans hx (dif_subl a b))
  rw [e] at p2
  omega
theorem swap_disj1 {a b x y : Nat} (hy : subB y (dif b a) = true) : dif a x &&& y = 0 := Nat.eq_of_testBit_eq fun i => by
  rw [Nat.testBit_and, dif_bit]
  have := subB_iff.1 hy i
  rw [dif_bit] at this
  cases e1 : a.testBit i <;> cases e2 : y.testBit i <;> simp_all
theorem swap_disj2 {a b x y : Nat} (hx : subB x (dif a b) = true) : dif b y &&& x = 0 := Nat.eq_of_testBit_eq fun i => by
  rw [Nat.testBit_and, dif_bit]
  have := subB_iff.1 hx i
  rw [dif_bit] at this
  cases e1 : b.testBit i <;> cases e2 : x.testBit i <;> simp_all
set_option maxRecDepth 20000 in
set_option maxHeartbeats 2000000 in
theorem SwappedQ_ok (y a b x m pb pa px pm : Nat) (v : Value) (l : List Nat) (w : World) (hy : y < 256) (hbs : Bas l) (hal : a ∈ l) (hbl : b ∈ l) (hx : subB x (dif a b) = true) (h : Ints w v (N l))
    (cb : w.cell? ⟨pb, 0, none⟩ = some (.int .i64 b)) (ca : w.cell? ⟨pa, 0, none⟩ = some (.int .i64 a)) (cx : w.cell? ⟨px, 0, none⟩ = some (.int .i64 x)) (_cm : w.cell? ⟨pm, 0, none⟩ = some (.int .i64 m)) (cm' : w.cell? ⟨pm, 1, none⟩ = some v) :
    Calls Try.prog 79 #[.int .i64 y, .pointer (some ⟨pb, 0, none⟩), .pointer (some ⟨pa, 0, none⟩), .pointer (some ⟨px, 0, none⟩), .pointer (some ⟨pm, 0, none⟩)] w fun e w' => e = .returned (.bool (swapB l a b x y)) ∧ Below w.heap.size w w' := by
  have ha := hbs.lt a hal
  have hb := hbs.lt b hbl
  have hx8 : x < 256 := sub_lt (n := 8) hx (dif_lt ha)
  have hba : bits .andNot .i64 (b : Int) (a : Int) = ((dif b a : Nat) : Int) := i64_andNot_nat b a (by omega) (by omega)
  have hax : bits .andNot .i64 (a : Int) (x : Int) = ((dif a x : Nat) : Int) := i64_andNot_nat a x (by omega) (by omega)
  have hby : bits .andNot .i64 (b : Int) (y : Int) = ((dif b y : Nat) : Int) := i64_andNot_nat b y (by omega) (by omega)
  have hd1 := dif_lt (b := a) hb
  have hd2 := dif_lt (b := x) ha
  have hd3 := dif_lt (b := y) hb
  have HWI := hid (fun w => Within_any y (dif b a) w hy hd1)
  have S1 := hid (fun w => Size_any y w hy)
  have S2 := hid (fun w => Size_any x w hx8)
  have SB : Hid (swapB l a b x y = (subB y (dif b a) && memB (dif a x ||| y) l && memB (dif b y ||| x) l)) := rfl
  have SZ : Hid (subB y (dif b a) = true → memB (dif a x ||| y) l = true → pop y = pop x) := fun h1 h2 => swap_size hbs hal hx h1 (by unfold memB at h2; simpa using h2)
  have A1 : Hid (subB y (dif b a) = true → dif a x + y = dif a x ||| y) := fun h1 => add_disj _ hd2 _ hy (swap_disj1 h1)
  have A2 : Hid (dif b y + x = dif b y ||| x) := add_disj _ hd3 _ hx8 (swap_disj2 hx)
  have HV := hid h
  obtain ⟨sa, scap, rfl, _, _⟩ := h
  have hp1 := pop_le y hy
  have hp2 := pop_le x hx8
  generalize swapB l a b x y = res at *
  have cb' : ∀ z : Later w, z.now.cell? ⟨pb, 0, none⟩ = some (.int .i64 b) := fun z => (z.kept.cell (p := ⟨pb, 0, none⟩) (World.block_lt_of_cell? w _ cb)).trans cb
  have ca' : ∀ z : Later w, z.now.cell? ⟨pa, 0, none⟩ = some (.int .i64 a) := fun z => (z.kept.cell (p := ⟨pa, 0, none⟩) (World.block_lt_of_cell? w _ ca)).trans ca
  have cm1 : ∀ z : Later w, z.now.cell? ⟨pm, 1, none⟩ = some (.slice sa (N l).length scap) := fun z => (z.kept.cell (p := ⟨pm, 1, none⟩) (World.block_lt_of_cell? w _ cm')).trans cm'
  have cx' : ∀ z : Later w, z.now.cell? ⟨px, 0, none⟩ = some (.int .i64 x) := fun z => (z.kept.cell (p := ⟨px, 0, none⟩) (World.block_lt_of_cell? w _ cx)).trans cx
  have H1 := hid (fun z : Later w => HasZ_any _ (N l) ((dif a x : Int) + (y : Int)) z.now (HV.out.below z.kept))
  have H2 := hid (fun z : Later w => HasZ_any _ (N l) ((dif b y : Int) + (x : Int)) z.now (HV.out.below z.kept))
  have a2 := A2.out
  have e2 : memZ ((dif b y : Int) + (x : Int)) (N l) = memB (dif b y ||| x) l := by rw [← memZ_N, ← a2]; simp
  rw [e2] at H2
  have E1 : Hid (subB y (dif b a) = true → memZ ((dif a x : Int) + (y : Int)) (N l) = memB (dif a x ||| y) l) := fun h1 => by rw [← memZ_N, ← A1.out h1]; simp
  clear cb ca cx _cm cm' a2 e2 A1 A2 hal hbl hbs HV
  generalize hpy : pop y = py at *
  generalize hpx : pop x = px' at *
  have hn1 : (0 : Int) ≤ (dif a x : Int) + (y : Int) := by omega
  generalize memB (dif b y ||| x) l = k2 at *
  generalize memB (dif a x ||| y) l = k1 at *
  rcases q1 : subB y (dif b a) with _ | _
  · rw [q1] at HWI SB
    simp only [Bool.false_and] at SB
    clear q1 SZ E1
    go_enter Try.func79, Try.ntmps79
    go_wp2_with fail
    refine region_later (by kernel_rfl) (by kernel_rfl) ?_
    repeat (go_big_quiet_step ((go_at_call 35; refine (HWI.out _).mono ?_; rintro e w' ⟨rfl, rfl⟩; exact ⟨rfl, Later.on _ (Below.refl _ _)⟩)))
    refine wpQuiet_nil ?_
    intro w6 hw'
    obtain ⟨⟨y6, hb6⟩, hw''⟩ := hw'
    dsimp only at hw''
    subst hw''
    have HB := hid hb6
    clear hb6
    go_wp2_with fail
    go_ret
    exact ⟨ret_bool SB.out.symm, HB.out⟩
  · have e1 := E1.out q1
    have sz := SZ.out q1
    rw [q1] at HWI SB
    rw [e1] at H1
    simp only [Bool.true_and] at SB
    clear q1 SZ E1 e1
    by_cases q2 : py = px'
    · subst q2
      have qe : ((py : Int) == (py : Int)) = true := by simp
      rcases k1 with _ | _
      · simp only [Bool.false_and] at SB
        go_enter Try.func79, Try.ntmps79
        go_wp2_with fail
        refine region_later (by kernel_rfl) (by kernel_rfl) ?_
        repeat (go_big_quiet_step ((first
          | (go_at_call 35; refine (HWI.out _).mono ?_; rintro e w' ⟨rfl, rfl⟩; exact ⟨rfl, Later.on _ (Below.refl _ _)⟩)
          | (go_at_call 13; with_reducible refine (S1.out _).mono ?_; rintro e w' ⟨rfl, hb9⟩; exact ⟨rfl, Later.on _ hb9⟩)
          | (go_at_call 13; with_reducible refine (S2.out _).mono ?_; rintro e w' ⟨rfl, hb9⟩; exact ⟨rfl, Later.on _ hb9⟩)
          | (go_at_call 33; with_reducible refine (H1.out _).mono ?_; rintro e w' ⟨rfl, rfl⟩; exact ⟨rfl, Later.on _ (Below.refl _ _)⟩)
          | (go_at_call 33; with_reducible refine (H2.out _).mono ?_; rintro e w' ⟨rfl, rfl⟩; exact ⟨rfl, Later.on _ (Below.refl _ _)⟩))))
        refine wpQuiet_nil ?_
        intro w6 hw'
        obtain ⟨⟨y6, hb6⟩, hw''⟩ := hw'
        dsimp only at hw''
        subst hw''
        have HB := hid hb6
        clear hb6
        go_wp2_with fail
        go_ret
        exact ⟨ret_bool SB.out.symm, HB.out⟩
      · simp only [Bool.true_and] at SB
        go_enter Try.func79, Try.ntmps79
        go_wp2_with fail
        refine region_later (by kernel_rfl) (by kernel_rfl) ?_
        repeat (go_big_quiet_step ((first
          | (go_at_call 35; refine (HWI.out _).mono ?_; rintro e w' ⟨rfl, rfl⟩; exact ⟨rfl, Later.on _ (Below.refl _ _)⟩)
          | (go_at_call 13; with_reducible refine (S1.out _).mono ?_; rintro e w' ⟨rfl, hb9⟩; exact ⟨rfl, Later.on _ hb9⟩)
          | (go_at_call 13; with_reducible refine (S2.out _).mono ?_; rintro e w' ⟨rfl, hb9⟩; exact ⟨rfl, Later.on _ hb9⟩)
          | (go_at_call 33; with_reducible refine (H1.out _).mono ?_; rintro e w' ⟨rfl, rfl⟩; exact ⟨rfl, Later.on _ (Below.refl _ _)⟩)
          | (go_at_call 33; with_reducible refine (H2.out _).mono ?_; rintro e w' ⟨rfl, rfl⟩; exact ⟨rfl, Later.on _ (Below.refl _ _)⟩))))
        refine wpQuiet_nil ?_
        intro w6 hw'
        obtain ⟨⟨y6, hb6⟩, hw''⟩ := hw'
        dsimp only at hw''
        subst hw''
        have HB := hid hb6
        clear hb6
        go_wp2_with fail
        go_ret
        exact ⟨ret_bool SB.out.symm, HB.out⟩
    · have k1f : k1 = false := by
        cases k1 with
        | false => rfl
        | true => exact absurd (sz rfl) q2
      subst k1f
      have qe : ((py : Int) == (px' : Int)) = false := by rw [beq_eq_false_iff_ne]; omega
      simp only [Bool.false_and] at SB
      clear sz
      go_enter Try.func79, Try.ntmps79
      go_wp2_with fail
      refine region_later (by kernel_rfl) (by kernel_rfl) ?_
      repeat (go_big_quiet_step ((first
        | (go_at_call 35; refine (HWI.out _).mono ?_; rintro e w' ⟨rfl, rfl⟩; exact ⟨rfl, Later.on _ (Below.refl _ _)⟩)
        | (go_at_call 13; with_reducible refine (S1.out _).mono ?_; rintro e w' ⟨rfl, hb9⟩; exact ⟨rfl, Later.on _ hb9⟩)
        | (go_at_call 13; with_reducible refine (S2.out _).mono ?_; rintro e w' ⟨rfl, hb9⟩; exact ⟨rfl, Later.on _ hb9⟩)
        | (go_at_call 33; with_reducible refine (H1.out _).mono ?_; rintro e w' ⟨rfl, rfl⟩; exact ⟨rfl, Later.on _ (Below.refl _ _)⟩)
        | (go_at_call 33; with_reducible refine (H2.out _).mono ?_; rintro e w' ⟨rfl, rfl⟩; exact ⟨rfl, Later.on _ (Below.refl _ _)⟩))))
      refine wpQuiet_nil ?_
      intro w6 hw'
      obtain ⟨⟨y6, hb6⟩, hw''⟩ := hw'
      dsimp only at hw''
      subst hw''
      have HB := hid hb6
      clear hb6
      go_wp2_with fail
      go_ret
      exact ⟨ret_bool SB.out.symm, HB.out⟩
set_option maxRecDepth 20000 in
set_option maxHeartbeats 2000000 in
theorem Swapped_ok (m a b x : Nat) (v : Value) (l : List Nat) (w : World) (h : Ints w v (N l)) (hm : m ≤ 8) (hbs : Bas l) (hal : a ∈ l) (hbl : b ∈ l) (hx : subB x (dif a b) = true) (y : Nat) (ys : List Nat) (hy : (List.range (2 ^ m)).filter (swapB l a b x) = y :: ys) :
    Calls Try.prog 36 #[.agg #[.int .i64 m, v], .int .i64 a, .int .i64 b, .int .i64 x] w fun e w' => e = .returned (.tuple #[.int .i64 y, .bool true]) ∧ Below w.heap.size w w' := by
  have T8 : (2 : Nat) ^ m ≤ 256 := (pow_wrap m hm).2
  have b1 : Below w.heap.size w ((((w.alloc (.cells #[.int .i64 m, v] 34)).alloc (.cells #[.int .i64 a] 3)).alloc (.cells #[.int .i64 b] 3)).alloc (.cells #[.int .i64 x] 3)) := ((((Below.refl _ w).alloc (Nat.le_refl _) _).alloc (by simp) _).alloc (by simp; omega) _).alloc (by simp; omega) _
  have c0 := two_cells (World.alloc_heap_new w (.cells #[.int .i64 m, v] 34))
  have c1 := cellN (w.alloc (.cells #[.int .i64 m, v] 34)) (.int .i64 a) 3
  have c2 := cellN ((w.alloc (.cells #[.int .i64 m, v] 34)).alloc (.cells #[.int .i64 a] 3)) (.int .i64 b) 3
  have c3 := cellN (((w.alloc (.cells #[.int .i64 m, v] 34)).alloc (.cells #[.int .i64 a] 3)).alloc (.cells #[.int .i64 b] 3)) (.int .i64 x) 3
  simp only [World.size_alloc] at c1 c2 c3
  have k0 := cellA (.cells #[.int .i64 x] 3) (cellA (.cells #[.int .i64 b] 3) (cellA (.cells #[.int .i64 a] 3) c0.1))
  have k0' := cellA (.cells #[.int .i64 x] 3) (cellA (.cells #[.int .i64 b] 3) (cellA (.cells #[.int .i64 a] 3) c0.2.1))
  have k1 := cellA (.cells #[.int .i64 x] 3) (cellA (.cells #[.int .i64 b] 3) c1.1)
  have k2 := cellA (.cells #[.int .i64 x] 3) c2.1
  have k3 := c3.1
  have HV := hid (h.below b1)
  have HB := hid b1
  obtain ⟨sa, scap, rfl, _, _⟩ := h
  clear c0 c1 c2 c3 b1
  go_enter Try.func36, Try.ntmps36
  obtain ⟨W0, hW0⟩ : ∃ W0, ((((w.alloc (.cells #[.int .i64 m, .slice sa (N l).length scap] 34)).alloc (.cells #[.int .i64 a] 3)).alloc (.cells #[.int .i64 b] 3)).alloc (.cells #[.int .i64 x] 3)) = W0 := ⟨_, rfl⟩
  rw [hW0] at k0 k0' k1 k2 k3 HV HB
  have TH := hid (Those_any m 79 #[.pointer (some ⟨w.heap.size + 1 + 1, 0, none⟩), .pointer (some ⟨w.heap.size + 1, 0, none⟩), .pointer (some ⟨w.heap.size + 1 + 1 + 1, 0, none⟩), .pointer (some ⟨w.heap.size, 0, none⟩)] (swapB l a b x) W0 hm (enters_of Try.func79 (by kernel_rfl) rfl) (fun y hy w2 hb2 _ =>
    SwappedQ_ok y a b x m _ _ _ _ _ l w2 (by omega) hbs hal hbl hx (HV.out.below hb2) ((hb2.cell (World.block_lt_of_cell? W0 _ k2)).trans k2) ((hb2.cell (World.block_lt_of_cell? W0 _ k1)).trans k1) ((hb2.cell (World.block_lt_of_cell? W0 _ k3)).trans k3) ((hb2.cell (World.block_lt_of_cell? W0 _ k0)).trans k0) ((hb2.cell (World.block_lt_of_cell? W0 _ k0')).trans k0')))
  go_wp2_with fail
  refine TH.out.mono ?_
  rintro e w3 ⟨r, rfl, hown, hb3⟩
  have hlen := rg_le (swapB l a b x) (2 ^ m)
  rw [hy] at hown hlen
  obtain ⟨ra, rcap, rfl, _, hcl⟩ := hown.ints (by omega)
  have hlz : (N (y :: ys)).length = ys.length + 1 := by unfold N; simp
  rw [hlz] at hcl ⊢
  obtain ⟨rb, roff, rfl, _, hcell⟩ := hcl (by omega)
  have h0 : w3.cell? ⟨rb, roff, none⟩ = some (.int .i64 y) := hcell 0 (by omega)
  have hl1 : (0 : Int) < ((ys.length + 1 : Nat) : Int) := by omega
  have HB3 := hid (HB.out.trans (hb3.mono HB.out.size))
  clear hb3 hcell hcl hlz hlen hW0
  obtain ⟨L, HL⟩ : ∃ L, Hid (ys.length + 1 = L) := ⟨_, Eq.refl (ys.length + 1)⟩
  have hL0 : ((L : Int) == 0) = false := by rw [beq_eq_false_iff_ne, ← HL.out]; omega
  rw [HL.out] at hl1 ⊢
  clear HL
  go_wp2_with fail
  go_ret2
  exact ⟨rfl, HB3.out⟩
end Go.Proofs.Ytimciginbiobmaa
