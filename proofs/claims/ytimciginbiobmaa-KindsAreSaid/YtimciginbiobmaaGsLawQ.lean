/- The law rotakeep.GreedySwap. -/
import Derived.Test.YtimciginbiobmaaGrLQ
import Derived.Test.YtimciginbiobmaaThoseQ
namespace Go.Proofs.Ytimciginbiobmaa
open Go.RowKit

/-- What Pick picks. -/
def pickN (p : Int) (n : Nat) : Nat := ((if p < 0 then -(p + 1) else p) % (n : Int)).toNat
theorem pickN_lt (p : Int) {n : Nat} (hn : 0 < n) : pickN p n < n := by
  unfold pickN
  have := Int.emod_nonneg (if p < 0 then -(p + 1) else p) (show (n : Int) ≠ 0 by omega)
  have := Int.emod_lt_of_pos (if p < 0 then -(p + 1) else p) (show (0 : Int) < n by omega)
  omega
theorem PickG_any (p : Int) (n : Nat) (w : World) (h1 : -9223372036854775808 ≤ p) (h2 : p ≤ 9223372036854775807) (hn : 0 < n) (hn2 : n ≤ 256) :
    Calls Try.prog 30 #[.int .i64 p, .int .i64 n] w fun e w' => e = .returned (.int .i64 (pickN p n)) ∧ w' = w := by
  have hz : ((n : Int) == 0) = false := by rw [beq_eq_false_iff_ne]; omega
  have PN : Hid (pickN p n = ((if p < 0 then -(p + 1) else p) % (n : Int)).toNat) := rfl
  by_cases hp : p < 0
  · rw [if_pos hp] at PN
    generalize pickN p n = r at *
    go_enter Try.func30, Try.ntmps30
    go_wp2
    go_ret
    refine ⟨ret_int ?_, rfl⟩
    rw [PN.out]
    have e : -((p + 1).tmod (n : Int)) = (-(p + 1)) % (n : Int) := by rw [← Int.neg_tmod, Int.tmod_eq_emod_of_nonneg (by omega)]
    have := Int.emod_nonneg (-(p + 1)) (show (n : Int) ≠ 0 by omega)
    omega
  · rw [if_neg hp] at PN
    generalize pickN p n = r at *
    go_enter Try.func30, Try.ntmps30
    go_wp2
    go_ret
    refine ⟨ret_int ?_, rfl⟩
    rw [PN.out]
    have := Int.emod_nonneg p (show (n : Int) ≠ 0 by omega)
    omega
/-- What of x is within c, of whatever number. -/
theorem and_within (x : Int) {c : Nat} (hc : c < 256) : ∃ y : Nat, bits .and .i64 x (c : Int) = (y : Int) ∧ subB y c = true := by
  refine ⟨(BitVec.ofInt 64 x).toNat &&& c, ?_, subB_iff.2 fun i hi => by rw [Nat.testBit_and] at hi; simp at hi; exact hi.2⟩
  have hlt : (BitVec.ofInt 64 x).toNat &&& c < 9223372036854775808 := Nat.lt_of_le_of_lt Nat.and_le_right (by omega)
  show IntKind.i64.wrap ((BitVec.ofInt 64 x &&& BitVec.ofInt 64 (c : Int)).toNat : Int) = _
  rw [BitVec.toNat_and, ofInt_i64 c (by omega), wrap_i64_nat _ hlt]
theorem two_swap : (List.range (2 ^ 4)).filter (swapB twoL 3 12 1) = 4 :: ((List.range (2 ^ 4)).filter (swapB twoL 3 12 1)).tail := by decide +kernel
/-- There is a swap. -/
theorem swap_is {m : Nat} {l : List Nat} (hm : m ≤ 8) (hf : Fam m l) (hb : Bas l) {a b x : Nat} (ha : a ∈ l) (hbb : b ∈ l) (hx : subB x (dif a b) = true) : ∃ y ys, (List.range (2 ^ m)).filter (swapB l a b x) = y :: ys ∧ swapB l a b x y = true ∧ y < 2 ^ m := by
  obtain ⟨y, h1, _, h2, h3⟩ := greene hm hf hb ha hbb hx
  have hm1 : y ∈ (List.range (2 ^ m)).filter (swapB l a b x) := by
    rw [List.mem_filter, List.mem_range]
    refine ⟨sub_lt h1 (difn_lt (hf.lt b hbb)), ?_⟩
    unfold swapB memB
    simp [h1, h2, h3]
  cases e : (List.range (2 ^ m)).filter (swapB l a b x) with
  | nil => rw [e] at hm1; simp at hm1
  | cons z zs =>
    have hz : z ∈ (List.range (2 ^ m)).filter (swapB l a b x) := by rw [e]; simp
    rw [List.mem_filter, List.mem_range] at hz
    exact ⟨z, zs, rfl, hz.2, hz.1⟩
/-- What a ladder is. -/
theorem lad_facts {l : List Nat} (hb : Bas l) {a b : Nat} (ha : a ∈ l) (hbb : b ∈ l) : (ladder l a b).length = pop (dif a b) + 1 ∧ (ladder l a b).getD 0 0 = a ∧ (ladder l a b).getD (pop (dif a b)) 0 = b ∧ (∀ j, j < (ladder l a b).length → (ladder l a b).getD j 0 ∈ l) ∧ (∀ j, j + 1 < (ladder l a b).length → pop (dif ((ladder l a b).getD (j + 1) 0) ((ladder l a b).getD j 0)) = 1) := by
  obtain ⟨h1, h2, h3⟩ := lad_rungs hb hbb (pop (dif a b)) a ha rfl
  have hl := ladder_len (l := l) a b
  refine ⟨hl, ?_, ?_, fun j hj => ?_, h3⟩
  · unfold ladder
    cases pop (dif a b) <;> rfl
  · have h4 : (ladder l a b).getLast? = some b := h1
    rw [List.getLast?_eq_getElem?, hl] at h4
    simp only [List.getD, Nat.add_sub_cancel] at h4 ⊢
    rw [h4]
    rfl
  · refine h2 _ ?_
    show (ladder l a b).getD j 0 ∈ ladder l a b
    simp only [List.getD, List.getElem?_eq_getElem hj, Option.getD_some]
    exact List.getElem_mem _
set_option maxRecDepth 100000 in
set_option maxHeartbeats 4000000 in
theorem gswap_law (n : Int) (v : Value) (zs : List Int) (i k x : Int) (w : World) (h : Ints w v zs) (bi : -9223372036854775808 ≤ i ∧ i ≤ 9223372036854775807) (bk : -9223372036854775808 ≤ k ∧ k ≤ 9223372036854775807) :
    Calls Try.prog 7 #[.agg #[.int .i64 n, v], .int .i64 i, .int .i64 k, .int .i64 x] w fun e w' => e = .returned (.bool true) ∧ Below w.heap.size w w' := by
  have B0 := below_box w #[.int .i64 n, v]
  have HV0 := hid (h.below B0)
  obtain ⟨a0, cap, rfl, _, _⟩ := h
  go_enter Try.func7, Try.ntmps7
  go_wp2_with fail
  refine (two_any _).mono ?_
  rintro e w1 ⟨v1, rfl, hi1, hb1⟩
  have SW := hid (Swap_ok 4 3 12 1 v1 twoL w1 hi1 (by omega) two_fam two_bas (by decide) (by decide) (by decide) 4 _ two_swap)
  obtain ⟨z0, z1⟩ := box_cells hb1
  have HB1 := hid (B0.trans (hb1.mono B0.size))
  have HV1 := hid (HV0.out.below hb1)
  have hs1 := hb1.size
  rw [World.size_alloc] at hs1
  clear hi1 hb1 B0 HV0
  go_wp2_with fail
  refine SW.out.mono ?_
  rintro e w2 ⟨rfl, hb2⟩
  have y0 := (hb2.cell (p := ⟨w.heap.size, 0, none⟩) (by show w.heap.size < _; omega)).trans z0
  have y1 := (hb2.cell (p := ⟨w.heap.size, 1, none⟩) (by show w.heap.size < _; omega)).trans z1
  have HB2 := hid (HB1.out.trans (hb2.mono HB1.out.size))
  have HV2 := hid (HV1.out.below hb2)
  have hs2 : w.heap.size + 1 ≤ w2.heap.size := Nat.le_trans hs1 hb2.size
  clear hb2 z0 z1 HB1 HV1 hs1 SW
  have CK := hid (check_any n _ zs w2 HV2.out)
  go_wp2_with fail
  refine CK.out.mono ?_
  rintro e w3 ⟨rfl, hb3⟩
  by_cases hc : chkR n zs = 0
  · obtain ⟨m, l, rfl, hm, rfl, hf, hb⟩ := chk_of hc
    rw [hc]
    have z0 := (hb3.cell (p := ⟨w.heap.size, 0, none⟩) (by show w.heap.size < _; omega)).trans y0
    have z1 := (hb3.cell (p := ⟨w.heap.size, 1, none⟩) (by show w.heap.size < _; omega)).trans y1
    have HB3 := hid (HB2.out.trans (hb3.mono HB2.out.size))
    have HV3 := hid (HV2.out.below hb3)
    have hs3 : w.heap.size + 1 ≤ w3.heap.size := Nat.le_trans hs2 hb3.size
    clear hb3 y0 y1 HB2 HV2 hs2 CK hc
    have hl0 : 0 < l.length := List.length_pos_iff.2 hb.ne
    have hl256 : l.length ≤ 256 := by
      have := fam_len hm hf
      omega
    rw [show (N l).length = l.length by simp [N]] at *
    have P1 := hid (fun w => PickG_any i l.length w bi.1 bi.2 hl0 hl256)
    have P2 := hid (fun w => PickG_any k l.length w bk.1 bk.2 hl0 hl256)
    have r1 := pickN_lt i hl0
    have r2 := pickN_lt k hl0
    generalize pickN i l.length = p1 at *
    generalize pickN k l.length = p2 at *
    obtain ⟨b0, off0, rfl, cA, cB⟩ : ∃ b0 off0, a0 = some ⟨b0, off0, none⟩ ∧ w3.cell? ⟨b0, off0 + p1, none⟩ = some (.int .i64 (l.getD p1 0 : Nat)) ∧ w3.cell? ⟨b0, off0 + p2, none⟩ = some (.int .i64 (l.getD p2 0 : Nat)) := by
      obtain ⟨q1, q2, q3, q4, q5⟩ := HV3.out.nats
      obtain ⟨b0, off0, rfl, hbb, hcl⟩ := q5 (by omega)
      obtain ⟨rfl, rfl⟩ : a0 = some ⟨b0, off0, none⟩ ∧ cap = q2 := by simpa using q3
      exact ⟨b0, off0, rfl, hcl p1 r1, hcl p2 r2⟩
    have hal : l.getD p1 0 ∈ l := by simp only [List.getD, List.getElem?_eq_getElem r1, Option.getD_some]; exact List.getElem_mem _
    have hbl : l.getD p2 0 ∈ l := by simp only [List.getD, List.getElem?_eq_getElem r2, Option.getD_some]; exact List.getElem_mem _
    generalize l.getD p1 0 = a at *
    generalize l.getD p2 0 = b at *
    have ha8 := hb.lt a hal
    have hb8 := hb.lt b hbl
    have r1' : (p1 : Int) < (l.length : Int) := by omega
    have r2' : (p2 : Int) < (l.length : Int) := by omega
    go_wp2_with fail
    go_quiet ((first
      | (go_at_call 30; with_reducible refine (P1.out _).mono ?_; rintro e w' ⟨rfl, rfl⟩; exact ⟨rfl, _, rfl⟩)
      | (go_at_call 30; with_reducible refine (P2.out _).mono ?_; rintro e w' ⟨rfl, rfl⟩; exact ⟨rfl, _, rfl⟩)))
    have hab : bits .andNot .i64 (a : Int) (b : Int) = ((dif a b : Nat) : Int) := i64_andNot_nat a b (by omega) (by omega)
    obtain ⟨x', hx1, hx2⟩ := and_within x (dif_lt (b := b) ha8)
    have k0 : (w3.drewN nq).cell? ⟨w.heap.size, 0, none⟩ = some (.int .i64 m) := z0
    have k1 : (w3.drewN nq).cell? ⟨w.heap.size, 1, none⟩ = some (.slice (some ⟨b0, off0, none⟩) l.length cap) := z1
    have HV4 : Hid (Ints (w3.drewN nq) (.slice (some ⟨b0, off0, none⟩) l.length cap) (N l)) := HV3.out.below (drewN_below _ _ _)
    have HB4 : Hid (Below w.heap.size w (w3.drewN nq)) := HB3.out.trans (drewN_below _ _ _)
    have hs4 : w.heap.size + 1 ≤ (w3.drewN nq).heap.size := hs3
    clear z0 z1 HV3 HB3 hs3 cA cB
    generalize w3.drewN nq = w4 at *
    obtain ⟨y, ys, hy, hy1, hy2⟩ := swap_is hm hf hb hal hbl hx2
    have SW := hid (Swap_ok m a b x' _ l w4 HV4.out hm hf hb hal hbl hx2 y ys hy)
    have hx8 : x' < 256 := sub_lt (n := 8) hx2 (dif_lt ha8)
    have hy8 : y < 256 := lt256 hm hy2
    clear hy
    unfold swapB at hy1
    rw [Bool.and_eq_true, Bool.and_eq_true] at hy1
    obtain ⟨⟨s1, s2⟩, s3⟩ := hy1
    have hba : bits .andNot .i64 (b : Int) (a : Int) = ((dif b a : Nat) : Int) := i64_andNot_nat b a (by omega) (by omega)
    have hax : bits .andNot .i64 (a : Int) (x' : Int) = ((dif a x' : Nat) : Int) := i64_andNot_nat a x' (by omega) (by omega)
    have hby : bits .andNot .i64 (b : Int) (y : Int) = ((dif b y : Nat) : Int) := i64_andNot_nat b y (by omega) (by omega)
    have d1 := dif_lt (b := a) hb8
    have d2 := dif_lt (b := x') ha8
    have d3 := dif_lt (b := y) hb8
    have d4 := dif_lt (b := b) ha8
    have ho1 : bits .or .i64 (dif a x' : Int) (y : Int) = ((dif a x' ||| y : Nat) : Int) := i64_or_nat _ _ (by omega) (by omega)
    have ho2 : bits .or .i64 (dif b y : Int) (x' : Int) = ((dif b y ||| x' : Nat) : Int) := i64_or_nat _ _ (by omega) (by omega)
    have WI := hid (fun w => Within_any y (dif b a) w hy8 d1)
    rw [s1] at WI
    go_wp2_with fail
    refine SW.out.mono ?_
    rintro e w5 ⟨rfl, hb5⟩
    have z0 := (hb5.cell (p := ⟨w.heap.size, 0, none⟩) (by show w.heap.size < _; omega)).trans k0
    have z1 := (hb5.cell (p := ⟨w.heap.size, 1, none⟩) (by show w.heap.size < _; omega)).trans k1
    have HV5 := hid (HV4.out.below hb5)
    have HB5 := hid (HB4.out.trans (hb5.mono HB4.out.size))
    have hs5 : w.heap.size + 1 ≤ w5.heap.size := Nat.le_trans hs4 hb5.size
    clear hb5 k0 k1 HV4 HB4 hs4 SW
    have C1 := hid (Contains_any _ l (dif a x' ||| y) w5 HV5.out)
    have C2 := hid (Contains_any _ l (dif b y ||| x') w5 HV5.out)
    rw [s2] at C1
    rw [s3] at C2
    clear s1 s2 s3
    generalize dif a x' ||| y = t1 at *
    generalize dif b y ||| x' = t2 at *
    have LAD := hid (Ladder_ok m a b _ l w5 HV5.out hm hf hb hal hbl)
    go_wp2_with fail
    refine (WI.out _).mono ?_
    rintro e w' ⟨rfl, hw'⟩
    obtain rfl := hw'.symm
    go_wp2_with fail
    refine C1.out.mono ?_
    rintro e w' ⟨rfl, hw'⟩
    obtain rfl := hw'.symm
    go_wp2_with fail
    refine C2.out.mono ?_
    rintro e w' ⟨rfl, hw'⟩
    obtain rfl := hw'.symm
    go_wp2_with fail
    refine LAD.out.mono ?_
    rintro e w6 ⟨r6, rfl, ho6, hb6⟩
    have y0 := (hb6.cell (p := ⟨w.heap.size, 0, none⟩) (by show w.heap.size < _; omega)).trans z0
    have y1 := (hb6.cell (p := ⟨w.heap.size, 1, none⟩) (by show w.heap.size < _; omega)).trans z1
    have HV6 := hid (HV5.out.below hb6)
    have HB6 := hid (HB5.out.trans (hb6.mono HB5.out.size))
    have hs6 : w.heap.size + 1 ≤ w6.heap.size := Nat.le_trans hs5 hb6.size
    clear hb6 z0 z1 HV5 HB5 hs5 LAD C1 C2 WI ho1 ho2 hax hby d2 d3
    obtain ⟨g1, g2, g3, g4, g5⟩ := lad_facts hb hal hbl
    generalize ladder l a b = L at *
    have hd9 := pop_le _ d4
    obtain ⟨ra, rcap, rfl, _, hcl⟩ := (ho6.ints (by omega)).nats
    obtain ⟨rb, roff, rfl, hrb, hcell⟩ := hcl (by omega)
    have HCL := hid hcell
    have HC1 := hid (hcl)
    have ci0 : w6.cell? ⟨rb, roff, none⟩ = some (.int .i64 a) := by have := hcell 0 (by omega); rw [g2] at this; exact this
    have SZ := hid (fun w => Size_any (dif a b) w d4)
    have hGP : Hid (L.length = pop (dif a b) + 1) := g1
    have g1i : ((L.length : Nat) : Int) = (pop (dif a b) : Int) + 1 := by omega
    have g1n : ¬ ((L.length : Nat) : Int) = 0 := by omega
    clear hcl
    go_wp2_with fail
    refine (SZ.out _).mono ?_
    rintro e w7 ⟨rfl, hb7⟩
    have z0 := (hb7.cell (p := ⟨w.heap.size, 0, none⟩) (by show w.heap.size < _; omega)).trans y0
    have z1 := (hb7.cell (p := ⟨w.heap.size, 1, none⟩) (by show w.heap.size < _; omega)).trans y1
    have HV7 := hid (HV6.out.below hb7)
    have HB7 := hid (HB6.out.trans (hb7.mono HB6.out.size))
    have hs7 : w.heap.size + 1 ≤ w7.heap.size := Nat.le_trans hs6 hb7.size
    have HC7 : Hid (∀ i, i < L.length → w7.cell? ⟨rb, roff + i, none⟩ = some (.int .i64 (L.getD i 0 : Nat))) := fun i hi => (hb7.cell (p := ⟨rb, roff + i, none⟩) hrb).trans (hcell i hi)
    have c70 := (hb7.cell (p := ⟨rb, roff, none⟩) hrb).trans ci0
    have c7l : w7.cell? ⟨rb, roff + pop (dif a b), none⟩ = some (.int .i64 b) := by have := HC7.out (pop (dif a b)) (by omega); rw [g3] at this; exact this
    have hrb7 : rb < w7.heap.size := Nat.lt_of_lt_of_le hrb hb7.size
    have G2 := hid g2
    have G3 := hid g3
    have G4 := hid g4
    have G5 := hid g5
    clear hb7 y0 y1 HV6 HB6 hs6 ci0 hcell HC1 HCL g2 g3 g4 g5 hrb ho6
    generalize pop (dif a b) = pd at *
    have hLp := hGP.out
    clear g1 g1i g1n hGP
    generalize L.length = LN at *
    subst hLp
    go_wp2_with fail
    go_loopw [138] (fun i wr => ∃ j : Nat, j ≤ pd + 1 ∧ i = .int .i64 j ∧ Hid (Below w7.heap.size w7 wr)) (fun i _ => pd + 1 - (intOf i).toNat)
    case atStart => exact ⟨0, Nat.zero_le _, rfl, Below.refl _ _⟩
    case round =>
      obtain ⟨j, hj, rfl, HW⟩ := hrel
      have hsw := HW.out.size
      by_cases hlt : j < pd + 1
      · have hji : (j : Int) < ((pd + 1 : Nat) : Int) := by omega
        have hji' : (j : Int) < (pd : Int) + 1 := by omega
        have t0 := (HW.out.cell (p := ⟨w.heap.size, 0, none⟩) (by show w.heap.size < _; omega)).trans z0
        have t1 := (HW.out.cell (p := ⟨w.heap.size, 1, none⟩) (by show w.heap.size < _; omega)).trans z1
        have tc := (HW.out.cell (p := ⟨rb, roff + j, none⟩) hrb7).trans (HC7.out j hlt)
        have CT := hid (Contains_any _ l (L.getD j 0) wr (HV7.out.below HW.out))
        rw [show memB (L.getD j 0) l = true by unfold memB; exact decide_eq_true (G4.out j hlt)] at CT
        have ht8 := hb.lt _ (G4.out j hlt)
        by_cases hj0 : j = 0
        · subst hj0
          rw [Nat.add_zero] at tc
          generalize L.getD 0 0 = t at *
          go_wp2_with fail
          refine CT.out.mono ?_
          rintro e w' ⟨rfl, hw'⟩
          obtain rfl := hw'.symm
          go_wp2_with fail
          go_roundw
          case rel => exact ⟨1, by omega, by go_num, HW⟩
          case measure => simp [intOf]
        · obtain ⟨jp, rfl⟩ : ∃ jp, j = jp + 1 := ⟨j - 1, by omega⟩
          have tp := (HW.out.cell (p := ⟨rb, roff + jp, none⟩) hrb7).trans (HC7.out jp (by omega))
          have hq8 := hb.lt _ (G4.out jp (by omega))
          have hone := G5.out jp hlt
          generalize L.getD (jp + 1) 0 = t at *
          generalize L.getD jp 0 = t' at *
          have hdd : bits .andNot .i64 (t : Int) (t' : Int) = ((dif t t' : Nat) : Int) := i64_andNot_nat t t' (by omega) (by omega)
          have SZ2 := hid (fun w => Size_any (dif t t') w (dif_lt ht8))
          rw [hone] at SZ2
          clear hone
          have hjp : ((jp + 1 : Nat) : Int) - 1 = (jp : Int) := by omega
          have hjp0 : (0 : Int) < ((jp + 1 : Nat) : Int) := by omega
          have hjp2 : (jp : Int) < ((pd + 1 : Nat) : Int) := by omega
          go_wp2_with fail
          refine CT.out.mono ?_
          rintro e w' ⟨rfl, hw'⟩
          obtain rfl := hw'.symm
          go_wp2_with fail
          refine (SZ2.out _).mono ?_
          rintro e w9 ⟨rfl, hb9⟩
          have HW9 := hid (HW.out.trans (hb9.mono HW.out.size))
          clear hb9
          go_wp2_with fail
          go_roundw
          case rel => exact ⟨jp + 1 + 1, by omega, by go_num, HW9⟩
          case measure => simp [intOf]; omega
      · obtain rfl : j = pd + 1 := by omega
        have t0 := (HW.out.cell (p := ⟨w.heap.size, 0, none⟩) (by show w.heap.size < _; omega)).trans z0
        have t1 := (HW.out.cell (p := ⟨w.heap.size, 1, none⟩) (by show w.heap.size < _; omega)).trans z1
        have HVr := hid (HV7.out.below HW.out)
        have HBr := hid (HB7.out.trans (HW.out.mono HB7.out.size))
        have hsr : w.heap.size + 1 ≤ wr.heap.size := Nat.le_trans hs7 hsw
        clear z0 z1 HV7 HB7 hs7 HC7 c70 c7l hrb7 G2 G3 G4 G5 HW hsw SZ
        have CI := hid (Circuits_ok m _ l wr hm hf hb HVr.out)
        go_wp2_with fail
        refine CI.out.mono ?_
        rintro e w8 ⟨r8, rfl, ho8, hb8'⟩
        have z0 := (hb8'.cell (p := ⟨w.heap.size, 0, none⟩) (by show w.heap.size < _; omega)).trans t0
        have z1 := (hb8'.cell (p := ⟨w.heap.size, 1, none⟩) (by show w.heap.size < _; omega)).trans t1
        have HV8 := hid (HVr.out.below hb8')
        have HB8 := hid (HBr.out.trans (hb8'.mono HBr.out.size))
        have hs8 : w.heap.size + 1 ≤ w8.heap.size := Nat.le_trans hsr hb8'.size
        have hl8 := rg_le (cirB (rk l)) (2 ^ m)
        have T8 : (2 : Nat) ^ m ≤ 256 := (pow_wrap m hm).2
        have HI8 := hid (ho8.ints (by omega))
        clear hb8' t0 t1 HVr HBr hsr CI ho8
        have CM : Hid (∀ c, c ∈ (List.range (2 ^ m)).filter (cirB (rk l)) ↔ c < 2 ^ m ∧ cirB (rk l) c = true) := fun c => by simp
        generalize (List.range (2 ^ m)).filter (cirB (rk l)) = C at *
        obtain ⟨ca, ccap, rfl, _, _⟩ := HI8.out.nats
        go_wp2_with fail
        go_loopw [171] (fun i wr => ∃ j : Nat, j ≤ m ∧ i = .int .i64 j ∧ Hid (Below w8.heap.size w8 wr)) (fun i _ => m - (intOf i).toNat)
        case atStart => exact ⟨0, Nat.zero_le _, rfl, Below.refl _ _⟩
        case round =>
          rename World => wq
          obtain ⟨j, hj, rfl, HW⟩ := hrel
          have hsw := HW.out.size
          by_cases hlt : j < m
          · have hji : (j : Int) < (m : Int) := by omega
            have t0 := (HW.out.cell (p := ⟨w.heap.size, 0, none⟩) (by show w.heap.size < _; omega)).trans z0
            have t1 := (HW.out.cell (p := ⟨w.heap.size, 1, none⟩) (by show w.heap.size < _; omega)).trans z1
            have IN := hid (fun w => In_any a j w ha8 (by omega))
            rcases hin : a.testBit j with _ | _
            · rw [hin] at IN
              have FO := hid (Fund_ok m l a j _ wq (HV8.out.below HW.out) hm hf hb hal hlt hin)
              obtain ⟨f1, f2, f3, f4⟩ := fund_cir hm hf hb hal hlt hin
              have f8 := lt256 hm f1
              have CT := hid (fun w9 (h9 : Below wq.heap.size wq w9) => Contains_any _ C (fund l a j) w9 ((HI8.out.below HW.out).below h9))
              rw [show memB (fund l a j) C = true by unfold memB; exact decide_eq_true ((CM.out _).2 ⟨f1, f2⟩)] at CT
              have hpw : wrap64 (2 ^ j) = ((2 ^ j : Nat) : Int) := (pow_wrap j (by omega)).1
              have hfd : bits .andNot .i64 (fund l a j : Int) (a : Int) = ((dif (fund l a j) a : Nat) : Int) := i64_andNot_nat _ _ (by omega) (by omega)
              rw [f4] at hfd
              generalize fund l a j = f at *
              have hjn : ¬ (j : Int) < 0 := by omega
              clear f1 f2 f3 f4 hin
              generalize hpj : 2 ^ j = pj at *
              have HPJ : Hid ((2 : Int) ^ j = (pj : Int)) := by show _ = _; rw [← hpj]; simp
              clear hpj
              go_wp2_with fail
              refine (IN.out _).mono ?_
              rintro e w' ⟨rfl, hw'⟩
              obtain rfl := hw'.symm
              go_wp2_with fail
              refine FO.out.mono ?_
              rintro e w9 ⟨rfl, hb9⟩
              have CT9 := hid (CT.out w9 hb9)
              have HW9 := hid (HW.out.trans (hb9.mono HW.out.size))
              clear hb9 CT
              go_wp2_with fail
              refine CT9.out.mono ?_
              rintro e w' ⟨rfl, hw'⟩
              obtain rfl := hw'.symm
              go_wp2_with fail
              go_roundw
              case rel => exact ⟨j + 1, by omega, by go_num, HW9⟩
              case measure => simp [intOf]; omega
            · rw [hin] at IN
              clear hin
              go_wp2_with fail
              refine (IN.out _).mono ?_
              rintro e w' ⟨rfl, hw'⟩
              obtain rfl := hw'.symm
              go_wp2_with fail
              go_roundw
              case rel => exact ⟨j + 1, by omega, by go_num, HW⟩
              case measure => simp [intOf]; omega
          · have HF := hid (HB8.out.trans (HW.out.mono HB8.out.size))
            obtain rfl : j = m := by omega
            go_wp2_with fail
            go_ret
            exact ⟨rfl, HF.out⟩
  · have hne : (chkR n zs != 0) = true := by simp [hc]
    have HB3 := hid (HB2.out.trans (hb3.mono HB2.out.size))
    generalize chkR n zs = q at *
    clear hb3
    go_wp2_with fail
    go_ret
    exact ⟨rfl, HB3.out⟩
end Go.Proofs.Ytimciginbiobmaa
