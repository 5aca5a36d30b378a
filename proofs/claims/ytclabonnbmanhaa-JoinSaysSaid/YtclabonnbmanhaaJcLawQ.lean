/- The law rotakeep.JoinCovers. -/
import Derived.Test.YtclabonnbmanhaaCvDQ
import Derived.Test.YtclabonnbmanhaaPlainAll
import Derived.Test.YtclabonnbmanhaaThoseQ
namespace Go.Proofs.Ytclabonnbmanhaa
open Go.RowKit

theorem two_free : NoLoop 4 (rk twoL) := by unfold NoLoop; decide +kernel
theorem two_cov : (covL 4 (rk twoL)).length = 2 := by
  rw [covL_len (by omega) (two_bas.rkOn 4) two_free]
  decide +kernel
theorem Up_any (a b : Nat) (w : World) (hb : 1 ≤ b) (ha : a ≤ 256) (hb2 : b ≤ 256) :
    Calls Try.prog 27 #[.int .i64 a, .int .i64 b] w fun e w' => e = .returned (.int .i64 ((a + b - 1) / b : Nat)) ∧ w' = w := by
  have hq : (a : Int) / (b : Int) = ((a / b : Nat) : Int) := (Int.natCast_ediv a b).symm
  have hm := Nat.div_add_mod a b
  have hml := Nat.mod_lt a hb
  have hle := Nat.div_le_self a b
  have hb0 : ((b : Int) == 0) = false := by rw [beq_eq_false_iff_ne]; omega
  have hb0' : ¬ (b : Int) = 0 := by omega
  have e : (a + b - 1) / b = if a % b = 0 then a / b else a / b + 1 := by
    split
    · rename_i h
      apply Nat.le_antisymm
      · rw [up_le hb, Nat.mul_comm]
        omega
      · exact Nat.div_le_div_right (by omega)
    · rename_i h
      apply Nat.le_antisymm
      · rw [up_le hb, Nat.succ_mul, Nat.mul_comm]
        omega
      · rw [Nat.le_div_iff_mul_le hb, Nat.succ_mul, Nat.mul_comm]
        omega
  have hmul : ((a / b : Nat) : Int) * (b : Int) = ((b * (a / b) : Nat) : Int) := by rw [Nat.mul_comm, Int.natCast_mul]
  have hml2 : b * (a / b) ≤ a := by omega
  rw [e]
  generalize a / b = q at *
  generalize b * q = p at *
  by_cases h0 : a % b = 0
  · rw [if_pos h0]
    have hlt : ¬ (p : Int) < (a : Int) := by omega
    go_enter Try.func27, Try.ntmps27
    go_wp2_with fail
    go_ret
    exact ⟨rfl, rfl⟩
  · rw [if_neg h0]
    have hlt : (p : Int) < (a : Int) := by omega
    go_enter Try.func27, Try.ntmps27
    go_wp2_with fail
    go_ret
    exact ⟨ret_int (by omega), rfl⟩
set_option maxRecDepth 100000 in
set_option maxHeartbeats 4000000 in
theorem jcovers_law (n : Int) (v : Value) (zs : List Int) (w : World) (h : Ints w v zs) :
    Calls Try.prog 4 #[.agg #[.int .i64 n, v]] w fun e w' => e = .returned (.bool true) ∧ Below w.heap.size w w' := by
  have B0 := below_box w #[.int .i64 n, v]
  have HV0 := hid (h.below B0)
  obtain ⟨a0, cap, rfl, -, -⟩ := h
  go_enter Try.func4, Try.ntmps4
  go_wp2_with fail
  refine (two_any _).mono ?_
  rintro e w1 ⟨v1, rfl, hi1, hb1⟩
  have CV := hid (Cover_ok 4 v1 twoL w1 (by omega) two_fam two_bas hi1 two_free)
  go_wp2_with fail
  refine CV.out.mono ?_
  rintro e w2 ⟨v2, rfl, ho2, hb2⟩
  obtain ⟨b2, c2, hv⟩ := ownsRow_form' ho2
  subst hv
  rw [two_cov]
  have hb12 := hb1.trans (hb2.mono hb1.size)
  obtain ⟨z0, z1⟩ := box_cells hb12
  have HB2 := hid (B0.trans (hb12.mono B0.size))
  have HV2 := hid (HV0.out.below hb12)
  have hs2 := hb12.size
  rw [World.size_alloc] at hs2
  clear hb1 hb2 hb12 hi1 ho2 CV B0 HV0
  by_cases hq : rwlQ n zs = 0
  · obtain ⟨m, l, rfl, hm, rfl, hf, hb, hl⟩ := rwlQ_of hq
    clear hq
    rw [N_len] at *
    have C1 := hid (Cover_ok m _ l w2 hm hf hb HV2.out hl)
    go_wp2_with fail
    refine C1.out.mono ?_
    rintro e w3 ⟨v3, rfl, ho3, hb3⟩
    obtain ⟨b3, c3, hv⟩ := ownsRow_form' ho3
    subst hv
    have HO3 := hid ho3
    have y0 := (hb3.cell (p := ⟨w.heap.size, 0, none⟩) (by show w.heap.size < _; omega)).trans z0
    have y1 := (hb3.cell (p := ⟨w.heap.size, 1, none⟩) (by show w.heap.size < _; omega)).trans z1
    have HB3 := hid (HB2.out.trans (hb3.mono HB2.out.size))
    have HV3 := hid (HV2.out.below hb3)
    have hs3 : w.heap.size + 1 ≤ w3.heap.size := Nat.le_trans hs2 hb3.size
    have D1 := hid (Dense_ok m _ l w3 hm hf hb HV3.out hl)
    clear hb3 ho3 z0 z1 C1 HV2 HB2 hs2
    go_wp2_with fail
    refine D1.out.mono ?_
    rintro e w4 ⟨rfl, hb4⟩
    have HO4 := hid (HO3.out.below hb4)
    have x0 := (hb4.cell (p := ⟨w.heap.size, 0, none⟩) (by show w.heap.size < _; omega)).trans y0
    have x1 := (hb4.cell (p := ⟨w.heap.size, 1, none⟩) (by show w.heap.size < _; omega)).trans y1
    have HB4 := hid (HB3.out.trans (hb4.mono HB3.out.size))
    have HV4 := hid (HV3.out.below hb4)
    have hs4 : w.heap.size + 1 ≤ w4.heap.size := Nat.le_trans hs3 hb4.size
    have R1 := hid (Ranks_ok m _ l w4 hm hf hb HV4.out)
    clear hb4 HO3 y0 y1 D1 HV3 HB3 hs3
    go_wp2_with fail
    refine R1.out.mono ?_
    rintro e w5 ⟨r5, rfl, hr5, hb5⟩
    have HR5 := hid hr5
    obtain ⟨rb, roff, rcap, rfl, -, -⟩ := hr5
    have HO5 := hid (HO4.out.below hb5)
    have y0 := (hb5.cell (p := ⟨w.heap.size, 0, none⟩) (by show w.heap.size < _; omega)).trans x0
    have HB5 := hid (HB4.out.trans (hb5.mono HB4.out.size))
    have hs5 : w.heap.size + 1 ≤ w5.heap.size := Nat.le_trans hs4 hb5.size
    clear hb5 HO4 x0 x1 R1 HV4 HB4 hs4
    have hr := hb.rkOn m
    have HDI := hid (dense_is hm hr hl)
    have HPA : Hid (∀ j, j < (covL m (rk l)).length → _) := fun j hj => cov_parts hm hr hl hj
    have HWH := hid (cov_whole hm hr hl)
    have HA0 := hid (cvA_zero m (rk l))
    have HAL : Hid (∀ j, cvA m (rk l) j < 256) := fun j => lt256 hm (cvA_lt m (rk l) j)
    have hc9 := cov_len9 (n := m) (r := rk l)
    have HK := hid (rk_small hm hf)
    have HLT : Hid (∀ t, t < 2 ^ m → t ≠ 0 → 1 ≤ rk l t) := hl
    obtain ⟨T, HT, hT2, hT1⟩ : ∃ T : Nat, Hid (2 ^ m = T) ∧ T ≤ 256 ∧ 1 ≤ T := ⟨2 ^ m, Eq.refl (2 ^ m), (pow_wrap _ hm).2, Nat.one_le_two_pow⟩
    rw [HT.out] at HR5 HDI HWH HLT
    rw [HT.out]
    obtain ⟨A, HA⟩ : ∃ A : Nat → Nat, Hid (cvA m (rk l) = A) := ⟨_, rfl⟩
    rw [HA.out] at HPA HWH HA0 HAL
    rw [HT.out] at HPA
    generalize covL m (rk l) = L at *
    generalize (deS (rk l) T).1 = d at *
    have hHO : Hid (0 < L.length → ∃ ob ooff, b3 = some ⟨ob, ooff, none⟩ ∧ ob < w5.heap.size ∧ ∀ i, i < L.length → w5.cell? ⟨ob, ooff + i, none⟩ = some (.int .i64 (L.getD i 0 : Nat))) := by
      obtain ⟨oa', oc', he, _, hco⟩ := (HO5.out.ints (by omega)).nats
      injection he with h1 h2 h3
      subst h1
      exact hco
    go_wp2_with fail
    go_loopw [11, 63] (fun u i wr => ∃ k : Nat, k ≤ L.length ∧ i = .int .i64 k ∧ u = .int .i64 (A k : Nat) ∧ Hid (Below w5.heap.size w5 wr)) (fun _ i _ => L.length - (intOf i).toNat)
    case atStart => exact ⟨0, Nat.zero_le _, rfl, by rw [HA0.out]; rfl, Below.refl _ _⟩
    case round =>
      obtain ⟨k, hk, rfl, rfl, HW⟩ := hrel
      by_cases hlt : k < L.length
      · obtain ⟨ob, ooff, rfl, hob, hoc⟩ := hHO.out (by omega)
        have hck := (HW.out.cell (p := ⟨ob, ooff + k, none⟩) hob).trans (hoc k hlt)
        obtain ⟨p1, p2, p3, p4, p5⟩ := HPA.out k hlt
        have hA1 := HAL.out k
        clear hoc
        generalize L.getD k 0 = x at *
        have cR : ∀ y : Later wr, y.now.cell? ⟨rb, roff + x, none⟩ = some (.int .i64 (rk l x : Nat)) := fun y => by
          obtain ⟨b', off', cp', e, h1, h2⟩ := HR5.out.below (HW.out.trans (y.kept.mono HW.out.size))
          obtain ⟨⟨rfl, rfl⟩, rfl⟩ : (rb = b' ∧ roff = off') ∧ rcap = cp' := by simpa using e
          exact h2 x p5
        have SZ := hid (fun w' => Size_any x w' (by omega))
        rw [p3] at cR
        have hx8 := pop_le x (by omega)
        have hx0 : ((x : Int) == 0) = false := by rw [beq_eq_false_iff_ne]; omega
        have hx0' : ¬ (x : Int) = 0 := by omega
        have hand : bits .and .i64 (A k : Int) (x : Int) = 0 := by
          rw [i64_and_nat (A k) x (by omega) (by omega), p2]
          rfl
        have hor : bits .or .i64 (A k : Int) (x : Int) = (A (k + 1) : Int) := by
          rw [i64_or_nat (A k) x (by omega) (by omega), p4]
        have hki : (k : Int) < (L.length : Int) := by omega
        have hxT : (x : Int) < (T : Int) := by omega
        clear p2 p3 p4
        generalize pop x = y at *
        go_wp2_with fail
        refine region_later (by kernel_rfl) (by kernel_rfl) ?_
        repeat (go_big_quiet_step ((go_at_call 25; refine (SZ.out _).mono ?_; rintro e w' ⟨rfl, hb9⟩; exact ⟨rfl, Later.on _ hb9⟩)))
        refine wpQuiet_nil ?_
        intro w6' hw'
        obtain ⟨⟨y6, hb6⟩, hw''⟩ := hw'
        dsimp only at hw''
        subst hw''
        have HB6 := hid (HW.out.trans (hb6.mono HW.out.size))
        clear hb6 cR
        go_wp2_with fail
        go_roundw
        case rel => exact ⟨k + 1, by omega, by go_num, rfl, HB6⟩
        case measure => simp [intOf]; omega
      · obtain rfl : k = L.length := by omega
        rw [HWH.out]
        have c0 := (HW.out.cell (p := ⟨w.heap.size, 0, none⟩) (by show w.heap.size < _; omega)).trans y0
        have HBF := hid (HB5.out.trans (HW.out.mono HB5.out.size))
        rcases HDI.out with ⟨d0, m0, L0⟩ | ⟨d0, dT, dL⟩
        · subst d0
          subst m0
          have hT : T = 1 := HT.out.symm
          subst hT
          go_wp2_with fail
          go_ret
          exact ⟨rfl, HBF.out⟩
        · have hd0 : ((d : Int) == 0) = false := by rw [beq_eq_false_iff_ne]; omega
          have hd0' : ¬ (d : Int) = 0 := by omega
          have cR : ∀ y : Later wr, y.now.cell? ⟨rb, roff + d, none⟩ = some (.int .i64 (rk l d : Nat)) := fun y => by
            obtain ⟨b', off', cp', e, h1, h2⟩ := HR5.out.below (HW.out.trans (y.kept.mono HW.out.size))
            obtain ⟨⟨rfl, rfl⟩, rfl⟩ : (rb = b' ∧ roff = off') ∧ rcap = cp' := by simpa using e
            exact h2 d dT
          have cN : ∀ y : Later wr, y.now.cell? ⟨w.heap.size, 0, none⟩ = some (.int .i64 m) := fun y => (y.kept.cell (p := ⟨w.heap.size, 0, none⟩) (World.block_lt_of_cell? wr _ c0)).trans c0
          have SZ := hid (fun w' => Size_any d w' (by omega))
          have AL := hid (fun w' => All_any m w' hm)
          rw [HT.out] at AL
          have hd8 := pop_le d (by omega)
          have hr1 := HLT.out d dT d0
          have hr8 := HK.out d
          have UP := hid (fun w' => Up_any (pop d) (rk l d) w' hr1 (by omega) (by omega))
          rw [show (pop d + rk l d - 1) / rk l d = L.length from dL.symm] at UP
          have hTT : (((T - 1 : Nat) : Int) == (T : Int) - 1) = true := by rw [beq_iff_eq]; omega
          have hTT2 : ((T - 1 : Nat) : Int) = (T : Int) - 1 := by omega
          have hdT : (d : Int) < (T : Int) := by omega
          clear dL
          generalize pop d = y at *
          generalize rk l d = z at *
          go_wp2_with fail
          refine region_later (by kernel_rfl) (by kernel_rfl) ?_
          repeat (go_big_quiet_step ((first
            | (go_at_call 25; refine (SZ.out _).mono ?_; rintro e w' ⟨rfl, hb9⟩; exact ⟨rfl, Later.on _ hb9⟩)
            | (go_at_call 26; refine (AL.out _).mono ?_; rintro e w' ⟨rfl, rfl⟩; exact ⟨rfl, Later.on _ (Below.refl _ _)⟩)
            | (go_at_call 27; refine (UP.out _).mono ?_; rintro e w' ⟨rfl, rfl⟩; exact ⟨rfl, Later.on _ (Below.refl _ _)⟩))))
          refine wpQuiet_nil ?_
          intro w6' hw'
          obtain ⟨⟨y6, hb6⟩, hw''⟩ := hw'
          dsimp only at hw''
          subst hw''
          have HB6 := hid (HBF.out.trans (hb6.mono HBF.out.size))
          clear hb6 cR cN
          go_wp2_with fail
          go_ret
          exact ⟨ret_bool (by simp), HB6.out⟩
  · have C1 := hid (Cover_bad n _ zs w2 HV2.out hq)
    have D1 := hid (fun w' (hb' : Below w2.heap.size w2 w') => Dense_bad n _ zs w' (HV2.out.below hb') hq)
    generalize rwlQ n zs = q at *
    have hq' : (q == 0) = false := by rw [beq_eq_false_iff_ne]; exact hq
    go_wp2_with fail
    refine C1.out.mono ?_
    rintro e w3 ⟨rfl, hb3⟩
    have y0 := (hb3.cell (p := ⟨w.heap.size, 0, none⟩) (by show w.heap.size < _; omega)).trans z0
    have y1 := (hb3.cell (p := ⟨w.heap.size, 1, none⟩) (by show w.heap.size < _; omega)).trans z1
    have D2 := hid (D1.out w3 hb3)
    have HB3 := hid (HB2.out.trans (hb3.mono HB2.out.size))
    clear hb3 z0 z1 D1 C1
    go_wp2_with fail
    refine D2.out.mono ?_
    rintro e w4 ⟨rfl, hb4⟩
    have HB4 := hid (HB3.out.trans (hb4.mono HB3.out.size))
    clear hb4
    go_wp2_with fail
    go_ret
    exact ⟨ret_bool (by simp), HB4.out⟩
end Go.Proofs.Ytclabonnbmanhaa
