/- rotakeep.TutteSplits. -/
import Derived.Test.YtioaonmlnikbdaaTvCQ
import Derived.Test.YtioaonmlnikbdaaPlainAll
import Derived.Test.YtioaonmlnikbdaaDelConQ
import Derived.Test.YtioaonmlnikbdaaSumSQ
import Derived.Test.YtioaonmlnikbdaaMarksW
import Derived.Test.YtioaonmlnikbdaaDualLawW
namespace Go.Proofs.Ytioaonmlnikbdaa
open Go.RowKit Go.Lib

theorem two_pv : pvZ 4 twoL 0 0 = 0 := by decide +kernel
theorem dec_zero : decZ 0 = [48] := by
  unfold decZ decT
  rw [if_neg (by omega), show (0 : Int).toNat = 0 from rfl, dgs_low (by omega)]
  rfl
set_option maxRecDepth 20000 in
set_option maxHeartbeats 1000000 in
theorem atQ_any (g N M cap : Nat) (f : Nat → Nat → Int) (i j : Int) (w : World) (h : TblM g w N M f) :
    Calls Try.prog 19 #[.slice (some ⟨g, 0, none⟩) N cap, .int .i64 i, .int .i64 j] w fun e w' => e = .returned (.int .i64 (atZ N M f i j)) ∧ w' = w := by
  by_cases hi : 0 ≤ i
  · obtain ⟨a, rfl⟩ := Int.eq_ofNat_of_zero_le hi
    by_cases hj : 0 ≤ j
    · obtain ⟨b, rfl⟩ := Int.eq_ofNat_of_zero_le hj
      by_cases ha : a < N
      · have q1 := h.head a ha
        have ha' : (a : Int) < (N : Int) := by omega
        have d1 : decide ((N : Int) ≤ (a : Int)) = false := by rw [decide_eq_false_iff_not]; omega
        have d1' : decide (N ≤ a) = false := by rw [decide_eq_false_iff_not]; omega
        by_cases hb : b < M
        · have q2 := (h.row a ha).cell b hb
          have hb' : (b : Int) < (M : Int) := by omega
          have d2 : decide ((M : Int) ≤ (b : Int)) = false := by rw [decide_eq_false_iff_not]; omega
          have d2' : decide (M ≤ b) = false := by rw [decide_eq_false_iff_not]; omega
          have AZ : Hid (atZ N M f (a : Int) (b : Int) = f a b) := by show _ = _; unfold atZ; rw [if_pos (by omega)]; simp
          rw [AZ.out]
          clear hi hj
          generalize f a b = y at *
          go_enter Try.func19, Try.ntmps19
          go_wp2_with fail
          go_ret
          exact ⟨rfl, rfl⟩
        · have hb' : (M : Int) ≤ (b : Int) := by omega
          have AZ : Hid (atZ N M f (a : Int) (b : Int) = 0) := by show _ = _; unfold atZ; rw [if_neg (by omega)]
          rw [AZ.out]
          have d2 : decide ((M : Int) ≤ (b : Int)) = true := by rw [decide_eq_true_iff]; omega
          have d2' : decide (M ≤ b) = true := by rw [decide_eq_true_iff]; omega
          clear hi hj
          go_enter Try.func19, Try.ntmps19
          go_wp2_with fail
          go_ret
          exact ⟨rfl, rfl⟩
      · have AZ : Hid (atZ N M f (a : Int) (b : Int) = 0) := by show _ = _; unfold atZ; rw [if_neg (by omega)]
        rw [AZ.out]
        have d1 : decide ((N : Int) ≤ (a : Int)) = true := by rw [decide_eq_true_iff]; omega
        have d1' : decide (N ≤ a) = true := by rw [decide_eq_true_iff]; omega
        clear hi hj
        go_enter Try.func19, Try.ntmps19
        go_wp2_with fail
        go_ret
        exact ⟨rfl, rfl⟩
    · have AZ : Hid (atZ N M f (a : Int) j = 0) := by show _ = _; unfold atZ; rw [if_neg (by omega)]
      rw [AZ.out]
      have hj' : j < 0 := by omega
      clear hi hj
      go_enter Try.func19, Try.ntmps19
      go_wp2_with fail
      go_ret
      exact ⟨rfl, rfl⟩
  · have AZ : Hid (atZ N M f i j = 0) := by show _ = _; unfold atZ; rw [if_neg (by omega)]
    rw [AZ.out]
    have hi' : i < 0 := by omega
    clear hi
    go_enter Try.func19, Try.ntmps19
    go_wp2_with fail
    go_ret
    exact ⟨rfl, rfl⟩
theorem prod_zero (f h : Nat → Nat → Int) (p q : Nat) : prodZ f h p q 0 0 = 0 := by simp [prodZ, tal]
theorem prod_step (f h : Nat → Nat → Int) (p q c d : Nat) : prodZ f h p q c (d + 1) = prodZ f h p q c d + f c d * h (p - c) (q - d) := by unfold prodZ; rw [tal_range (fun d => f c d * h (p - c) (q - d)) d, Int.add_assoc]
theorem prod_next (f h : Nat → Nat → Int) (p q c : Nat) : prodZ f h p q c (q + 1) = prodZ f h p q (c + 1) 0 := by
  unfold prodZ
  rw [tal_range (fun c => tal (fun d => f c d * h (p - c) (q - d)) (List.range (q + 1))) c]
  simp only [List.range_zero, tal]
  omega
theorem prod_last (f h : Nat → Nat → Int) (p q : Nat) : prodZ f h p q (p + 1) 0 = tal (fun c => tal (fun d => f c d * h (p - c) (q - d)) (List.range (q + 1))) (List.range (p + 1)) := by
  unfold prodZ
  simp only [List.range_zero, tal]
  omega
theorem tal_le {F : Nat → Int} {B : Int} (h : ∀ x, 0 ≤ F x ∧ F x ≤ B) : ∀ k : Nat, 0 ≤ tal F (List.range k) ∧ tal F (List.range k) ≤ k * B
  | 0 => by simp [tal]
  | k + 1 => by
    rw [tal_range]
    have h1 := tal_le h k
    have h2 := h k
    have h3 : ((k + 1 : Nat) : Int) * B = k * B + B := by rw [Int.natCast_add, Int.add_mul]; simp
    omega
theorem mul_bd {a b : Int} (ha : 0 ≤ a ∧ a ≤ 256) (hb : 0 ≤ b ∧ b ≤ 256) : 0 ≤ a * b ∧ a * b ≤ 65536 :=
  ⟨Int.mul_nonneg ha.1 hb.1, Int.le_trans (Int.mul_le_mul ha.2 hb.2 hb.1 (by omega)) (by omega)⟩
theorem prod_bd {f h : Nat → Nat → Int} (hf : ∀ i j, 0 ≤ f i j ∧ f i j ≤ 256) (hh : ∀ i j, 0 ≤ h i j ∧ h i j ≤ 256) {p q c d : Nat} (hq : q ≤ 9) (hc : c ≤ 10) (hd : d ≤ 10) : 0 ≤ prodZ f h p q c d ∧ prodZ f h p q c d ≤ 10000000 := by
  unfold prodZ
  have h1 : ∀ c, 0 ≤ tal (fun d => f c d * h (p - c) (q - d)) (List.range (q + 1)) ∧ tal (fun d => f c d * h (p - c) (q - d)) (List.range (q + 1)) ≤ 655360 := fun c => by
    have := tal_le (F := fun d => f c d * h (p - c) (q - d)) (B := 65536) (fun d => mul_bd (hf _ _) (hh _ _)) (q + 1)
    omega
  have h2 := tal_le (F := fun c => tal (fun d => f c d * h (p - c) (q - d)) (List.range (q + 1))) (B := 655360) h1 c
  have h3 := tal_le (F := fun d => f c d * h (p - c) (q - d)) (B := 65536) (fun d => mul_bd (hf _ _) (hh _ _)) d
  omega
set_option maxRecDepth 20000 in
set_option maxHeartbeats 4000000 in
theorem tsplits_law (n : Int) (v : Value) (zs : List Int) (k : Int) (u : Value) (ys : List Int) (i : Int) (w : World) (h : Ints w v zs) (hu : Ints w u ys) (hi : -9223372036854775808 ≤ i ∧ i ≤ 9223372036854775807) :
    Calls Try.prog 4 #[.agg #[.int .i64 n, v], .agg #[.int .i64 k, u], .int .i64 i] w fun e w' => e = .returned (.bool true) ∧ Below w.heap.size w w' := by
  have HI := hid h
  have HU := hid hu
  obtain ⟨a0, cap0, rfl, -, -⟩ := h
  obtain ⟨a1, cap1, rfl, -, -⟩ := hu
  have b0 := box2_below w n (.slice a0 zs.length cap0) k (.slice a1 ys.length cap1)
  have s0 := box2_size w n (.slice a0 zs.length cap0) k (.slice a1 ys.length cap1)
  have HX : Hid (∀ w2, Below (box2 w n (.slice a0 zs.length cap0) k (.slice a1 ys.length cap1)).heap.size (box2 w n (.slice a0 zs.length cap0) k (.slice a1 ys.length cap1)) w2 → _) := fun w2 hb => box2_blocks hb
  have HB0 := hid b0
  have HI0 := hid (HI.out.below b0)
  have HU0 := hid (HU.out.below b0)
  unfold box2 at *
  clear b0 HI HU
  go_enter Try.func4, Try.ntmps4
  go_wp2_with fail
  refine (two_any _).mono ?_
  rintro e w1 ⟨v1, rfl, hi1, hb1⟩
  have C1 := hid (At_ok 4 v1 twoL 0 0 w1 (by omega) two_fam two_bas (by omega) (by omega) (by omega) (by omega) hi1)
  rw [two_pv, dec_zero] at C1
  clear hi1
  go_wp2_with fail
  refine C1.out.mono ?_
  rintro e w4 ⟨rfl, hb4⟩
  have hb14 := hb1.trans (hb4.mono hb1.size)
  have HBK := HX.out w4 hb14
  have XM_4 := hid HBK.1
  have XK_4 := hid HBK.2
  have B_4 := hid (HB0.out.trans (hb14.mono HB0.out.size))
  have IM_4 := hid (HI0.out.below hb14)
  have IK_4 := hid (HU0.out.below hb14)
  clear hb4 hb14 hb1 HX HB0 HI0 HU0 C1 HBK
  by_cases hq : chkR n zs = 0
  · obtain ⟨m, l, rfl, hm, rfl, hf, hb⟩ := chk_of hq
    rw [N_len] at XM_4 IM_4 ⊢
    have HQ0 := hid hq
    clear hq
    have PO := hid (Polynomial_ok m _ l w4 hm hf hb IM_4.out)
    obtain ⟨R, HR⟩ : ∃ R, Hid (rk l (2 ^ m - 1) = R) := ⟨_, rfl⟩
    have hRm := rank_n hm hb
    rw [HR.out] at PO hRm
    obtain ⟨N1, HN⟩ : ∃ N1, Hid (R + 1 = N1) := ⟨_, rfl⟩
    obtain ⟨M1, HM⟩ : ∃ M1, Hid (m - R + 1 = M1) := ⟨_, rfl⟩
    rw [HN.out, HM.out] at PO
    have hN9 : N1 ≤ 9 := by rw [← HN.out]; omega
    have hM9 : M1 ≤ 9 := by rw [← HM.out]; omega
    have c_XM := two_cells XM_4.out
    go_wp2_with fail
    refine (PO.out).mono ?_
    rintro e w5 ⟨gt, rfl, hgt, htm, hb5⟩
    have XM_5 := hid ((hb5.block _ (Array.getElem?_eq_some_iff.1 XM_4.out).1).trans XM_4.out)
    have XK_5 := hid ((hb5.block _ (Array.getElem?_eq_some_iff.1 XK_4.out).1).trans XK_4.out)
    have B_5 := hid (B_4.out.trans (hb5.mono B_4.out.size))
    have IM_5 := hid (IM_4.out.below hb5)
    have IK_5 := hid (IK_4.out.below hb5)
    clear XM_4 XK_4 B_4 IM_4 IK_4 c_XM hb5
    have TT_5 := hid (htm)
    clear PO htm
    by_cases h0 : m = 0
    · subst h0
      have c_XM := two_cells XM_5.out
      go_wp2_with fail
      go_ret
      exact ⟨rfl, B_5.out⟩
    · obtain ⟨hm0, hmi⟩ : 0 < m ∧ ((m : Int) == 0) = false := ⟨by omega, by rw [beq_eq_false_iff_ne]; omega⟩
      have PK := hid (fun w => PickG_any i m w hi.1 hi.2 hm0 (by omega))
      have HPL := pickN_lt i hm0
      obtain ⟨e, HE⟩ : ∃ e, Hid (pickN i m = e) := ⟨_, rfl⟩
      rw [HE.out] at PK HPL
      have he8 := bt_lt (i := e) (by omega)
      have heT : bt e < 2 ^ m := Nat.pow_lt_pow_right (by omega) HPL
      have hsh : wrap64 (2 ^ e) = ((bt e : Nat) : Int) := (pow_wrap e (by omega)).1
      have hsh2 : IntKind.i64.wrap (2 ^ e) = ((bt e : Nat) : Int) := by rw [IntWalk.i64_left]; exact hsh
      have AL := hid (fun w => All_nat m w hm)
      have KP := keptE_pop hm HPL
      have DL := hid (fun v w h => Delete_ok m (bt e) v l w hm hf hb h heT)
      have CT := hid (fun v w h => Contract_ok m (bt e) v l w hm hf hb h heT)
      have BE : Hid (bt e = 2 ^ e) := rfl
      rw [BE.out, show pop (dif (2 ^ m - 1) (2 ^ e)) = m - 1 by omega, ← BE.out] at DL CT
      have fD := min_fam' hm HPL l 0
      have bD := min_bas hm hb (2 ^ e) 0
      have fC := min_fam' hm HPL l (2 ^ e)
      have bC := min_bas hm hb (2 ^ e) (2 ^ e)
      have KL := hid (fun p q => tt_loop hm HPL hf hb (p := p) (q := q))
      have KB := hid (fun p q => tt_bridge hm HPL hf hb (p := p) (q := q))
      have KO := hid (fun p q => tt_both hm HPL hf hb (p := p) (q := q))
      have RK := hid (fun v w h => Ranks_ok m v l w hm hf hb h)
      obtain ⟨ld, HLD⟩ : ∃ ld, Hid (minL m l (2 ^ e) 0 = ld) := ⟨_, rfl⟩
      obtain ⟨lc, HLC⟩ : ∃ lc, Hid (minL m l (2 ^ e) (2 ^ e) = lc) := ⟨_, rfl⟩
      rw [HLD.out] at fD bD KL KO
      rw [HLC.out] at fC bC KB KO
      rw [BE.out, HLD.out, ← BE.out] at DL
      rw [BE.out, HLC.out, ← BE.out] at CT
      obtain ⟨m1, HM1⟩ : ∃ m1, Hid (m - 1 = m1) := ⟨_, rfl⟩
      rw [HM1.out] at DL CT fD fC KL KB KO
      have hm1 : m1 ≤ 8 := by rw [← HM1.out]; omega
      have PD := hid (fun v w h => Polynomial_ok m1 v ld w hm1 fD bD h)
      have hRD := rank_n hm1 bD
      have AD := hid (fun p q => at_nat hm1 fD bD p q)
      have hlD := fam_lenT hm1 fD
      obtain ⟨Rd, HRd⟩ : ∃ R, Hid (rk ld (2 ^ m1 - 1) = R) := ⟨_, rfl⟩
      rw [HRd.out] at PD hRD AD
      obtain ⟨N2, HN2⟩ : ∃ N, Hid (Rd + 1 = N) := ⟨_, rfl⟩
      obtain ⟨M2, HM2⟩ : ∃ N, Hid (m1 - Rd + 1 = N) := ⟨_, rfl⟩
      rw [HN2.out, HM2.out] at PD AD
      obtain ⟨fDt, HfDt⟩ : ∃ f : Nat → Nat → Int, Hid ((fun i j => (ttN m1 ld i j : Int)) = f) := ⟨_, rfl⟩
      rw [HfDt.out] at PD AD
      have bdD : Hid (∀ p q, 0 ≤ atZ N2 M2 fDt (p : Nat) (q : Nat) ∧ atZ N2 M2 fDt (p : Nat) (q : Nat) ≤ 256) := fun p q => by rw [AD.out]; have := ttN_le m1 ld p q; omega
      have PC := hid (fun v w h => Polynomial_ok m1 v lc w hm1 fC bC h)
      have hRC := rank_n hm1 bC
      have AC := hid (fun p q => at_nat hm1 fC bC p q)
      have hlC := fam_lenT hm1 fC
      obtain ⟨Rc, HRc⟩ : ∃ R, Hid (rk lc (2 ^ m1 - 1) = R) := ⟨_, rfl⟩
      rw [HRc.out] at PC hRC AC
      obtain ⟨N3, HN3⟩ : ∃ N, Hid (Rc + 1 = N) := ⟨_, rfl⟩
      obtain ⟨M3, HM3⟩ : ∃ N, Hid (m1 - Rc + 1 = N) := ⟨_, rfl⟩
      rw [HN3.out, HM3.out] at PC AC
      obtain ⟨fCt, HfCt⟩ : ∃ f : Nat → Nat → Int, Hid ((fun i j => (ttN m1 lc i j : Int)) = f) := ⟨_, rfl⟩
      rw [HfCt.out] at PC AC
      have bdC : Hid (∀ p q, 0 ≤ atZ N3 M3 fCt (p : Nat) (q : Nat) ∧ atZ N3 M3 fCt (p : Nat) (q : Nat) ≤ 256) := fun p q => by rw [AC.out]; have := ttN_le m1 lc p q; omega
      have VL : Hid (rk l (2 ^ e) = 0 → ∀ p q : Nat, atZ N2 M2 fDt (p : Int) ((q : Int) - 1) = (ttN m l p q : Int)) := fun hz p q => by
        rw [KL.out p q hz]
        cases q with
        | zero => rw [if_pos rfl]; exact at_neg2 _ _ _ _
        | succ q => rw [if_neg (by omega), show (((q + 1 : Nat) : Int) - 1) = (q : Int) by omega, AD.out]; rfl
      have VB : Hid (rk l (dif (2 ^ m - 1) (2 ^ e)) < rk l (2 ^ m - 1) → ∀ p q : Nat, atZ N3 M3 fCt ((p : Int) - 1) (q : Int) = (ttN m l p q : Int)) := fun hz p q => by
        rw [KB.out p q hz]
        cases p with
        | zero => rw [if_pos rfl]; exact at_neg1 _ _ _ _
        | succ p => rw [if_neg (by omega), show (((p + 1 : Nat) : Int) - 1) = (p : Int) by omega, AC.out]; rfl
      have VO : Hid (rk l (2 ^ e) ≠ 0 → ¬ rk l (dif (2 ^ m - 1) (2 ^ e)) < rk l (2 ^ m - 1) → ∀ p q : Nat, atZ N2 M2 fDt (p : Int) (q : Int) + atZ N3 M3 fCt (p : Int) (q : Int) = (ttN m l p q : Int)) := fun h1 h2 p q => by
        rw [KO.out p q h1 h2, AD.out, AC.out]
      have hlm := fam_lenT hm hf
      clear KL KB KO
      have c_XM := two_cells XM_5.out
      go_wp2_with (go_at_call 14; refine (PK.out _).mono ?_; rintro e w' ⟨rfl, rfl⟩)
      refine (RK.out _ _ IM_5.out).mono ?_
      rintro e6 w6 ⟨r6, rfl, hr6, hb6⟩
      have HRK0 := hid hr6
      obtain ⟨rb, ro, rc, rfl, -, -⟩ := hr6
      have XM_6 := hid ((hb6.block _ (Array.getElem?_eq_some_iff.1 XM_5.out).1).trans XM_5.out)
      have XK_6 := hid ((hb6.block _ (Array.getElem?_eq_some_iff.1 XK_5.out).1).trans XK_5.out)
      have B_6 := hid (B_5.out.trans (hb6.mono B_5.out.size))
      have IM_6 := hid (IM_5.out.below hb6)
      have IK_6 := hid (IK_5.out.below hb6)
      have TT_6 := hid (TT_5.out.below hb6)
      clear XM_5 XK_5 B_5 IM_5 IK_5 TT_5 c_XM hb6
      have RR_6 := hid HRK0.out
      clear HRK0
      have c_XM := two_cells XM_6.out
      go_wp2_with (go_at_call 16; refine (AL.out _).mono ?_; rintro e w' ⟨rfl, rfl⟩)
      refine (DL.out _ _ IM_6.out).mono ?_
      rintro eD w7 ⟨rD, rfl, hoD, hb7⟩
      obtain ⟨aD, cpD, hqD⟩ := ownsRow_form' hoD
      subst hqD
      have XM_7 := hid ((hb7.block _ (Array.getElem?_eq_some_iff.1 XM_6.out).1).trans XM_6.out)
      have XK_7 := hid ((hb7.block _ (Array.getElem?_eq_some_iff.1 XK_6.out).1).trans XK_6.out)
      have B_7 := hid (B_6.out.trans (hb7.mono B_6.out.size))
      have IM_7 := hid (IM_6.out.below hb7)
      have IK_7 := hid (IK_6.out.below hb7)
      have TT_7 := hid (TT_6.out.below hb7)
      have RR_7 := hid (RR_6.out.below hb7)
      clear XM_6 XK_6 B_6 IM_6 IK_6 TT_6 RR_6 c_XM hb7
      have ID_7 := hid (hoD.ints (Nat.le_trans hlD (by decide)))
      have hkD := below_boxR w7 #[.int .i64 (m1 : Int), .slice aD ld.length cpD]
      have XD0 := World.alloc_heap_new w7 (.cells #[.int .i64 (m1 : Int), .slice aD ld.length cpD] 24)
      obtain ⟨V7, hV7⟩ : ∃ V, w7.alloc (.cells #[.int .i64 (m1 : Int), .slice aD ld.length cpD] 24) = V := ⟨_, rfl⟩
      rw [hV7] at hkD XD0
      have XM_8 := hid ((hkD.block _ (Array.getElem?_eq_some_iff.1 XM_7.out).1).trans XM_7.out)
      have XK_8 := hid ((hkD.block _ (Array.getElem?_eq_some_iff.1 XK_7.out).1).trans XK_7.out)
      have B_8 := hid (B_7.out.trans (hkD.mono B_7.out.size))
      have IM_8 := hid (IM_7.out.below hkD)
      have IK_8 := hid (IK_7.out.below hkD)
      have TT_8 := hid (TT_7.out.below hkD)
      have RR_8 := hid (RR_7.out.below hkD)
      have ID_8 := hid (ID_7.out.below hkD)
      clear XM_7 XK_7 B_7 IM_7 IK_7 TT_7 RR_7 ID_7 hkD hoD
      have XVD_8 := hid XD0
      clear XD0
      have c_XM := two_cells XM_8.out
      go_wp2_with (go_at_call 16; refine (AL.out _).mono ?_; rintro e w' ⟨rfl, rfl⟩)
      refine (CT.out _ _ IM_8.out).mono ?_
      rintro eC w8 ⟨rC, rfl, hoC, hb8⟩
      obtain ⟨aC, cpC, hqC⟩ := ownsRow_form' hoC
      subst hqC
      have XM_9 := hid ((hb8.block _ (Array.getElem?_eq_some_iff.1 XM_8.out).1).trans XM_8.out)
      have XK_9 := hid ((hb8.block _ (Array.getElem?_eq_some_iff.1 XK_8.out).1).trans XK_8.out)
      have B_9 := hid (B_8.out.trans (hb8.mono B_8.out.size))
      have IM_9 := hid (IM_8.out.below hb8)
      have IK_9 := hid (IK_8.out.below hb8)
      have TT_9 := hid (TT_8.out.below hb8)
      have RR_9 := hid (RR_8.out.below hb8)
      have ID_9 := hid (ID_8.out.below hb8)
      have XVD_9 := hid ((hb8.block _ (Array.getElem?_eq_some_iff.1 XVD_8.out).1).trans XVD_8.out)
      clear XM_8 XK_8 B_8 IM_8 IK_8 TT_8 RR_8 ID_8 XVD_8 c_XM hb8
      have IC_9 := hid (hoC.ints (Nat.le_trans hlC (by decide)))
      have hkC := below_boxR w8 #[.int .i64 (m1 : Int), .slice aC lc.length cpC]
      have XC0 := World.alloc_heap_new w8 (.cells #[.int .i64 (m1 : Int), .slice aC lc.length cpC] 24)
      obtain ⟨V8, hV8⟩ : ∃ V, w8.alloc (.cells #[.int .i64 (m1 : Int), .slice aC lc.length cpC] 24) = V := ⟨_, rfl⟩
      rw [hV8] at hkC XC0
      have XM_10 := hid ((hkC.block _ (Array.getElem?_eq_some_iff.1 XM_9.out).1).trans XM_9.out)
      have XK_10 := hid ((hkC.block _ (Array.getElem?_eq_some_iff.1 XK_9.out).1).trans XK_9.out)
      have B_10 := hid (B_9.out.trans (hkC.mono B_9.out.size))
      have IM_10 := hid (IM_9.out.below hkC)
      have IK_10 := hid (IK_9.out.below hkC)
      have TT_10 := hid (TT_9.out.below hkC)
      have RR_10 := hid (RR_9.out.below hkC)
      have ID_10 := hid (ID_9.out.below hkC)
      have XVD_10 := hid ((hkC.block _ (Array.getElem?_eq_some_iff.1 XVD_9.out).1).trans XVD_9.out)
      have IC_10 := hid (IC_9.out.below hkC)
      clear XM_9 XK_9 B_9 IM_9 IK_9 TT_9 RR_9 ID_9 XVD_9 IC_9 hkC hoC
      have XVC_10 := hid XC0
      clear XC0
      have c_XVD := two_cells XVD_10.out
      go_wp2_with fail
      refine (PD.out _ _ ID_10.out).mono ?_
      rintro e9 w9 ⟨gu, rfl, hgu, hum, hb9⟩
      have XM_11 := hid ((hb9.block _ (Array.getElem?_eq_some_iff.1 XM_10.out).1).trans XM_10.out)
      have XK_11 := hid ((hb9.block _ (Array.getElem?_eq_some_iff.1 XK_10.out).1).trans XK_10.out)
      have B_11 := hid (B_10.out.trans (hb9.mono B_10.out.size))
      have IM_11 := hid (IM_10.out.below hb9)
      have IK_11 := hid (IK_10.out.below hb9)
      have TT_11 := hid (TT_10.out.below hb9)
      have RR_11 := hid (RR_10.out.below hb9)
      have ID_11 := hid (ID_10.out.below hb9)
      have XVD_11 := hid ((hb9.block _ (Array.getElem?_eq_some_iff.1 XVD_10.out).1).trans XVD_10.out)
      have IC_11 := hid (IC_10.out.below hb9)
      have XVC_11 := hid ((hb9.block _ (Array.getElem?_eq_some_iff.1 XVC_10.out).1).trans XVC_10.out)
      clear XM_10 XK_10 B_10 IM_10 IK_10 TT_10 RR_10 ID_10 XVD_10 IC_10 XVC_10 c_XVD hb9 hV7 hV8
      have TU_11 := hid hum
      have c_XVC := two_cells XVC_11.out
      go_wp2_with fail
      refine (PC.out _ _ IC_11.out).mono ?_
      rintro e10 w10 ⟨gv, rfl, hgv, hvm, hb10⟩
      have XM_12 := hid ((hb10.block _ (Array.getElem?_eq_some_iff.1 XM_11.out).1).trans XM_11.out)
      have XK_12 := hid ((hb10.block _ (Array.getElem?_eq_some_iff.1 XK_11.out).1).trans XK_11.out)
      have B_12 := hid (B_11.out.trans (hb10.mono B_11.out.size))
      have IM_12 := hid (IM_11.out.below hb10)
      have IK_12 := hid (IK_11.out.below hb10)
      have TT_12 := hid (TT_11.out.below hb10)
      have RR_12 := hid (RR_11.out.below hb10)
      have ID_12 := hid (ID_11.out.below hb10)
      have XVD_12 := hid ((hb10.block _ (Array.getElem?_eq_some_iff.1 XVD_11.out).1).trans XVD_11.out)
      have IC_12 := hid (IC_11.out.below hb10)
      have XVC_12 := hid ((hb10.block _ (Array.getElem?_eq_some_iff.1 XVC_11.out).1).trans XVC_11.out)
      have TU_12 := hid (TU_11.out.below hb10)
      clear XM_11 XK_11 B_11 IM_11 IK_11 TT_11 RR_11 ID_11 XVD_11 IC_11 XVC_11 TU_11 c_XVC hb10 hum
      have TV_12 := hid hvm
      clear hvm
      clear hsh hsh2 HE HLD HLC PK AL KP RK DL CT PD PC
      obtain ⟨T, HTT, hT2, hT0⟩ : ∃ T : Nat, Hid (2 ^ m = T) ∧ T ≤ 256 ∧ 1 ≤ T := ⟨2 ^ m, rfl, (pow_wrap _ hm).2, Nat.one_le_two_pow⟩
      obtain ⟨A, HA⟩ : ∃ A, Hid (T - 1 = A) := ⟨_, rfl⟩
      have hA8 : A < 256 := by rw [← HA.out]; omega
      have hAT : A < T := by rw [← HA.out]; omega
      rw [HTT.out] at heT
      have hdd : bits .andNot .i64 (A : Int) (bt e : Int) = ((dif A (bt e) : Nat) : Int) := i64_andNot_nat A (bt e) (Nat.lt_trans hA8 (by decide)) (Nat.lt_trans he8 (by decide))
      have hdT : dif A (bt e) < T := Nat.lt_of_le_of_lt (dif_le _ _) hAT
      rw [HTT.out, HA.out] at VB VO
      rw [← BE.out] at VL VB VO
      obtain ⟨E, HEE⟩ : ∃ E, Hid (bt e = E) := ⟨_, rfl⟩
      rw [HEE.out] at he8 heT hdd hdT VL VB VO
      obtain ⟨D, HDD⟩ : ∃ D, Hid (dif A E = D) := ⟨_, rfl⟩
      rw [HDD.out] at hdd hdT VB VO
      rw [HTT.out] at RR_12
      obtain ⟨rx, Hrx⟩ : ∃ r, Hid (rk l E = r) := ⟨_, rfl⟩
      obtain ⟨ra, Hra⟩ : ∃ r, Hid (rk l A = r) := ⟨_, rfl⟩
      obtain ⟨rd, Hrd⟩ : ∃ r, Hid (rk l D = r) := ⟨_, rfl⟩
      rw [Hrx.out] at VL VO
      rw [Hrd.out, Hra.out] at VB VO
      have CX : Hid (∀ w', Below w10.heap.size w10 w' → w'.cell? ⟨rb, ro + E, none⟩ = some (.int .i64 (rx : Int)) ∧ w'.cell? ⟨rb, ro + A, none⟩ = some (.int .i64 (ra : Int)) ∧ w'.cell? ⟨rb, ro + D, none⟩ = some (.int .i64 (rd : Int))) := fun w' hb' => ⟨by rw [← Hrx.out]; exact RR_12.out.cellAt hb' heT, by rw [← Hra.out]; exact RR_12.out.cellAt hb' hAT, by rw [← Hrd.out]; exact RR_12.out.cellAt hb' hdT⟩
      have bT : Hid (∀ p q, 0 ≤ (ttN m l p q : Int) ∧ (ttN m l p q : Int) ≤ 256) := fun p q => by have := ttN_le m l p q; omega
      obtain ⟨ft, Hft⟩ : ∃ f : Nat → Nat → Int, Hid (∀ p q, f p q = (ttN m l p q : Int)) := ⟨_, fun p q => rfl⟩
      have TF := hid (TT_12.out.congr (f' := ft) fun i _ j _ => Hft.out i j)
      go_wp2_with fail
      rw [HTT.out, HA.out, HEE.out]
      go_loopw [24, 25, 26, 116] (fun _ _ _ i wr => ∃ p : Nat, p ≤ N1 ∧ i = .int .i64 p ∧ Hid (Below w10.heap.size w10 wr)) (fun _ _ _ i _ => N1 - (intOf i).toNat)
      case atStart => exact ⟨0, Nat.zero_le _, rfl, Below.refl _ _⟩
      case round =>
        obtain ⟨p, hp, rfl, HW⟩ := hrel
        rename World => wq
        by_cases hlt : p < N1
        · have hpi : (p : Int) < (N1 : Int) := by omega
          have c_h := (TF.out.below HW.out).head p hlt
          go_wp2_with fail
          clear c_h
          go_loopw [25, 26, 124] (fun _ _ i wr => ∃ q : Nat, q ≤ M1 ∧ i = .int .i64 q ∧ Hid (Below w10.heap.size w10 wr)) (fun _ _ i _ => M1 - (intOf i).toNat)
          case atStart => exact ⟨0, Nat.zero_le _, rfl, HW.out⟩
          case round =>
            obtain ⟨q, hq, rfl, HV⟩ := hrel
            by_cases hlq : q < M1
            · have hqi : (q : Int) < (M1 : Int) := by omega
              obtain ⟨cx, ca, cd⟩ := CX.out _ HV.out
              have c_h := (TF.out.below HV.out).head p hlt
              have c_t := ((TF.out.below HV.out).row p hlt).cell q hlq
              rw [Hft.out p q] at c_t
              have cxn := fun n => (CX.out _ (below_drewN HV.out n)).1
              have can := fun n => (CX.out _ (below_drewN HV.out n)).2.1
              have cdn := fun n => (CX.out _ (below_drewN HV.out n)).2.2
              have chn := fun n => ((TF.out.below HV.out).drewN n).head p hlt
              have ctn := fun n => (((TF.out.below HV.out).drewN n).row p hlt).cell q hlq
              rw [Hft.out p q] at ctn
              have AU := hid (fun n i j => atQ_any gu N2 M2 N2 fDt i j (wr.drewN n) ((TU_12.out.below HV.out).drewN n))
              have AV := hid (fun n i j => atQ_any gv N3 M3 N3 fCt i j (wr.drewN n) ((TV_12.out.below HV.out).drewN n))
              have AU0 := hid (fun i j => atQ_any gu N2 M2 N2 fDt i j wr (TU_12.out.below HV.out))
              have AV0 := hid (fun i j => atQ_any gv N3 M3 N3 fCt i j wr (TV_12.out.below HV.out))
              have A1 := hid (AU0.out p q)
              have A2 := hid (AV0.out p q)
              have A3 := hid (AU0.out p ((q : Int) - 1))
              have A4 := hid (fun n => AV.out n ((p : Int) - 1) q)
              have bD1 := bdD.out p q
              have bC1 := bdC.out p q
              have bT1 := bT.out p q
              have VL1 := hid (fun h => VL.out h p q)
              have VB1 := hid (fun h => VB.out h p q)
              have VO1 := hid (fun h h2 => VO.out h h2 p q)
              generalize (ttN m l p q : Int) = y at *
              generalize atZ N2 M2 fDt (p : Int) (q : Int) = y1 at *
              generalize atZ N3 M3 fCt (p : Int) (q : Int) = y2 at *
              generalize atZ N2 M2 fDt (p : Int) ((q : Int) - 1) = y3 at *
              generalize atZ N3 M3 fCt ((p : Int) - 1) (q : Int) = y4 at *
              clear AU AV AU0 AV0
              by_cases z0 : rx = 0
              · obtain rfl := VL1.out z0
                subst z0
                clear VL1 VB1 VO1
                go_wp2_with fail
                refine (A1.out).mono ?_
                rintro e' w' ⟨rfl, rfl⟩
                go_wp2_with fail
                refine (A2.out).mono ?_
                rintro e' w' ⟨rfl, rfl⟩
                go_wp2_with fail
                refine (A3.out).mono ?_
                rintro e' w' ⟨rfl, rfl⟩
                go_wp2_with fail
                go_roundw
                case rel => exact ⟨q + 1, by omega, by go_num, HV.out⟩
                case measure => simp [intOf]; omega
              · have z0i : ((rx : Int) == 0) = false := by rw [beq_eq_false_iff_ne]; omega
                by_cases z1 : rd < ra
                · obtain rfl := VB1.out z1
                  have z1i : (rd : Int) < (ra : Int) := by omega
                  clear VL1 VB1 VO1
                  go_wp2_with fail
                  refine (A1.out).mono ?_
                  rintro e' w' ⟨rfl, rfl⟩
                  go_wp2_with fail
                  refine (A2.out).mono ?_
                  rintro e' w' ⟨rfl, rfl⟩
                  go_wp2_with fail
                  go_quiet (fail)
                  go_wp2_with fail
                  refine (A4.out _).mono ?_
                  rintro e' w' ⟨rfl, rfl⟩
                  go_wp2_with fail
                  go_roundw
                  case rel => exact ⟨q + 1, by omega, by go_num, below_drewN HV.out _⟩
                  case measure => simp [intOf]; omega
                · obtain rfl := VO1.out z0 z1
                  have z1i : ¬ (rd : Int) < (ra : Int) := by omega
                  clear VL1 VB1 VO1
                  go_wp2_with fail
                  refine (A1.out).mono ?_
                  rintro e' w' ⟨rfl, rfl⟩
                  go_wp2_with fail
                  refine (A2.out).mono ?_
                  rintro e' w' ⟨rfl, rfl⟩
                  go_wp2_with fail
                  go_quiet (fail)
                  go_wp2_with fail
                  go_roundw
                  case rel => exact ⟨q + 1, by omega, by go_num, below_drewN HV.out _⟩
                  case measure => simp [intOf]; omega
            · obtain rfl : M1 = q := by omega
              go_wp2_with fail
              go_roundw
              case rel => exact ⟨p + 1, by omega, by go_num, HV⟩
              case measure => simp [intOf]; omega
        · obtain rfl : N1 = p := by omega
          have XM_13 := hid ((HW.out.block _ (Array.getElem?_eq_some_iff.1 XM_12.out).1).trans XM_12.out)
          have XK_13 := hid ((HW.out.block _ (Array.getElem?_eq_some_iff.1 XK_12.out).1).trans XK_12.out)
          have B_13 := hid (B_12.out.trans (HW.out.mono B_12.out.size))
          have IM_13 := hid (IM_12.out.below HW.out)
          have IK_13 := hid (IK_12.out.below HW.out)
          have TT_13 := hid (TT_12.out.below HW.out)
          have RR_13 := hid (RR_12.out.below HW.out)
          have ID_13 := hid (ID_12.out.below HW.out)
          have XVD_13 := hid ((HW.out.block _ (Array.getElem?_eq_some_iff.1 XVD_12.out).1).trans XVD_12.out)
          have IC_13 := hid (IC_12.out.below HW.out)
          have XVC_13 := hid ((HW.out.block _ (Array.getElem?_eq_some_iff.1 XVC_12.out).1).trans XVC_12.out)
          have TU_13 := hid (TU_12.out.below HW.out)
          have TV_13 := hid (TV_12.out.below HW.out)
          clear XM_12 XK_12 B_12 IM_12 IK_12 TT_12 RR_12 ID_12 XVD_12 IC_12 XVC_12 TU_12 TV_12 TF CX HW
          by_cases hkq : chkR k ys = 0
          · obtain ⟨k2, l2, rfl, hk8, rfl, hf2, hb2⟩ := chk_of hkq
            rw [N_len] at XK_13 IK_13 ⊢
            clear hkq
            have c_XM := two_cells XM_13.out
            have c_XK := two_cells XK_13.out
            by_cases hmk : m + k2 ≤ 8
            · have SO := hid (Sum_ok m k2 _ _ l l2 wq hmk hf hb IM_13.out hf2 hb2 IK_13.out)
              have fS := sum_fam m l k2 l2
              have bS := sum_bas hmk hb hb2
              have TS := hid (fun p q => tt_sum hmk hf hb hf2 hb2 p q)
              obtain ⟨ls, HLS⟩ : ∃ ls, Hid (sumL m l k2 l2 = ls) := ⟨_, rfl⟩
              obtain ⟨ms, HMS⟩ : ∃ ms, Hid (m + k2 = ms) := ⟨_, rfl⟩
              rw [HLS.out] at SO fS bS TS
              rw [HMS.out] at SO fS TS hmk
              have hlS := fam_lenT hmk fS
              go_wp2_with fail
              refine SO.out.mono ?_
              rintro e11 w11 ⟨rS, rfl, hoS, hb11⟩
              obtain ⟨aS, cpS, hqS⟩ := ownsRow_form' hoS
              subst hqS
              have XM_14 := hid ((hb11.block _ (Array.getElem?_eq_some_iff.1 XM_13.out).1).trans XM_13.out)
              have XK_14 := hid ((hb11.block _ (Array.getElem?_eq_some_iff.1 XK_13.out).1).trans XK_13.out)
              have B_14 := hid (B_13.out.trans (hb11.mono B_13.out.size))
              have IM_14 := hid (IM_13.out.below hb11)
              have IK_14 := hid (IK_13.out.below hb11)
              have TT_14 := hid (TT_13.out.below hb11)
              have RR_14 := hid (RR_13.out.below hb11)
              have ID_14 := hid (ID_13.out.below hb11)
              have XVD_14 := hid ((hb11.block _ (Array.getElem?_eq_some_iff.1 XVD_13.out).1).trans XVD_13.out)
              have IC_14 := hid (IC_13.out.below hb11)
              have XVC_14 := hid ((hb11.block _ (Array.getElem?_eq_some_iff.1 XVC_13.out).1).trans XVC_13.out)
              have TU_14 := hid (TU_13.out.below hb11)
              have TV_14 := hid (TV_13.out.below hb11)
              clear XM_13 XK_13 B_13 IM_13 IK_13 TT_13 RR_13 ID_13 XVD_13 IC_13 XVC_13 TU_13 TV_13 c_XM c_XK hb11 SO
              have IS_14 := hid (hoS.ints (Nat.le_trans hlS (by decide)))
              have hkS := below_boxR w11 #[.int .i64 (ms : Int), .slice aS ls.length cpS]
              have XS0 := World.alloc_heap_new w11 (.cells #[.int .i64 (ms : Int), .slice aS ls.length cpS] 24)
              obtain ⟨V11, hV11⟩ : ∃ V, w11.alloc (.cells #[.int .i64 (ms : Int), .slice aS ls.length cpS] 24) = V := ⟨_, rfl⟩
              rw [hV11] at hkS XS0
              have XM_15 := hid ((hkS.block _ (Array.getElem?_eq_some_iff.1 XM_14.out).1).trans XM_14.out)
              have XK_15 := hid ((hkS.block _ (Array.getElem?_eq_some_iff.1 XK_14.out).1).trans XK_14.out)
              have B_15 := hid (B_14.out.trans (hkS.mono B_14.out.size))
              have IM_15 := hid (IM_14.out.below hkS)
              have IK_15 := hid (IK_14.out.below hkS)
              have TT_15 := hid (TT_14.out.below hkS)
              have RR_15 := hid (RR_14.out.below hkS)
              have ID_15 := hid (ID_14.out.below hkS)
              have XVD_15 := hid ((hkS.block _ (Array.getElem?_eq_some_iff.1 XVD_14.out).1).trans XVD_14.out)
              have IC_15 := hid (IC_14.out.below hkS)
              have XVC_15 := hid ((hkS.block _ (Array.getElem?_eq_some_iff.1 XVC_14.out).1).trans XVC_14.out)
              have TU_15 := hid (TU_14.out.below hkS)
              have TV_15 := hid (TV_14.out.below hkS)
              have IS_15 := hid (IS_14.out.below hkS)
              clear XM_14 XK_14 B_14 IM_14 IK_14 TT_14 RR_14 ID_14 XVD_14 IC_14 XVC_14 TU_14 TV_14 IS_14 hkS hoS
              have XVS_15 := hid XS0
              clear XS0
              have PS := hid (Polynomial_ok ms _ ls V11 hmk fS bS IS_15.out)
              have PZ := hid (fun v w h => Polynomial_ok k2 v l2 w hk8 hf2 hb2 h)
              have AT := hid (fun p q => at_nat hm hf hb p q)
              have AZ := hid (fun p q => at_nat hk8 hf2 hb2 p q)
              have hRS := rank_n hmk bS
              have hRZ := rank_n hk8 hb2
              rw [HTT.out, HA.out] at AT
              rw [HTT.out, HA.out] at HR
              rw [HR.out, HN.out, HM.out] at AT
              obtain ⟨RS, HRS⟩ : ∃ R, Hid (rk ls (2 ^ ms - 1) = R) := ⟨_, rfl⟩
              rw [HRS.out] at PS hRS
              obtain ⟨RZ, HRZ⟩ : ∃ R, Hid (rk l2 (2 ^ k2 - 1) = R) := ⟨_, rfl⟩
              rw [HRZ.out] at PZ AZ hRZ
              obtain ⟨N4, HN4⟩ : ∃ N, Hid (RS + 1 = N) := ⟨_, rfl⟩
              obtain ⟨M4, HM4⟩ : ∃ N, Hid (ms - RS + 1 = N) := ⟨_, rfl⟩
              rw [HN4.out, HM4.out] at PS
              obtain ⟨N5, HN5⟩ : ∃ N, Hid (RZ + 1 = N) := ⟨_, rfl⟩
              obtain ⟨M5, HM5⟩ : ∃ N, Hid (k2 - RZ + 1 = N) := ⟨_, rfl⟩
              rw [HN5.out, HM5.out] at PZ AZ
              have hN4 : N4 ≤ 9 := by rw [← HN4.out]; omega
              have hM4 : M4 ≤ 9 := by rw [← HM4.out]; omega
              have bZ : Hid (∀ i j, 0 ≤ (ttN k2 l2 i j : Int) ∧ (ttN k2 l2 i j : Int) ≤ 256) := fun p q => by have h1 := ttN_le k2 l2 p q; have h2 := fam_lenT hk8 hf2; omega
              have c_XVS := two_cells XVS_15.out
              go_wp2_with fail
              refine PS.out.mono ?_
              rintro e12 w12 ⟨gs, rfl, hgs, hsm, hb12⟩
              have XM_16 := hid ((hb12.block _ (Array.getElem?_eq_some_iff.1 XM_15.out).1).trans XM_15.out)
              have XK_16 := hid ((hb12.block _ (Array.getElem?_eq_some_iff.1 XK_15.out).1).trans XK_15.out)
              have B_16 := hid (B_15.out.trans (hb12.mono B_15.out.size))
              have IM_16 := hid (IM_15.out.below hb12)
              have IK_16 := hid (IK_15.out.below hb12)
              have TT_16 := hid (TT_15.out.below hb12)
              have RR_16 := hid (RR_15.out.below hb12)
              have ID_16 := hid (ID_15.out.below hb12)
              have XVD_16 := hid ((hb12.block _ (Array.getElem?_eq_some_iff.1 XVD_15.out).1).trans XVD_15.out)
              have IC_16 := hid (IC_15.out.below hb12)
              have XVC_16 := hid ((hb12.block _ (Array.getElem?_eq_some_iff.1 XVC_15.out).1).trans XVC_15.out)
              have TU_16 := hid (TU_15.out.below hb12)
              have TV_16 := hid (TV_15.out.below hb12)
              have IS_16 := hid (IS_15.out.below hb12)
              have XVS_16 := hid ((hb12.block _ (Array.getElem?_eq_some_iff.1 XVS_15.out).1).trans XVS_15.out)
              clear XM_15 XK_15 B_15 IM_15 IK_15 TT_15 RR_15 ID_15 XVD_15 IC_15 XVC_15 TU_15 TV_15 IS_15 XVS_15 c_XVS hb12 hV11 PS
              have TW_16 := hid hsm
              have c_XK := two_cells XK_16.out
              go_wp2_with fail
              refine (PZ.out _ _ IK_16.out).mono ?_
              rintro e13 w13 ⟨gz, rfl, hgz, hzm, hb13⟩
              have XM_17 := hid ((hb13.block _ (Array.getElem?_eq_some_iff.1 XM_16.out).1).trans XM_16.out)
              have XK_17 := hid ((hb13.block _ (Array.getElem?_eq_some_iff.1 XK_16.out).1).trans XK_16.out)
              have B_17 := hid (B_16.out.trans (hb13.mono B_16.out.size))
              have IM_17 := hid (IM_16.out.below hb13)
              have IK_17 := hid (IK_16.out.below hb13)
              have TT_17 := hid (TT_16.out.below hb13)
              have RR_17 := hid (RR_16.out.below hb13)
              have ID_17 := hid (ID_16.out.below hb13)
              have XVD_17 := hid ((hb13.block _ (Array.getElem?_eq_some_iff.1 XVD_16.out).1).trans XVD_16.out)
              have IC_17 := hid (IC_16.out.below hb13)
              have XVC_17 := hid ((hb13.block _ (Array.getElem?_eq_some_iff.1 XVC_16.out).1).trans XVC_16.out)
              have TU_17 := hid (TU_16.out.below hb13)
              have TV_17 := hid (TV_16.out.below hb13)
              have IS_17 := hid (IS_16.out.below hb13)
              have XVS_17 := hid ((hb13.block _ (Array.getElem?_eq_some_iff.1 XVS_16.out).1).trans XVS_16.out)
              have TW_17 := hid (TW_16.out.below hb13)
              clear XM_16 XK_16 B_16 IM_16 IK_16 TT_16 RR_16 ID_16 XVD_16 IC_16 XVC_16 TU_16 TV_16 IS_16 XVS_16 TW_16 c_XK hb13 PZ hsm
              have TZ_17 := hid hzm
              clear hzm
              have PT : Hid (∀ p q, (ttN ms ls p q : Int) = prodZ (fun i j => (ttN m l i j : Int)) (fun i j => (ttN k2 l2 i j : Int)) p q (p + 1) 0) := fun p q => by rw [prod_last]; exact TS.out p q
              have AQ := hid (fun i j => atQ_any gt N1 M1 N1 _ i j w13 TT_17.out)
              have BQ := hid (fun i j => atQ_any gz N5 M5 N5 _ i j w13 TZ_17.out)
              obtain ⟨fT, HfT⟩ : ∃ f : Nat → Nat → Int, Hid ((fun i j => (ttN m l i j : Int)) = f) := ⟨_, rfl⟩
              obtain ⟨fZ, HfZ⟩ : ∃ f : Nat → Nat → Int, Hid ((fun i j => (ttN k2 l2 i j : Int)) = f) := ⟨_, rfl⟩
              have bT2 : Hid (∀ i j, 0 ≤ fT i j ∧ fT i j ≤ 256) := fun i j => by rw [← HfT.out]; exact bT.out i j
              have bZ2 : Hid (∀ i j, 0 ≤ fZ i j ∧ fZ i j ≤ 256) := fun i j => by rw [← HfZ.out]; exact bZ.out i j
              have AT2 : Hid (∀ c d : Nat, atZ N1 M1 fT c d = fT c d) := fun c d => by rw [← HfT.out]; exact AT.out c d
              have AZ2 : Hid (∀ p q c d : Nat, c ≤ p → d ≤ q → atZ N5 M5 fZ ((p : Int) - (c : Int)) ((q : Int) - (d : Int)) = fZ (p - c) (q - d)) := fun p q c d hc hd => by rw [← HfZ.out, ← Int.ofNat_sub hc, ← Int.ofNat_sub hd]; exact AZ.out (p - c) (q - d)
              rw [HfT.out, HfZ.out] at PT
              rw [HfT.out] at AQ
              rw [HfZ.out] at BQ
              have PB : Hid (∀ p q c d, q ≤ 9 → c ≤ 10 → d ≤ 10 → 0 ≤ prodZ fT fZ p q c d ∧ prodZ fT fZ p q c d ≤ 10000000) := fun p q c d h1 h2 h3 => prod_bd bT2.out bZ2.out h1 h2 h3
              have HFB := hid B_17.out
              have TWF := hid TW_17.out
              clear AT AZ bZ TS HfT HfZ XM_17 XK_17 B_17 IM_17 IK_17 TT_17 RR_17 ID_17 XVD_17 IC_17 XVC_17 TU_17 TV_17 IS_17 XVS_17 TW_17 TZ_17
              go_wp2_with fail
              go_loopw [30, 31, 32, 33, 34, 203] (fun _ _ _ _ _ i wr => ∃ p : Nat, p ≤ N4 ∧ i = .int .i64 p ∧ w13 = wr) (fun _ _ _ _ _ i _ => N4 - (intOf i).toNat)
              case atStart => exact ⟨0, Nat.zero_le _, rfl, rfl⟩
              case round =>
                obtain ⟨p, hp, rfl, hw⟩ := hrel
                subst hw
                by_cases hlt : p < N4
                · have hpi : (p : Int) < (N4 : Int) := by omega
                  have c_h := TWF.out.head p hlt
                  go_wp2_with fail
                  go_loopw [31, 32, 33, 34, 211] (fun _ _ _ _ i wr => ∃ q : Nat, q ≤ M4 ∧ i = .int .i64 q ∧ w13 = wr) (fun _ _ _ _ i _ => M4 - (intOf i).toNat)
                  case atStart => exact ⟨0, Nat.zero_le _, rfl, rfl⟩
                  case round =>
                    obtain ⟨q, hq, rfl, hw⟩ := hrel
                    subst hw
                    by_cases hlq : q < M4
                    · have hqi : (q : Int) < (M4 : Int) := by omega
                      have c_t := (TWF.out.row p hlt).cell q hlq
                      rw [PT.out p q] at c_t
                      have HCT := hid c_t
                      clear c_t
                      go_wp2_with fail
                      go_loopw [32, 33, 34] (fun s c _ wr => ∃ cc : Nat, cc ≤ p + 1 ∧ s = .int .i64 (prodZ fT fZ p q cc 0) ∧ c = .int .i64 cc ∧ w13 = wr) (fun _ c _ _ => p + 1 - (intOf c).toNat)
                      case atStart => exact ⟨0, Nat.zero_le _, by rw [prod_zero], rfl, rfl⟩
                      case round =>
                        obtain ⟨cc, hcc, rfl, rfl, hw⟩ := hrel
                        subst hw
                        by_cases hlc : cc ≤ p
                        · have hci : (cc : Int) ≤ (p : Int) := by omega
                          go_wp2_with fail
                          go_loopw [32, 34] (fun s d wr => ∃ dd : Nat, dd ≤ q + 1 ∧ s = .int .i64 (prodZ fT fZ p q cc dd) ∧ d = .int .i64 dd ∧ w13 = wr) (fun _ d _ => q + 1 - (intOf d).toNat)
                          case atStart => exact ⟨0, Nat.zero_le _, rfl, rfl, rfl⟩
                          case round =>
                            obtain ⟨dd, hdd2, rfl, rfl, hw⟩ := hrel
                            subst hw
                            by_cases hld : dd ≤ q
                            · have hdi : (dd : Int) ≤ (q : Int) := by omega
                              have A1 := hid (AQ.out cc dd)
                              have B1 := hid (BQ.out ((p : Int) - (cc : Int)) ((q : Int) - (dd : Int)))
                              rw [AT2.out] at A1
                              rw [AZ2.out p q cc dd hlc hld] at B1
                              have STP := hid (prod_step fT fZ p q cc dd)
                              have s1 := PB.out p q cc dd (by omega) (by omega) (by omega)
                              have s2 := mul_bd (bT2.out cc dd) (bZ2.out (p - cc) (q - dd))
                              have s3 := bT2.out cc dd
                              have s4 := bZ2.out (p - cc) (q - dd)
                              generalize prodZ fT fZ p q cc dd = y0 at *
                              generalize fT cc dd = y1 at *
                              generalize fZ (p - cc) (q - dd) = y2 at *
                              obtain ⟨y3, H3⟩ : ∃ y3, y1 * y2 = y3 := ⟨_, rfl⟩
                              rw [H3] at STP s2
                              go_wp2_with fail
                              refine (A1.out).mono ?_
                              rintro e' w' ⟨rfl, rfl⟩
                              go_wp2_with fail
                              refine (B1.out).mono ?_
                              rintro e' w' ⟨rfl, rfl⟩
                              go_wp2_with fail
                              go_roundw
                              case rel => exact ⟨dd + 1, by omega, by rw [STP.out], by go_num, by first | rfl | trivial⟩
                              case measure => simp [intOf]; omega
                            · obtain rfl : dd = q + 1 := by omega
                              have hdi : ¬ ((q + 1 : Nat) : Int) ≤ (q : Int) := by omega
                              rw [prod_next]
                              go_wp2_with fail
                              go_roundw
                              case rel => exact ⟨cc + 1, by omega, rfl, by go_num, by first | rfl | trivial⟩
                              case measure => simp [intOf]; omega
                        · obtain rfl : cc = p + 1 := by omega
                          have hci : ¬ ((p + 1 : Nat) : Int) ≤ (p : Int) := by omega
                          have c_t := HCT.out
                          generalize prodZ fT fZ p q (p + 1) 0 = y at *
                          go_wp2_with fail
                          go_roundw
                          case rel => exact ⟨q + 1, by omega, by go_num, by first | rfl | trivial⟩
                          case measure => simp [intOf]; omega
                    · obtain rfl : M4 = q := by omega
                      go_wp2_with fail
                      go_roundw
                      case rel => exact ⟨p + 1, by omega, by go_num, by first | rfl | trivial⟩
                      case measure => simp [intOf]; omega
                · obtain rfl : N4 = p := by omega
                  go_wp2_with fail
                  go_ret
                  exact ⟨rfl, HFB.out⟩
            · have SO := hid (Sum_large m k2 _ _ l l2 wq hm hk8 (by omega) hf hb IM_13.out hf2 hb2 IK_13.out)
              go_wp2_with fail
              refine (SO.out).mono ?_
              rintro e11 w11 ⟨rfl, hb11⟩
              have HF := hid (B_13.out.trans (hb11.mono B_13.out.size))
              clear hb11
              go_wp2_with fail
              go_ret
              exact ⟨rfl, HF.out.alloc HF.out.size _⟩
          · have SO := hid (Sum_bad m k _ _ (N l) ys wq IM_13.out IK_13.out (by unfold chk2; rw [if_pos HQ0.out]; exact hkq))
            rw [show chk2 m (N l) k ys = chkR k ys by unfold chk2; rw [if_pos HQ0.out]] at SO
            generalize chkR k ys = qz at *
            have hqz : (qz == 0) = false := by rw [beq_eq_false_iff_ne]; exact hkq
            have c_XM := two_cells XM_13.out
            have c_XK := two_cells XK_13.out
            go_wp2_with fail
            refine (SO.out).mono ?_
            rintro e11 w11 ⟨rfl, hb11⟩
            have HF := hid (B_13.out.trans (hb11.mono B_13.out.size))
            clear hb11
            go_wp2_with fail
            go_ret
            exact ⟨rfl, HF.out.alloc HF.out.size _⟩
  · have PO := hid (Polynomial_bad n _ zs w4 IM_4.out hq)
    generalize chkR n zs = q at *
    have hq' : (q == 0) = false := by rw [beq_eq_false_iff_ne]; exact hq
    have c_XM := two_cells XM_4.out
    go_wp2_with fail
    refine PO.out.mono ?_
    rintro e w5 ⟨rfl, hb5⟩
    have HF := hid (B_4.out.trans (hb5.mono B_4.out.size))
    clear hb5
    go_wp2_with fail
    go_ret
    exact ⟨rfl, HF.out⟩
end Go.Proofs.Ytioaonmlnikbdaa
