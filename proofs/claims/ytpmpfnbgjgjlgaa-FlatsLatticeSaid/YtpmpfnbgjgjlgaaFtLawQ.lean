/- rotalaw.FlatsLattice. -/
import Derived.Test.YtpmpfnbgjgjlgaaFsLawQ
import Derived.Test.YtpmpfnbgjgjlgaaFmLawQ
import Derived.Test.YtpmpfnbgjgjlgaaRfWQ
import Derived.Test.YtpmpfnbgjgjlgaaRfXQ
namespace Go.Proofs.Ytpmpfnbgjgjlgaa
open Go.RowKit

theorem yes_bad (w : World) (q : Int) (c : Bool) (hq : q ≠ 0) : Calls Try.prog 31 #[.bool false, .int .i64 q, .bool c, .int .i64 q] w fun r w' => r = .returned (.bool true) ∧ w' = w := by
  have h1 : (q == 0) = false := by rw [beq_eq_false_iff_ne]; exact hq
  have h2 : (q == q) = true := by simp
  go_enter Try.func31, Try.ntmps31
  go_wp2_with fail
  go_ret
  exact ⟨rfl, rfl⟩
theorem yes_good (w : World) (c : Bool) : Calls Try.prog 31 #[.bool c, .int .i64 0, .bool c, .int .i64 0] w fun r w' => r = .returned (.bool true) ∧ w' = w := by
  cases c <;>
  · go_enter Try.func31, Try.ntmps31
    go_wp2_with fail
    go_ret
    exact ⟨rfl, rfl⟩
theorem HasF_any (v : Value) (zs : List Int) (x : Int) (w : World) (h : Ints w v zs) :
    Calls Try.prog 23 #[v, .int .i64 x] w fun e w' => e = .returned (.bool (memZ x zs)) ∧ w' = w := by
  have HC := hid (ContainsZ_any v zs x w h)
  obtain ⟨a, cap, rfl, _, _⟩ := h
  go_enter Try.func23, Try.ntmps23
  go_wp2_with fail
  refine HC.out.mono ?_
  rintro e w' ⟨rfl, h'⟩
  obtain rfl := h'.symm
  go_wp2_with fail
  go_ret
  exact ⟨rfl, rfl⟩
theorem mod_or (fs : List Nat) (r : Nat → Nat) (f : Nat) : modB fs r f = fs.all fun g => r f + r g == r (f ||| g) + r (f &&& g) := by
  unfold modB
  congr 1
  funext g
  rw [Nat.add_comm (r (f &&& g))]
set_option maxRecDepth 20000 in
set_option maxHeartbeats 8000000 in
theorem flattice_law (n : Int) (v : Value) (zs : List Int) (f : Int) (w : World) (h : Ints w v zs) :
    Calls Try.prog 4 #[.agg #[.int .i64 n, v], .int .i64 f] w fun e w' => e = .returned (.bool true) ∧ Below w.heap.size w w' := by
  have HI := hid h
  obtain ⟨a, cap, rfl, -, -⟩ := h
  have hB0 := below_box w #[.int .i64 n, .slice a zs.length cap]
  have HB0 := hid hB0
  have HI0 := hid (HI.out.below hB0)
  have M1 := hid (Matroid_ref n _ zs _ HI0.out)
  have HX : Hid (∀ w2, Below (w.alloc (.cells #[.int .i64 n, .slice a zs.length cap] 24)).heap.size (w.alloc (.cells #[.int .i64 n, .slice a zs.length cap] 24)) w2 → _) := fun w2 hb => box_cells hb
  clear hB0 HI
  by_cases hq : chkR n zs = 0
  · obtain ⟨m, l, rfl, hm, rfl, hf, hb⟩ := chk_of hq
    rw [hq] at M1
    rw [N_len] at *
    have hlen : (fltL m (rk l)).length ≤ 256 := flt_len hm
    have hp := flt_pos hm hb.rk
    have HF0 := hid (flt_zero hm hb.rk)
    have hF0m : loopS (rk l) m ∈ fltL m (rk l) := flt_mem.2 ⟨loop_lt hm, loop_flat hm hb.rk⟩
    have UB := hid (fun w2 hI => (Unbroken_ref m (.slice a l.length cap) l w2 hm hf hb hI).mono (fun e w' ⟨u, h1, h2, h3⟩ => (⟨u, h1, h2.ints (Nat.le_trans (Nat.le_trans (List.length_filter_le _ _) (by simp)) (Nat.le_trans (pow_wrap m hm).2 (by decide))), h3⟩ : ∃ u, e = Ending.returned u ∧ Ints w' u (N ((List.range (2 ^ m)).filter (unbB (rk l) m))) ∧ Below w2.heap.size w2 w')))
    have FL := hid (fun w2 hI => (Flats_ref m (.slice a l.length cap) l w2 hm hb (hf.lt256 hm) hI).mono (fun e w' ⟨u, h1, h2, h3⟩ => (⟨u, h1, by rw [flat_eq hm hb] at h2; exact h2.ints (Nat.le_trans hlen (by decide)), h3⟩ : ∃ u, e = Ending.returned u ∧ Ints w' u (N (fltL m (rk l))) ∧ Below w2.heap.size w2 w')))
    have CH := hid (fun w2 hI => Chains_ref m (.slice a l.length cap) l hm hf hb _ (loopS (rk l) m) w2 rfl hF0m hI)
    rw [chain_eq hm hb.rk] at CH
    have PB := hid (fun w2 hI => (Broken_ok m (.slice a l.length cap) l w2 hm hf hb hI).mono (fun e w' ⟨u, h1, h2, h3⟩ => (⟨u, h1, h2.ints (Nat.le_trans (Nat.le_trans (List.length_filter_le _ _) (by simp)) (Nat.le_trans (pow_wrap m hm).2 (by decide))), h3⟩ : ∃ u, e = Ending.returned (.tuple #[u, .int .i64 0]) ∧ Ints w' u (N ((List.range (2 ^ m)).filter (unbB (rk l) m))) ∧ Below w2.heap.size w2 w')))
    have PC := hid (fun w2 hI => Chains_ok m (.slice a l.length cap) l w2 hm hf hb hI)
    cases hmz : memZ f (N (fltL m (rk l)))
    · have PV := hid (fun w2 hI => Covers_arg m f (.slice a l.length cap) l w2 hm hf hb hI hmz)
      have PM := hid (fun w2 hI => Modular_arg m f (.slice a l.length cap) l w2 hm hf hb hI hmz)
      clear hF0m hq hf hb
      generalize N ((List.range (2 ^ m)).filter (unbB (rk l) m)) = LA at *
      generalize upN m (rk l) (2 ^ m - 1) = un at *
      generalize hlo : loopS (rk l) m = lo at *
      clear hlo
      generalize fltL m (rk l) = fs at *
      go_enter Try.func4, Try.ntmps4
      go_wp2_with fail
      refine M1.out.mono ?_
      rintro e w1 ⟨rfl, hb1⟩
      have X1 := hid (HX.out w1 hb1)
      have S1 : w.heap.size < w1.heap.size := by have := hb1.size; simp at this; omega
      have B1 := hid (HB0.out.trans (hb1.mono HB0.out.size))
      have I1 := hid (HI0.out.below hb1)
      clear hb1 HX HB0 HI0 M1
      obtain ⟨y0_2, y1_2⟩ := X1.out
      go_wp2_with fail
      refine (UB.out _ I1.out).mono ?_
      rintro e w2 ⟨u2, rfl, hj2, hb2⟩
      have JA2 := hid hj2
      clear hj2
      have I2 := hid (I1.out.below hb2)
      have X2 := hid (box_backF X1.out hb2 S1)
      have S2 := Nat.lt_of_lt_of_le S1 hb2.size
      have B2 := hid (B1.out.trans (hb2.mono B1.out.size))
      clear hb2
      obtain ⟨y0_3, y1_3⟩ := X2.out
      go_wp2_with fail
      refine (FL.out _ I2.out).mono ?_
      rintro e w3 ⟨u3, rfl, hj3, hb3⟩
      have JF3 := hid hj3
      clear hj3
      have I3 := hid (I2.out.below hb3)
      have JA3 := hid (JA2.out.below hb3)
      have X3 := hid (box_backF X2.out hb3 S2)
      have S3 := Nat.lt_of_lt_of_le S2 hb3.size
      have B3 := hid (B2.out.trans (hb3.mono B2.out.size))
      clear hb3
      obtain ⟨fa, fcap, hu3, -, hfc⟩ := JF3.out.nats
      subst hu3
      obtain ⟨fb, fo, rfl, hfb, hfcell⟩ := hfc hp
      have HFC := hid hfcell
      have z0 := hfcell 0 hp
      rw [HF0.out, Nat.add_zero] at z0
      have hpi : (0 : Int) < (fs.length : Int) := by omega
      have CH3 := hid (CH.out w3.drew (I3.out.below (Below.refl _ _).drew))
      obtain ⟨y0_4, y1_4⟩ := X3.out
      clear hfcell hfc
      generalize hFL : fs.length = fl at *
      go_wp2_with fail
      go_region_held3 (fun w' => (w'.cell? ⟨w.heap.size, 0, none⟩ = some (.int .i64 m) ∧ w'.cell? ⟨w.heap.size, 1, none⟩ = some (.slice a l.length cap)) ∧ w'.cell? ⟨fb, fo, none⟩ = some (.int .i64 (lo : Nat))) (go_keep) (first
        | (go_at_call 21; refine CH3.out.mono ?_; rintro e w4 ⟨rfl, hb4⟩; have K4 := hid hb4; obtain ⟨k0, k1⟩ := box_backF (w := w3.drew) X3.out hb4 S3; have k2 := (hb4.cell (p := ⟨fb, fo, none⟩) hfb).trans z0; clear hb4))
      have hb4 := (Below.refl w3.heap.size w3).drew.trans K4.out
      clear K4
      have I4 := hid (I3.out.below hb4)
      have JA4 := hid (JA3.out.below hb4)
      have JF4 := hid (JF3.out.below hb4)
      have X4 := hid (box_backF X3.out hb4 S3)
      have S4 := Nat.lt_of_lt_of_le S3 hb4.size
      have B4 := hid (B3.out.trans (hb4.mono B3.out.size))
      clear hb4 z0 CH3 k0 k1 k2
      rw [← hFL] at JF4
      have HS := hid (HasF_any _ _ f w4 JF4.out)
      rw [hmz] at HS
      rw [hFL] at HS
      go_wp2_with fail
      refine HS.out.mono ?_
      rintro e w5 ⟨rfl, h5⟩
      obtain rfl := h5.symm
      have BN := hid (fun w => bad_no 1 w)
      go_wp2_with fail
      refine (BN.out _).mono ?_
      rintro e w5 ⟨rfl, h5⟩
      obtain rfl := h5.symm
      clear JF4 HS
      obtain ⟨y0_5, y1_5⟩ := X4.out
      go_wp2_with fail
      refine (PB.out _ I4.out).mono ?_
      rintro e w5 ⟨u5, rfl, hj5, hb5⟩
      have KA5 := hid hj5
      clear hj5
      have I5 := hid (I4.out.below hb5)
      have JA5 := hid (JA4.out.below hb5)
      have X5 := hid (box_backF X4.out hb5 S4)
      have S5 := Nat.lt_of_lt_of_le S4 hb5.size
      have B5 := hid (B4.out.trans (hb5.mono B4.out.size))
      clear hb5
      obtain ⟨y0_6, y1_6⟩ := X5.out
      go_wp2_with fail
      refine (PV.out _ I5.out).mono ?_
      rintro e w6 ⟨rfl, hb6⟩
      have I6 := hid (I5.out.below hb6)
      have JA6 := hid (JA5.out.below hb6)
      have KA6 := hid (KA5.out.below hb6)
      have X6 := hid (box_backF X5.out hb6 S5)
      have S6 := Nat.lt_of_lt_of_le S5 hb6.size
      have B6 := hid (B5.out.trans (hb6.mono B5.out.size))
      clear hb6
      obtain ⟨y0_7, y1_7⟩ := X6.out
      go_wp2_with fail
      refine (PC.out _ I6.out).mono ?_
      rintro e w7 ⟨rfl, hb7⟩
      have I7 := hid (I6.out.below hb7)
      have JA7 := hid (JA6.out.below hb7)
      have KA7 := hid (KA6.out.below hb7)
      have X7 := hid (box_backF X6.out hb7 S6)
      have S7 := Nat.lt_of_lt_of_le S6 hb7.size
      have B7 := hid (B6.out.trans (hb7.mono B6.out.size))
      clear hb7
      obtain ⟨y0_8, y1_8⟩ := X7.out
      go_wp2_with fail
      refine (PM.out _ I7.out).mono ?_
      rintro e w8 ⟨rfl, hb8⟩
      have I8 := hid (I7.out.below hb8)
      have JA8 := hid (JA7.out.below hb8)
      have KA8 := hid (KA7.out.below hb8)
      have X8 := hid (box_backF X7.out hb8 S7)
      have S8 := Nat.lt_of_lt_of_le S7 hb8.size
      have B8 := hid (B7.out.trans (hb8.mono B7.out.size))
      clear hb8
      have LA8 := hid (list_good w8 _ _ _ KA8.out JA8.out)
      have LB8 := hid (fun w => list_bad w (.slice none 0 0) 1 rfl (by decide) (.slice none 0 0))
      have LC8 := hid (fun w => one_good w (un : Nat))
      have LD8 := hid (fun w => yes_bad w 1 true (by decide))
      obtain ⟨_, _, hu5, -, -⟩ := KA8.out
      subst hu5
      obtain ⟨_, _, hu2, -, -⟩ := JA8.out
      subst hu2
      go_wp2_with fail
      refine LA8.out.mono ?_
      rintro e w9 ⟨rfl, hb9⟩
      have B9 := hid (B8.out.trans (hb9.mono B8.out.size))
      clear hb9
      go_wp2_with fail
      refine (LB8.out _).mono ?_
      rintro e w10 ⟨rfl, h10⟩
      obtain rfl := h10.symm
      go_wp2_with fail
      refine (LC8.out _).mono ?_
      rintro e w10 ⟨rfl, h10⟩
      obtain rfl := h10.symm
      go_wp2_with fail
      refine (LD8.out _).mono ?_
      rintro e w10 ⟨rfl, h10⟩
      obtain rfl := h10.symm
      go_wp2_with fail
      go_ret
      exact ⟨rfl, B9.out⟩
    · obtain ⟨kf, rfl, hkf⟩ := memZ_nat hmz
      have AB := hid (fun w2 hI => (Above_ref m kf (.slice a l.length cap) l w2 hm hf hb hI hkf).mono (fun e w' ⟨u, h1, h2, h3⟩ => (⟨u, h1, h2.ints (Nat.le_trans (List.length_filter_le _ _) (Nat.le_trans hlen (by decide))), h3⟩ : ∃ u, e = Ending.returned u ∧ Ints w' u (N (nxtF (fltL m (rk l)) (rk l) kf)) ∧ Below w2.heap.size w2 w')))
      have RK := hid (fun w2 hI => Ranks_ref m (.slice a l.length cap) l w2 hm (hf.lt256 hm) hI)
      have PV := hid (fun w2 hI => (Covers_ok m kf (.slice a l.length cap) l w2 hm hf hb hI hkf).mono (fun e w' ⟨u, h1, h2, h3⟩ => (⟨u, h1, h2.ints (Nat.le_trans (List.length_filter_le _ _) (Nat.le_trans hlen (by decide))), h3⟩ : ∃ u, e = Ending.returned (.tuple #[u, .int .i64 0]) ∧ Ints w' u (N (nxtF (fltL m (rk l)) (rk l) kf)) ∧ Below w2.heap.size w2 w')))
      have PM := hid (fun w2 hI => Modular_ok m kf (.slice a l.length cap) l w2 hm hf hb hI hkf)
      rw [mod_or] at PM
      have hkT := (flt_mem.1 hkf).1
      have hr8 := rk_small hm hf
      have HLT := hid (fun i (hi : i < (fltL m (rk l)).length) => (flt_getD (r := rk l) hi).1)
      have HAO : Hid (∀ g, g < 2 ^ m → kf &&& g < 2 ^ m ∧ kf ||| g < 2 ^ m) := fun g hg => ⟨Nat.lt_of_le_of_lt Nat.and_le_left hkT, Nat.or_lt_two_pow hkT hg⟩
      have hT2 := (pow_wrap m hm).2
      obtain ⟨p, HP⟩ : ∃ p : Nat → Bool, Hid ((fun g => rk l kf + rk l g == rk l (kf ||| g) + rk l (kf &&& g)) = p) := ⟨_, rfl⟩
      have PX : Hid (∀ g, p g = (rk l kf + rk l g == rk l (kf ||| g) + rk l (kf &&& g))) := fun g => by rw [← HP.out]
      rw [HP.out] at PM
      generalize hNX : nxtF (fltL m (rk l)) (rk l) kf = NX at *
      clear HP hNX hkf
      clear hF0m hq hf hb
      generalize N ((List.range (2 ^ m)).filter (unbB (rk l) m)) = LA at *
      generalize upN m (rk l) (2 ^ m - 1) = un at *
      generalize hlo : loopS (rk l) m = lo at *
      clear hlo
      generalize fltL m (rk l) = fs at *
      generalize 2 ^ m = T at *
      generalize rk l = r at *
      go_enter Try.func4, Try.ntmps4
      go_wp2_with fail
      refine M1.out.mono ?_
      rintro e w1 ⟨rfl, hb1⟩
      have X1 := hid (HX.out w1 hb1)
      have S1 : w.heap.size < w1.heap.size := by have := hb1.size; simp at this; omega
      have B1 := hid (HB0.out.trans (hb1.mono HB0.out.size))
      have I1 := hid (HI0.out.below hb1)
      clear hb1 HX HB0 HI0 M1
      obtain ⟨y0_2, y1_2⟩ := X1.out
      go_wp2_with fail
      refine (UB.out _ I1.out).mono ?_
      rintro e w2 ⟨u2, rfl, hj2, hb2⟩
      have JA2 := hid hj2
      clear hj2
      have I2 := hid (I1.out.below hb2)
      have X2 := hid (box_backF X1.out hb2 S1)
      have S2 := Nat.lt_of_lt_of_le S1 hb2.size
      have B2 := hid (B1.out.trans (hb2.mono B1.out.size))
      clear hb2
      obtain ⟨y0_3, y1_3⟩ := X2.out
      go_wp2_with fail
      refine (FL.out _ I2.out).mono ?_
      rintro e w3 ⟨u3, rfl, hj3, hb3⟩
      have JF3 := hid hj3
      clear hj3
      have I3 := hid (I2.out.below hb3)
      have JA3 := hid (JA2.out.below hb3)
      have X3 := hid (box_backF X2.out hb3 S2)
      have S3 := Nat.lt_of_lt_of_le S2 hb3.size
      have B3 := hid (B2.out.trans (hb3.mono B2.out.size))
      clear hb3
      obtain ⟨fa, fcap, hu3, -, hfc⟩ := JF3.out.nats
      subst hu3
      obtain ⟨fb, fo, rfl, hfb, hfcell⟩ := hfc hp
      have HFC := hid hfcell
      have z0 := hfcell 0 hp
      rw [HF0.out, Nat.add_zero] at z0
      have hpi : (0 : Int) < (fs.length : Int) := by omega
      have CH3 := hid (CH.out w3.drew (I3.out.below (Below.refl _ _).drew))
      obtain ⟨y0_4, y1_4⟩ := X3.out
      clear hfcell hfc
      generalize hFL : fs.length = fl at *
      go_wp2_with fail
      go_region_held3 (fun w' => (w'.cell? ⟨w.heap.size, 0, none⟩ = some (.int .i64 m) ∧ w'.cell? ⟨w.heap.size, 1, none⟩ = some (.slice a l.length cap)) ∧ w'.cell? ⟨fb, fo, none⟩ = some (.int .i64 (lo : Nat))) (go_keep) (first
        | (go_at_call 21; refine CH3.out.mono ?_; rintro e w4 ⟨rfl, hb4⟩; have K4 := hid hb4; obtain ⟨k0, k1⟩ := box_backF (w := w3.drew) X3.out hb4 S3; have k2 := (hb4.cell (p := ⟨fb, fo, none⟩) hfb).trans z0; clear hb4))
      have hb4 := (Below.refl w3.heap.size w3).drew.trans K4.out
      clear K4
      have I4 := hid (I3.out.below hb4)
      have JA4 := hid (JA3.out.below hb4)
      have JF4 := hid (JF3.out.below hb4)
      have X4 := hid (box_backF X3.out hb4 S3)
      have S4 := Nat.lt_of_lt_of_le S3 hb4.size
      have B4 := hid (B3.out.trans (hb4.mono B3.out.size))
      clear hb4 z0 CH3 k0 k1 k2
      rw [← hFL] at JF4
      have HS := hid (HasF_any _ _ (kf : Int) w4 JF4.out)
      rw [hmz] at HS
      rw [hFL] at HS
      go_wp2_with fail
      refine HS.out.mono ?_
      rintro e w5 ⟨rfl, h5⟩
      obtain rfl := h5.symm
      have BN := hid (fun w => bad_yes 1 w)
      go_wp2_with fail
      refine (BN.out _).mono ?_
      rintro e w5 ⟨rfl, h5⟩
      obtain rfl := h5.symm
      obtain ⟨y0_5, y1_5⟩ := X4.out
      go_wp2_with fail
      refine (AB.out _ I4.out).mono ?_
      rintro e w5 ⟨u5, rfl, hj5, hb5⟩
      have JB5 := hid hj5
      clear hj5
      have I5 := hid (I4.out.below hb5)
      have JA5 := hid (JA4.out.below hb5)
      have JF5 := hid (JF4.out.below hb5)
      have X5 := hid (box_backF X4.out hb5 S4)
      have S5 := Nat.lt_of_lt_of_le S4 hb5.size
      have B5 := hid (B4.out.trans (hb5.mono B4.out.size))
      clear hb5
      obtain ⟨y0_6, y1_6⟩ := X5.out
      go_wp2_with fail
      refine (RK.out _ I5.out).mono ?_
      rintro e w6 ⟨u6, rfl, hj6, hb6⟩
      have JR6 := hid hj6
      clear hj6
      have I6 := hid (I5.out.below hb6)
      have JA6 := hid (JA5.out.below hb6)
      have JF6 := hid (JF5.out.below hb6)
      have JB6 := hid (JB5.out.below hb6)
      have X6 := hid (box_backF X5.out hb6 S5)
      have S6 := Nat.lt_of_lt_of_le S5 hb6.size
      have B6 := hid (B5.out.trans (hb6.mono B5.out.size))
      clear hb6
      obtain ⟨rb, ro, rc, hu6, -, -⟩ := JR6.out
      subst hu6
      go_wp2_with fail
      have HC6 : Hid (∀ (i : Nat) (hi : i < fl) w' (hb' : Below w6.heap.size w6 w'), w'.cell? ⟨fb, fo + i, none⟩ = some (.int .i64 (fs.getD i 0 : Nat))) := fun i hi w' hb' => by
        have e := JF6.out
        rw [← hFL] at hi
        exact flats_ints_cell e hb' hi
      have HTS : Hid (∀ j, j < fl → (fs.take (j + 1)).all p = ((fs.take j).all p && p (fs.getD j 0))) := fun j hj => by
        rw [← hFL] at hj
        rw [take_snoc hj, List.all_append]
        simp
      have HTE : Hid ((fs.take fl).all p = fs.all p) := by show _ = _; rw [← hFL, List.take_length]
      have HLT6 : Hid (∀ j, j < fl → fs.getD j 0 < T) := fun j hj => HLT.out j hj
      have hfl : fl ≤ 256 := hlen
      clear HLT AB RK BN HS
      go_loopw [10, 13, 49] (fun ok _ i wr => ∃ j : Nat, j ≤ fl ∧ i = .int .i64 j ∧ ok = .bool ((fs.take j).all p) ∧ Hid (Below w6.heap.size w6 wr)) (fun _ _ i _ => fl - (intOf i).toNat)
      case atStart => exact ⟨0, Nat.zero_le _, rfl, rfl, Below.refl _ _⟩
      case round =>
        obtain ⟨j, hj, rfl, rfl, HW⟩ := hrel
        by_cases hlt : j < fl
        · have z1 := HC6.out j hlt wr HW.out
          have l1 := HLT6.out j hlt
          obtain ⟨l2, l3⟩ := HAO.out _ l1
          have z2 := JR6.out.cellAt HW.out l1
          have z3 := JR6.out.cellAt HW.out hkT
          have z4 := JR6.out.cellAt HW.out l2
          have z5 := JR6.out.cellAt HW.out l3
          have PK := hid (PX.out (fs.getD j 0))
          have TS := hid (HTS.out j hlt)
          have b1 : bits .and .i64 (kf : Int) (fs.getD j 0 : Int) = ((kf &&& fs.getD j 0 : Nat) : Int) := i64_and_nat _ _ (by omega) (by omega)
          have b2 : bits .or .i64 (kf : Int) (fs.getD j 0 : Int) = ((kf ||| fs.getD j 0 : Nat) : Int) := i64_or_nat _ _ (by omega) (by omega)
          have r1 := hr8 (fs.getD j 0)
          have r2 := hr8 kf
          have r3 := hr8 (kf &&& fs.getD j 0)
          have r4 := hr8 (kf ||| fs.getD j 0)
          have l1i : (fs.getD j 0 : Int) < (T : Int) := by omega
          have hfi : (kf : Int) < (T : Int) := by omega
          have l2i : ((kf &&& fs.getD j 0 : Nat) : Int) < (T : Int) := by omega
          have l3i : ((kf ||| fs.getD j 0 : Nat) : Int) < (T : Int) := by omega
          have SKIP := hid (fun m => (HW.out.trans (drewN_below _ _ m)))
          have hji : (j : Int) < (fl : Int) := by omega
          generalize fs.getD j 0 = g at *
          generalize kf &&& g = fg at *
          generalize kf ||| g = gf at *
          generalize r g = rg at *
          generalize r kf = rf at *
          generalize r fg = rfg at *
          generalize r gf = rgf at *
          generalize (fs.take j).all p = aj at *
          cases aj
          · have TS2 : Hid ((fs.take (j + 1)).all p = false) := by show _ = _; rw [TS.out]; rfl
            clear TS PK
            go_wp2_with fail
            go_quiet (fail)
            go_wp2_with fail
            go_roundw
            case rel => exact ⟨j + 1, by omega, by go_num, by rw [TS2.out], SKIP.out _⟩
            case measure => simp [intOf]; omega
          · by_cases hc : rf + rg = rgf + rfg
            · have hc' : ((rf : Int) + (rg : Int) == (rgf : Int) + (rfg : Int)) = true := by rw [beq_iff_eq]; omega
              have TS2 : Hid ((fs.take (j + 1)).all p = true) := by show _ = _; rw [TS.out, PK.out, hc]; simp
              clear hc TS PK
              go_wp2_with fail
              go_quiet (fail)
              go_wp2_with fail
              go_roundw
              case rel => exact ⟨j + 1, by omega, by go_num, by rw [TS2.out], SKIP.out _⟩
              case measure => simp [intOf]; omega
            · have hc' : ((rf : Int) + (rg : Int) == (rgf : Int) + (rfg : Int)) = false := by rw [beq_eq_false_iff_ne]; omega
              have hbe : (rf + rg == rgf + rfg) = false := by rw [beq_eq_false_iff_ne]; exact hc
              have TS2 : Hid ((fs.take (j + 1)).all p = false) := by show _ = _; rw [TS.out, PK.out, hbe]; rfl
              clear hc TS PK
              go_wp2_with fail
              go_quiet (fail)
              go_wp2_with fail
              go_roundw
              case rel => exact ⟨j + 1, by omega, by go_num, by rw [TS2.out], SKIP.out _⟩
              case measure => simp [intOf]; omega
        · obtain rfl : j = fl := by omega
          rw [HTE.out]
          have W7 := hid HW.out
          clear HTE HTS HC6 HLT6 HAO PX
          generalize fs.all p = am at *
          obtain ⟨w7, hw7⟩ : ∃ w7, wr = w7 := ⟨_, rfl⟩
          subst hw7
          have hb7 := W7.out
          have I7 := hid (I6.out.below hb7)
          have JA7 := hid (JA6.out.below hb7)
          have JB7 := hid (JB6.out.below hb7)
          have JR7 := hid (JR6.out.below hb7)
          have X7 := hid (box_backF X6.out hb7 S6)
          have S7 := Nat.lt_of_lt_of_le S6 hb7.size
          have B7 := hid (B6.out.trans (hb7.mono B6.out.size))
          clear hb7
          obtain ⟨y0_8, y1_8⟩ := X7.out
          go_wp2_with fail
          refine (PB.out _ I7.out).mono ?_
          rintro e w8 ⟨u8, rfl, hj8, hb8⟩
          have KA8 := hid hj8
          clear hj8
          have I8 := hid (I7.out.below hb8)
          have JA8 := hid (JA7.out.below hb8)
          have JB8 := hid (JB7.out.below hb8)
          have JR8 := hid (JR7.out.below hb8)
          have X8 := hid (box_backF X7.out hb8 S7)
          have S8 := Nat.lt_of_lt_of_le S7 hb8.size
          have B8 := hid (B7.out.trans (hb8.mono B7.out.size))
          clear hb8
          obtain ⟨y0_9, y1_9⟩ := X8.out
          go_wp2_with fail
          refine (PV.out _ I8.out).mono ?_
          rintro e w9 ⟨u9, rfl, hj9, hb9⟩
          have KB9 := hid hj9
          clear hj9
          have I9 := hid (I8.out.below hb9)
          have JA9 := hid (JA8.out.below hb9)
          have JB9 := hid (JB8.out.below hb9)
          have JR9 := hid (JR8.out.below hb9)
          have KA9 := hid (KA8.out.below hb9)
          have X9 := hid (box_backF X8.out hb9 S8)
          have S9 := Nat.lt_of_lt_of_le S8 hb9.size
          have B9 := hid (B8.out.trans (hb9.mono B8.out.size))
          clear hb9
          obtain ⟨y0_10, y1_10⟩ := X9.out
          go_wp2_with fail
          refine (PC.out _ I9.out).mono ?_
          rintro e w10 ⟨rfl, hb10⟩
          have I10 := hid (I9.out.below hb10)
          have JA10 := hid (JA9.out.below hb10)
          have JB10 := hid (JB9.out.below hb10)
          have JR10 := hid (JR9.out.below hb10)
          have KA10 := hid (KA9.out.below hb10)
          have KB10 := hid (KB9.out.below hb10)
          have X10 := hid (box_backF X9.out hb10 S9)
          have S10 := Nat.lt_of_lt_of_le S9 hb10.size
          have B10 := hid (B9.out.trans (hb10.mono B9.out.size))
          clear hb10
          obtain ⟨y0_11, y1_11⟩ := X10.out
          go_wp2_with fail
          refine (PM.out _ I10.out).mono ?_
          rintro e w11 ⟨rfl, hb11⟩
          have I11 := hid (I10.out.below hb11)
          have JA11 := hid (JA10.out.below hb11)
          have JB11 := hid (JB10.out.below hb11)
          have JR11 := hid (JR10.out.below hb11)
          have KA11 := hid (KA10.out.below hb11)
          have KB11 := hid (KB10.out.below hb11)
          have X11 := hid (box_backF X10.out hb11 S10)
          have S11 := Nat.lt_of_lt_of_le S10 hb11.size
          have B11 := hid (B10.out.trans (hb11.mono B10.out.size))
          clear hb11
          have LA8 := hid (list_good w11 _ _ _ KA11.out JA11.out)
          have LB8 := hid (fun w' (hb' : Below w11.heap.size w11 w') => list_good w' _ _ _ (KB11.out.below hb') (JB11.out.below hb'))
          have LC8 := hid (fun w => one_good w (un : Nat))
          have LD8 := hid (fun w => yes_good w am)
          obtain ⟨_, _, hu8, -, -⟩ := KA11.out
          subst hu8
          obtain ⟨_, _, hu2, -, -⟩ := JA11.out
          subst hu2
          obtain ⟨_, _, hu9, -, -⟩ := KB11.out
          subst hu9
          obtain ⟨_, _, hu5, -, -⟩ := JB11.out
          subst hu5
          go_wp2_with fail
          refine LA8.out.mono ?_
          rintro e w12 ⟨rfl, hb12⟩
          have B12 := hid (B11.out.trans (hb12.mono B11.out.size))
          have LB9 := hid (LB8.out w12 hb12)
          clear hb12 LB8
          go_wp2_with fail
          refine LB9.out.mono ?_
          rintro e w13 ⟨rfl, hb13⟩
          have B13 := hid (B12.out.trans (hb13.mono B12.out.size))
          clear hb13
          go_wp2_with fail
          refine (LC8.out _).mono ?_
          rintro e w14 ⟨rfl, h14⟩
          obtain rfl := h14.symm
          go_wp2_with fail
          refine (LD8.out _).mono ?_
          rintro e w14 ⟨rfl, h14⟩
          obtain rfl := h14.symm
          go_wp2_with fail
          go_ret
          exact ⟨rfl, B13.out⟩
  · have C1 := hid (fun w2 hI => Broken_bad n (.slice a zs.length cap) zs w2 hI hq)
    have C2 := hid (fun w2 hI => Covers_bad n f (.slice a zs.length cap) zs w2 hI hq)
    have C3 := hid (fun w2 hI => Chains_bad n (.slice a zs.length cap) zs w2 hI hq)
    have C4 := hid (fun w2 hI => Modular_bad n f (.slice a zs.length cap) zs w2 hI hq)
    generalize chkR n zs = q at *
    have hq' : (q == 0) = false := by rw [beq_eq_false_iff_ne]; exact hq
    have hqn : (q != 0) = true := by rw [bne_iff_ne]; exact hq
    have D1 := hid (fun w => list_bad w (.slice none 0 0) q rfl hqn (.slice none 0 0))
    have D2 := hid (fun w => one_bad w q 0 hqn)
    have D3 := hid (fun w => yes_bad w q true hq)
    go_enter Try.func4, Try.ntmps4
    go_wp2_with fail
    refine M1.out.mono ?_
    rintro e w1 ⟨rfl, hb1⟩
    have X1 := hid (HX.out w1 hb1)
    have S1 : w.heap.size < w1.heap.size := by have := hb1.size; simp at this; omega
    have B1 := hid (HB0.out.trans (hb1.mono HB0.out.size))
    have I1 := hid (HI0.out.below hb1)
    clear hb1 HX HB0 HI0 M1
    obtain ⟨y0_2, y1_2⟩ := X1.out
    go_wp2_with fail
    refine (C1.out _ I1.out).mono ?_
    rintro e w2 ⟨rfl, hb2⟩
    have I2 := hid (I1.out.below hb2)
    have X2 := hid (box_backF X1.out hb2 S1)
    have S2 := Nat.lt_of_lt_of_le S1 hb2.size
    have B2 := hid (B1.out.trans (hb2.mono B1.out.size))
    clear hb2
    obtain ⟨y0_3, y1_3⟩ := X2.out
    go_wp2_with fail
    refine (C2.out _ I2.out).mono ?_
    rintro e w3 ⟨rfl, hb3⟩
    have I3 := hid (I2.out.below hb3)
    have X3 := hid (box_backF X2.out hb3 S2)
    have S3 := Nat.lt_of_lt_of_le S2 hb3.size
    have B3 := hid (B2.out.trans (hb3.mono B2.out.size))
    clear hb3
    obtain ⟨y0_4, y1_4⟩ := X3.out
    go_wp2_with fail
    refine (C3.out _ I3.out).mono ?_
    rintro e w4 ⟨rfl, hb4⟩
    have I4 := hid (I3.out.below hb4)
    have X4 := hid (box_backF X3.out hb4 S3)
    have S4 := Nat.lt_of_lt_of_le S3 hb4.size
    have B4 := hid (B3.out.trans (hb4.mono B3.out.size))
    clear hb4
    obtain ⟨y0_5, y1_5⟩ := X4.out
    go_wp2_with fail
    refine (C4.out _ I4.out).mono ?_
    rintro e w5 ⟨rfl, hb5⟩
    have I5 := hid (I4.out.below hb5)
    have X5 := hid (box_backF X4.out hb5 S4)
    have S5 := Nat.lt_of_lt_of_le S4 hb5.size
    have B5 := hid (B4.out.trans (hb5.mono B4.out.size))
    clear hb5
    clear hqn
    go_wp2_with fail
    refine (D1.out _).mono ?_
    rintro e w9 ⟨rfl, h9⟩
    obtain rfl := h9.symm
    go_wp2_with fail
    refine (D1.out _).mono ?_
    rintro e w9 ⟨rfl, h9⟩
    obtain rfl := h9.symm
    go_wp2_with fail
    refine (D2.out _).mono ?_
    rintro e w9 ⟨rfl, h9⟩
    obtain rfl := h9.symm
    go_wp2_with fail
    refine (D3.out _).mono ?_
    rintro e w9 ⟨rfl, h9⟩
    obtain rfl := h9.symm
    go_wp2_with fail
    go_ret
    exact ⟨rfl, B5.out⟩
end Go.Proofs.Ytpmpfnbgjgjlgaa
