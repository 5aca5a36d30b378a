/- The walk of the law AxiomsSays: where a matroid is handed in. -/
import Derived.Test.YthbldeloocmakaaAxSaysLawQ
namespace Go.Proofs.Ythbldeloocmakaa
open Go.RowKit

set_option maxRecDepth 100000 in
set_option maxHeartbeats 16000000 in
theorem says_set (m : Nat) (s : Nat) (v : Value) (l : List Nat) (w : World) (hm : m ≤ 8) (hf : Fam m l) (hbas : Bas l) (h : Ints w v (N l)) (hs : s < 2 ^ m) :
    Calls Try.prog 3 #[.agg #[.int .i64 m, v], .int .i64 s] w fun e w' => e = .returned (.bool true) ∧ Below w.heap.size w w' := by
  have HI := hid h
  obtain ⟨a, cap, hv, _, _⟩ := h
  rw [N_len] at hv
  subst hv
  have HL := hid (hf.lt256 hm)
  have B0 := hid (below_box w #[.int .i64 m, .slice a l.length cap])
  have MA := hid (Matroid_ref m _ (N l) _ (HI.out.below B0.out))
  rw [chk_mk hm hf hbas] at MA
  have F1 := hid (fun w' (hb : Below w.heap.size w w') => Free_ref m _ l w' hm HL.out (HI.out.below hb))
  rw [free_eq hm hbas] at F1
  have F2 := hid (fun w' (hb : Below w.heap.size w w') => Circ_ref m _ l w' hm HL.out (HI.out.below hb))
  rw [cir_eq hm hbas] at F2
  have F3 := hid (fun w' (hb : Below w.heap.size w w') => Ranks_ref m _ l w' hm HL.out (HI.out.below hb))
  have F4 := hid (fun w' (hb : Below w.heap.size w w') => Flats_ref m _ l w' hm hbas HL.out (HI.out.below hb))
  rw [flat_eq hm hbas] at F4
  have F5 := hid (fun w' (hb : Below w.heap.size w w') => Hyp_ref m _ l w' hm HL.out (HI.out.below hb))
  rw [hyp_eq hm hf hbas] at F5
  have K1 := hid (fun w' (hb : Below w.heap.size w w') => Independents_ok m _ l w' hm hf hbas (HI.out.below hb))
  have K2 := hid (fun w' (hb : Below w.heap.size w w') => Circuits_ok m _ l w' hm hf hbas (HI.out.below hb))
  have K3 := hid (fun w' (hb : Below w.heap.size w w') => Ranks_ok m _ l w' hm hf hbas (HI.out.below hb))
  have K4 := hid (fun w' (hb : Below w.heap.size w w') => Flats_ok m _ l w' hm hf hbas (HI.out.below hb))
  have K5 := hid (fun w' (hb : Below w.heap.size w w') => Hyperplanes_ok m _ l w' hm hf hbas (HI.out.below hb))
  have K7 := hid (fun w' (hb : Below w.heap.size w w') => check_any m _ (N l) w' (HI.out.below hb))
  rw [chk_mk hm hf hbas] at K7
  have Z1 := hid (fam_small hm (fun s => rk l s == pop s))
  have Z2 := hid (fam_small hm (cirB (rk l)))
  have Z4 := hid (fam_small hm (flatB (rk l) m))
  have Z5 := hid (fam_small hm (hypB (rk l) m))
  have PW := hid (pow_wrap m hm).2
  have K6 := hid (fun w' (hb : Below w.heap.size w w') => Closure_ok m s _ l w' hm hf hbas (HI.out.below hb) hs)
  have F6 := hid (fun w' (hb : Below w.heap.size w w') => Closure_ref m s _ l w' hm hbas HL.out (HI.out.below hb) hs)
  have SR : setR m s = 0 := by
    unfold setR
    have e : ((2 ^ m : Nat) : Int) = (2 : Int) ^ m := by simp
    rw [if_pos]
    refine ⟨by omega, by omega, by omega, ?_⟩
    rw [Int.toNat_natCast, ← e]
    omega
  have IS := hid (fun w' => IsSet_any m s w')
  rw [setB_setR, SR] at IS
  generalize cl (rk l) m s = t at *
  clear hs SR
  generalize (List.range (2 ^ m)).filter (fun s => rk l s == pop s) = L1 at *
  generalize (List.range (2 ^ m)).filter (cirB (rk l)) = L2 at *
  generalize (List.range (2 ^ m)).filter (flatB (rk l) m) = L4 at *
  generalize (List.range (2 ^ m)).filter (hypB (rk l) m) = L5 at *
  generalize 2 ^ m = T at *
  go_enter Try.func3, Try.ntmps3
  go_wp2_with fail
  refine MA.out.mono ?_
  rintro e w1 ⟨rfl, hb1⟩
  have X1 := hid (box_cells hb1)
  have B1 := hid (B0.out.trans (hb1.mono B0.out.size))
  have S1 : w.heap.size < w1.heap.size := by have := hb1.size; simp at this; omega
  clear hb1
  obtain ⟨x0, x1⟩ := X1.out
  go_wp2_with fail
  go_region_held3 (fun w' => w'.cell? ⟨w.heap.size, 0, none⟩ = some (.int .i64 m) ∧ w'.cell? ⟨w.heap.size, 1, none⟩ = some (.slice a l.length cap)) (go_keep)
   (first
    | (go_at_call 10; refine (F1.out _ (B1.out.drew)).mono ?_; rintro e w2 ⟨u2, rfl, ho2, hb2⟩; have X2 := hid (box_back (w2 := w1.drew) X1.out hb2 S1); have B2 := hid ((B1.out.drew).trans (hb2.mono (B1.out.drew).size)); have S2 := Nat.lt_of_lt_of_le S1 hb2.size; have J1 := hid (ho2.ints (Nat.le_trans Z1.out (by omega))); obtain ⟨ra2, rc2, rfl⟩ := ho2.form; clear ho2; have H2 := hid hb2; clear hb2; obtain ⟨y2, z2⟩ := X2.out)
    | (go_at_call 11; refine (F2.out _ (B2.out)).mono ?_; rintro e w3 ⟨u3, rfl, ho3, hb3⟩; have X3 := hid (box_back (w2 := w2) X2.out hb3 S2); have B3 := hid ((B2.out).trans (hb3.mono (B2.out).size)); have S3 := Nat.lt_of_lt_of_le S2 hb3.size; have J2 := hid (ho3.ints (Nat.le_trans Z2.out (by omega))); obtain ⟨ra3, rc3, rfl⟩ := ho3.form; clear ho3; have H3 := hid hb3; clear hb3; obtain ⟨y3, z3⟩ := X3.out)
    | (go_at_call 12; refine (F3.out _ (B3.out)).mono ?_; rintro e w4 ⟨u4, rfl, ho4, hb4⟩; have X4 := hid (box_back (w2 := w3) X3.out hb4 S3); have B4 := hid ((B3.out).trans (hb4.mono (B3.out).size)); have S4 := Nat.lt_of_lt_of_le S3 hb4.size; have J3 := hid (ho4.ints PW.out); obtain ⟨rb4, ro4, rc4, rfl, _, _⟩ := ho4; have H4 := hid hb4; clear hb4; obtain ⟨y4, z4⟩ := X4.out)
    | (go_at_call 13; refine (F4.out _ (B4.out)).mono ?_; rintro e w5 ⟨u5, rfl, ho5, hb5⟩; have X5 := hid (box_back (w2 := w4) X4.out hb5 S4); have B5 := hid ((B4.out).trans (hb5.mono (B4.out).size)); have S5 := Nat.lt_of_lt_of_le S4 hb5.size; have J4 := hid (ho5.ints (Nat.le_trans Z4.out (by omega))); obtain ⟨ra5, rc5, rfl⟩ := ho5.form; clear ho5; have H5 := hid hb5; clear hb5; obtain ⟨y5, z5⟩ := X5.out)
    | (go_at_call 14; refine (F5.out _ (B5.out)).mono ?_; rintro e w6 ⟨u6, rfl, ho6, hb6⟩; have X6 := hid (box_back (w2 := w5) X5.out hb6 S5); have B6 := hid ((B5.out).trans (hb6.mono (B5.out).size)); have S6 := Nat.lt_of_lt_of_le S5 hb6.size; have J5 := hid (ho6.ints (Nat.le_trans Z5.out (by omega))); obtain ⟨ra6, rc6, rfl⟩ := ho6.form; clear ho6; have H6 := hid hb6; clear hb6; obtain ⟨y6, z6⟩ := X6.out))
  obtain ⟨x0', x1'⟩ := X6.out
  go_wp2_with fail
  refine (IS.out _).mono ?_
  rintro e w6' ⟨rfl, rfl⟩
  go_wp2_with fail
  refine (bad_yes 1 _).mono ?_
  rintro e w6' ⟨rfl, rfl⟩
  go_wp2_with fail
  refine (F6.out _ B6.out).mono ?_
  rintro e w7 ⟨rfl, hb7⟩
  have X7 := hid (box_back X6.out hb7 S6)
  have B7 := hid (B6.out.trans (hb7.mono B6.out.size))
  have S7 := Nat.lt_of_lt_of_le S6 hb7.size
  have H7 := hid hb7
  clear hb7
  obtain ⟨p7, q7⟩ := X7.out
  go_wp2_with fail
  refine (K1.out _ B7.out).mono ?_
  rintro e w8 ⟨u8, rfl, ho8, hb8⟩
  have X8 := hid (box_back X7.out hb8 S7)
  have B8 := hid (B7.out.trans (hb8.mono B7.out.size))
  have S8 := Nat.lt_of_lt_of_le S7 hb8.size
  have H8 := hid hb8
  have I1 := hid (ho8.ints (Nat.le_trans Z1.out (by omega)))
  obtain ⟨ra8, rc8, rfl⟩ := ho8.form
  clear ho8
  clear hb8
  obtain ⟨p8, q8⟩ := X8.out
  go_wp2_with fail
  refine (K2.out _ B8.out).mono ?_
  rintro e w9 ⟨u9, rfl, ho9, hb9⟩
  have X9 := hid (box_back X8.out hb9 S8)
  have B9 := hid (B8.out.trans (hb9.mono B8.out.size))
  have S9 := Nat.lt_of_lt_of_le S8 hb9.size
  have H9 := hid hb9
  have I2 := hid (ho9.ints (Nat.le_trans Z2.out (by omega)))
  obtain ⟨ra9, rc9, rfl⟩ := ho9.form
  clear ho9
  clear hb9
  obtain ⟨p9, q9⟩ := X9.out
  go_wp2_with fail
  refine (K3.out _ B9.out).mono ?_
  rintro e w10 ⟨u10, rfl, ho10, hb10⟩
  have X10 := hid (box_back X9.out hb10 S9)
  have B10 := hid (B9.out.trans (hb10.mono B9.out.size))
  have S10 := Nat.lt_of_lt_of_le S9 hb10.size
  have H10 := hid hb10
  have I3 := hid (ho10.ints PW.out)
  obtain ⟨rb10, ro10, rc10, rfl, _, _⟩ := ho10
  clear hb10
  obtain ⟨p10, q10⟩ := X10.out
  go_wp2_with fail
  refine (K4.out _ B10.out).mono ?_
  rintro e w11 ⟨u11, rfl, ho11, hb11⟩
  have X11 := hid (box_back X10.out hb11 S10)
  have B11 := hid (B10.out.trans (hb11.mono B10.out.size))
  have S11 := Nat.lt_of_lt_of_le S10 hb11.size
  have H11 := hid hb11
  have I4 := hid (ho11.ints (Nat.le_trans Z4.out (by omega)))
  obtain ⟨ra11, rc11, rfl⟩ := ho11.form
  clear ho11
  clear hb11
  obtain ⟨p11, q11⟩ := X11.out
  go_wp2_with fail
  refine (K5.out _ B11.out).mono ?_
  rintro e w12 ⟨u12, rfl, ho12, hb12⟩
  have X12 := hid (box_back X11.out hb12 S11)
  have B12 := hid (B11.out.trans (hb12.mono B11.out.size))
  have S12 := Nat.lt_of_lt_of_le S11 hb12.size
  have H12 := hid hb12
  have I5 := hid (ho12.ints (Nat.le_trans Z5.out (by omega)))
  obtain ⟨ra12, rc12, rfl⟩ := ho12.form
  clear ho12
  clear hb12
  obtain ⟨p12, q12⟩ := X12.out
  go_wp2_with fail
  refine (K6.out _ B12.out).mono ?_
  rintro e w13 ⟨rfl, hb13⟩
  have X13 := hid (box_back X12.out hb13 S12)
  have B13 := hid (B12.out.trans (hb13.mono B12.out.size))
  have S13 := Nat.lt_of_lt_of_le S12 hb13.size
  have H13 := hid hb13
  clear hb13
  obtain ⟨p13, q13⟩ := X13.out
  go_wp2_with fail
  refine (K7.out _ B13.out).mono ?_
  rintro e w14 ⟨rfl, hb14⟩
  have B14 := hid (B13.out.trans (hb14.mono B13.out.size))
  have H14 := hid hb14
  clear hb14
  go_wp2_with fail
  refine (list_good _ _ _ _ ((((((I1.out.below H9.out).below H10.out).below H11.out).below H12.out).below H13.out).below H14.out) ((((((((((((J1.out.below H3.out).below H4.out).below H5.out).below H6.out).below H7.out).below H8.out).below H9.out).below H10.out).below H11.out).below H12.out).below H13.out).below H14.out)).mono ?_
  rintro e w15 ⟨rfl, hb15⟩
  have B15 := hid (B14.out.trans (hb15.mono B14.out.size))
  have H15 := hid hb15
  clear hb15
  go_wp2_with fail
  refine (list_good _ _ _ _ ((((((I2.out.below H10.out).below H11.out).below H12.out).below H13.out).below H14.out).below H15.out) ((((((((((((J2.out.below H4.out).below H5.out).below H6.out).below H7.out).below H8.out).below H9.out).below H10.out).below H11.out).below H12.out).below H13.out).below H14.out).below H15.out)).mono ?_
  rintro e w16 ⟨rfl, hb16⟩
  have B16 := hid (B15.out.trans (hb16.mono B15.out.size))
  have H16 := hid hb16
  clear hb16
  go_wp2_with fail
  refine (list_good _ _ _ _ ((((((I3.out.below H11.out).below H12.out).below H13.out).below H14.out).below H15.out).below H16.out) ((((((((((((J3.out.below H5.out).below H6.out).below H7.out).below H8.out).below H9.out).below H10.out).below H11.out).below H12.out).below H13.out).below H14.out).below H15.out).below H16.out)).mono ?_
  rintro e w17 ⟨rfl, hb17⟩
  have B17 := hid (B16.out.trans (hb17.mono B16.out.size))
  have H17 := hid hb17
  clear hb17
  go_wp2_with fail
  refine (list_good _ _ _ _ ((((((I4.out.below H12.out).below H13.out).below H14.out).below H15.out).below H16.out).below H17.out) ((((((((((((J4.out.below H6.out).below H7.out).below H8.out).below H9.out).below H10.out).below H11.out).below H12.out).below H13.out).below H14.out).below H15.out).below H16.out).below H17.out)).mono ?_
  rintro e w18 ⟨rfl, hb18⟩
  have B18 := hid (B17.out.trans (hb18.mono B17.out.size))
  have H18 := hid hb18
  clear hb18
  go_wp2_with fail
  refine (list_good _ _ _ _ ((((((I5.out.below H13.out).below H14.out).below H15.out).below H16.out).below H17.out).below H18.out) ((((((((((((J5.out.below H7.out).below H8.out).below H9.out).below H10.out).below H11.out).below H12.out).below H13.out).below H14.out).below H15.out).below H16.out).below H17.out).below H18.out)).mono ?_
  rintro e w19 ⟨rfl, hb19⟩
  have B19 := hid (B18.out.trans (hb19.mono B18.out.size))
  have H19 := hid hb19
  clear hb19
  go_wp2_with fail
  refine (one_good _ _).mono ?_
  rintro e w20 ⟨rfl, rfl⟩
  go_wp2_with fail
  go_ret
  exact ⟨rfl, B19.out⟩

set_option maxRecDepth 100000 in
set_option maxHeartbeats 16000000 in
theorem says_not (m : Nat) (s : Int) (v : Value) (l : List Nat) (w : World) (hm : m ≤ 8) (hf : Fam m l) (hbas : Bas l) (h : Ints w v (N l)) (hs : setR m s = 1) :
    Calls Try.prog 3 #[.agg #[.int .i64 m, v], .int .i64 s] w fun e w' => e = .returned (.bool true) ∧ Below w.heap.size w w' := by
  have HI := hid h
  obtain ⟨a, cap, hv, _, _⟩ := h
  rw [N_len] at hv
  subst hv
  have HL := hid (hf.lt256 hm)
  have B0 := hid (below_box w #[.int .i64 m, .slice a l.length cap])
  have MA := hid (Matroid_ref m _ (N l) _ (HI.out.below B0.out))
  rw [chk_mk hm hf hbas] at MA
  have F1 := hid (fun w' (hb : Below w.heap.size w w') => Free_ref m _ l w' hm HL.out (HI.out.below hb))
  rw [free_eq hm hbas] at F1
  have F2 := hid (fun w' (hb : Below w.heap.size w w') => Circ_ref m _ l w' hm HL.out (HI.out.below hb))
  rw [cir_eq hm hbas] at F2
  have F3 := hid (fun w' (hb : Below w.heap.size w w') => Ranks_ref m _ l w' hm HL.out (HI.out.below hb))
  have F4 := hid (fun w' (hb : Below w.heap.size w w') => Flats_ref m _ l w' hm hbas HL.out (HI.out.below hb))
  rw [flat_eq hm hbas] at F4
  have F5 := hid (fun w' (hb : Below w.heap.size w w') => Hyp_ref m _ l w' hm HL.out (HI.out.below hb))
  rw [hyp_eq hm hf hbas] at F5
  have K1 := hid (fun w' (hb : Below w.heap.size w w') => Independents_ok m _ l w' hm hf hbas (HI.out.below hb))
  have K2 := hid (fun w' (hb : Below w.heap.size w w') => Circuits_ok m _ l w' hm hf hbas (HI.out.below hb))
  have K3 := hid (fun w' (hb : Below w.heap.size w w') => Ranks_ok m _ l w' hm hf hbas (HI.out.below hb))
  have K4 := hid (fun w' (hb : Below w.heap.size w w') => Flats_ok m _ l w' hm hf hbas (HI.out.below hb))
  have K5 := hid (fun w' (hb : Below w.heap.size w w') => Hyperplanes_ok m _ l w' hm hf hbas (HI.out.below hb))
  have K7 := hid (fun w' (hb : Below w.heap.size w w') => check_any m _ (N l) w' (HI.out.below hb))
  rw [chk_mk hm hf hbas] at K7
  have Z1 := hid (fam_small hm (fun s => rk l s == pop s))
  have Z2 := hid (fam_small hm (cirB (rk l)))
  have Z4 := hid (fam_small hm (flatB (rk l) m))
  have Z5 := hid (fam_small hm (hypB (rk l) m))
  have PW := hid (pow_wrap m hm).2
  have K6 := hid (fun w' (hb : Below w.heap.size w w') => Closure_arg m s _ l w' hm hf hbas (HI.out.below hb) hs)
  have IS := hid (fun w' => IsSet_any m s w')
  rw [setB_setR, hs] at IS
  clear hs
  generalize (List.range (2 ^ m)).filter (fun s => rk l s == pop s) = L1 at *
  generalize (List.range (2 ^ m)).filter (cirB (rk l)) = L2 at *
  generalize (List.range (2 ^ m)).filter (flatB (rk l) m) = L4 at *
  generalize (List.range (2 ^ m)).filter (hypB (rk l) m) = L5 at *
  generalize 2 ^ m = T at *
  go_enter Try.func3, Try.ntmps3
  go_wp2_with fail
  refine MA.out.mono ?_
  rintro e w1 ⟨rfl, hb1⟩
  have X1 := hid (box_cells hb1)
  have B1 := hid (B0.out.trans (hb1.mono B0.out.size))
  have S1 : w.heap.size < w1.heap.size := by have := hb1.size; simp at this; omega
  clear hb1
  obtain ⟨x0, x1⟩ := X1.out
  go_wp2_with fail
  go_region_held3 (fun w' => w'.cell? ⟨w.heap.size, 0, none⟩ = some (.int .i64 m) ∧ w'.cell? ⟨w.heap.size, 1, none⟩ = some (.slice a l.length cap)) (go_keep)
   (first
    | (go_at_call 10; refine (F1.out _ (B1.out.drew)).mono ?_; rintro e w2 ⟨u2, rfl, ho2, hb2⟩; have X2 := hid (box_back (w2 := w1.drew) X1.out hb2 S1); have B2 := hid ((B1.out.drew).trans (hb2.mono (B1.out.drew).size)); have S2 := Nat.lt_of_lt_of_le S1 hb2.size; have J1 := hid (ho2.ints (Nat.le_trans Z1.out (by omega))); obtain ⟨ra2, rc2, rfl⟩ := ho2.form; clear ho2; have H2 := hid hb2; clear hb2; obtain ⟨y2, z2⟩ := X2.out)
    | (go_at_call 11; refine (F2.out _ (B2.out)).mono ?_; rintro e w3 ⟨u3, rfl, ho3, hb3⟩; have X3 := hid (box_back (w2 := w2) X2.out hb3 S2); have B3 := hid ((B2.out).trans (hb3.mono (B2.out).size)); have S3 := Nat.lt_of_lt_of_le S2 hb3.size; have J2 := hid (ho3.ints (Nat.le_trans Z2.out (by omega))); obtain ⟨ra3, rc3, rfl⟩ := ho3.form; clear ho3; have H3 := hid hb3; clear hb3; obtain ⟨y3, z3⟩ := X3.out)
    | (go_at_call 12; refine (F3.out _ (B3.out)).mono ?_; rintro e w4 ⟨u4, rfl, ho4, hb4⟩; have X4 := hid (box_back (w2 := w3) X3.out hb4 S3); have B4 := hid ((B3.out).trans (hb4.mono (B3.out).size)); have S4 := Nat.lt_of_lt_of_le S3 hb4.size; have J3 := hid (ho4.ints PW.out); obtain ⟨rb4, ro4, rc4, rfl, _, _⟩ := ho4; have H4 := hid hb4; clear hb4; obtain ⟨y4, z4⟩ := X4.out)
    | (go_at_call 13; refine (F4.out _ (B4.out)).mono ?_; rintro e w5 ⟨u5, rfl, ho5, hb5⟩; have X5 := hid (box_back (w2 := w4) X4.out hb5 S4); have B5 := hid ((B4.out).trans (hb5.mono (B4.out).size)); have S5 := Nat.lt_of_lt_of_le S4 hb5.size; have J4 := hid (ho5.ints (Nat.le_trans Z4.out (by omega))); obtain ⟨ra5, rc5, rfl⟩ := ho5.form; clear ho5; have H5 := hid hb5; clear hb5; obtain ⟨y5, z5⟩ := X5.out)
    | (go_at_call 14; refine (F5.out _ (B5.out)).mono ?_; rintro e w6 ⟨u6, rfl, ho6, hb6⟩; have X6 := hid (box_back (w2 := w5) X5.out hb6 S5); have B6 := hid ((B5.out).trans (hb6.mono (B5.out).size)); have S6 := Nat.lt_of_lt_of_le S5 hb6.size; have J5 := hid (ho6.ints (Nat.le_trans Z5.out (by omega))); obtain ⟨ra6, rc6, rfl⟩ := ho6.form; clear ho6; have H6 := hid hb6; clear hb6; obtain ⟨y6, z6⟩ := X6.out))
  obtain ⟨x0', x1'⟩ := X6.out
  go_wp2_with fail
  refine (IS.out _).mono ?_
  rintro e w6' ⟨rfl, rfl⟩
  go_wp2_with fail
  refine (bad_no 1 _).mono ?_
  rintro e w6' ⟨rfl, rfl⟩
  go_wp2_with fail
  refine (K1.out _ B6.out).mono ?_
  rintro e w8 ⟨u8, rfl, ho8, hb8⟩
  have X8 := hid (box_back X6.out hb8 S6)
  have B8 := hid (B6.out.trans (hb8.mono B6.out.size))
  have S8 := Nat.lt_of_lt_of_le S6 hb8.size
  have H8 := hid hb8
  have I1 := hid (ho8.ints (Nat.le_trans Z1.out (by omega)))
  obtain ⟨ra8, rc8, rfl⟩ := ho8.form
  clear ho8
  clear hb8
  obtain ⟨p8, q8⟩ := X8.out
  go_wp2_with fail
  refine (K2.out _ B8.out).mono ?_
  rintro e w9 ⟨u9, rfl, ho9, hb9⟩
  have X9 := hid (box_back X8.out hb9 S8)
  have B9 := hid (B8.out.trans (hb9.mono B8.out.size))
  have S9 := Nat.lt_of_lt_of_le S8 hb9.size
  have H9 := hid hb9
  have I2 := hid (ho9.ints (Nat.le_trans Z2.out (by omega)))
  obtain ⟨ra9, rc9, rfl⟩ := ho9.form
  clear ho9
  clear hb9
  obtain ⟨p9, q9⟩ := X9.out
  go_wp2_with fail
  refine (K3.out _ B9.out).mono ?_
  rintro e w10 ⟨u10, rfl, ho10, hb10⟩
  have X10 := hid (box_back X9.out hb10 S9)
  have B10 := hid (B9.out.trans (hb10.mono B9.out.size))
  have S10 := Nat.lt_of_lt_of_le S9 hb10.size
  have H10 := hid hb10
  have I3 := hid (ho10.ints PW.out)
  obtain ⟨rb10, ro10, rc10, rfl, _, _⟩ := ho10
  clear hb10
  obtain ⟨p10, q10⟩ := X10.out
  go_wp2_with fail
  refine (K4.out _ B10.out).mono ?_
  rintro e w11 ⟨u11, rfl, ho11, hb11⟩
  have X11 := hid (box_back X10.out hb11 S10)
  have B11 := hid (B10.out.trans (hb11.mono B10.out.size))
  have S11 := Nat.lt_of_lt_of_le S10 hb11.size
  have H11 := hid hb11
  have I4 := hid (ho11.ints (Nat.le_trans Z4.out (by omega)))
  obtain ⟨ra11, rc11, rfl⟩ := ho11.form
  clear ho11
  clear hb11
  obtain ⟨p11, q11⟩ := X11.out
  go_wp2_with fail
  refine (K5.out _ B11.out).mono ?_
  rintro e w12 ⟨u12, rfl, ho12, hb12⟩
  have X12 := hid (box_back X11.out hb12 S11)
  have B12 := hid (B11.out.trans (hb12.mono B11.out.size))
  have S12 := Nat.lt_of_lt_of_le S11 hb12.size
  have H12 := hid hb12
  have I5 := hid (ho12.ints (Nat.le_trans Z5.out (by omega)))
  obtain ⟨ra12, rc12, rfl⟩ := ho12.form
  clear ho12
  clear hb12
  obtain ⟨p12, q12⟩ := X12.out
  go_wp2_with fail
  refine (K6.out _ B12.out).mono ?_
  rintro e w13 ⟨rfl, hb13⟩
  have X13 := hid (box_back X12.out hb13 S12)
  have B13 := hid (B12.out.trans (hb13.mono B12.out.size))
  have S13 := Nat.lt_of_lt_of_le S12 hb13.size
  have H13 := hid hb13
  clear hb13
  obtain ⟨p13, q13⟩ := X13.out
  go_wp2_with fail
  refine (K7.out _ B13.out).mono ?_
  rintro e w14 ⟨rfl, hb14⟩
  have B14 := hid (B13.out.trans (hb14.mono B13.out.size))
  have H14 := hid hb14
  clear hb14
  go_wp2_with fail
  refine (list_good _ _ _ _ ((((((I1.out.below H9.out).below H10.out).below H11.out).below H12.out).below H13.out).below H14.out) (((((((((((J1.out.below H3.out).below H4.out).below H5.out).below H6.out).below H8.out).below H9.out).below H10.out).below H11.out).below H12.out).below H13.out).below H14.out)).mono ?_
  rintro e w15 ⟨rfl, hb15⟩
  have B15 := hid (B14.out.trans (hb15.mono B14.out.size))
  have H15 := hid hb15
  clear hb15
  go_wp2_with fail
  refine (list_good _ _ _ _ ((((((I2.out.below H10.out).below H11.out).below H12.out).below H13.out).below H14.out).below H15.out) (((((((((((J2.out.below H4.out).below H5.out).below H6.out).below H8.out).below H9.out).below H10.out).below H11.out).below H12.out).below H13.out).below H14.out).below H15.out)).mono ?_
  rintro e w16 ⟨rfl, hb16⟩
  have B16 := hid (B15.out.trans (hb16.mono B15.out.size))
  have H16 := hid hb16
  clear hb16
  go_wp2_with fail
  refine (list_good _ _ _ _ ((((((I3.out.below H11.out).below H12.out).below H13.out).below H14.out).below H15.out).below H16.out) (((((((((((J3.out.below H5.out).below H6.out).below H8.out).below H9.out).below H10.out).below H11.out).below H12.out).below H13.out).below H14.out).below H15.out).below H16.out)).mono ?_
  rintro e w17 ⟨rfl, hb17⟩
  have B17 := hid (B16.out.trans (hb17.mono B16.out.size))
  have H17 := hid hb17
  clear hb17
  go_wp2_with fail
  refine (list_good _ _ _ _ ((((((I4.out.below H12.out).below H13.out).below H14.out).below H15.out).below H16.out).below H17.out) (((((((((((J4.out.below H6.out).below H8.out).below H9.out).below H10.out).below H11.out).below H12.out).below H13.out).below H14.out).below H15.out).below H16.out).below H17.out)).mono ?_
  rintro e w18 ⟨rfl, hb18⟩
  have B18 := hid (B17.out.trans (hb18.mono B17.out.size))
  have H18 := hid hb18
  clear hb18
  go_wp2_with fail
  refine (list_good _ _ _ _ ((((((I5.out.below H13.out).below H14.out).below H15.out).below H16.out).below H17.out).below H18.out) (((((((((((J5.out.below H8.out).below H9.out).below H10.out).below H11.out).below H12.out).below H13.out).below H14.out).below H15.out).below H16.out).below H17.out).below H18.out)).mono ?_
  rintro e w19 ⟨rfl, hb19⟩
  have B19 := hid (B18.out.trans (hb19.mono B18.out.size))
  have H19 := hid hb19
  clear hb19
  go_wp2_with fail
  refine (one_bad _ 1 _ rfl).mono ?_
  rintro e w20 ⟨rfl, rfl⟩
  go_wp2_with fail
  go_ret
  exact ⟨rfl, B19.out⟩

theorem axsays_law (n : Int) (v : Value) (zs : List Int) (s : Int) (w : World) (h : Ints w v zs) :
    Calls Try.prog 3 #[.agg #[.int .i64 n, v], .int .i64 s] w fun e w' => e = .returned (.bool true) ∧ Below w.heap.size w w' := by
  by_cases hc : chkR n zs = 0
  · obtain ⟨m, l, rfl, hm, rfl, hfam, hbas⟩ := chk_of hc
    rcases setR_01 m s with hs | hs
    · obtain ⟨s', rfl, hs'⟩ := setR_of hs
      exact says_set m s' v l w hm hfam hbas h hs'
    · exact says_not m s v l w hm hfam hbas h hs
  · exact says_bad n s v zs w h hc
end Go.Proofs.Ythbldeloocmakaa
