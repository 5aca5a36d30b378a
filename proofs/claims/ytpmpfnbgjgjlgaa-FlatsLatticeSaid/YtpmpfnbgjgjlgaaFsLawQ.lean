/- rotalaw.FlatsSays. -/
import Derived.Test.YtpmpfnbgjgjlgaaFlEQ
import Derived.Test.YtpmpfnbgjgjlgaaRfKQ
import Derived.Test.YtpmpfnbgjgjlgaaRfMQ
import Derived.Test.YtpmpfnbgjgjlgaaRfLQ
import Derived.Test.YtpmpfnbgjgjlgaaRefAxEQ
import Derived.Deep.RegionHeld3
namespace Go.Proofs.Ytpmpfnbgjgjlgaa
open Go.RowKit

theorem box_backF {w w1 : World} {B : Nat} {x y : Value} (hx : w.cell? ⟨B, 0, none⟩ = some x ∧ w.cell? ⟨B, 1, none⟩ = some y) (hb : Below w.heap.size w w1) (hB : B < w.heap.size) : w1.cell? ⟨B, 0, none⟩ = some x ∧ w1.cell? ⟨B, 1, none⟩ = some y :=
  ⟨(hb.cell (p := ⟨B, 0, none⟩) hB).trans hx.1, (hb.cell (p := ⟨B, 1, none⟩) hB).trans hx.2⟩
set_option maxRecDepth 20000 in
set_option maxHeartbeats 4000000 in
theorem fsays_law (n : Int) (v : Value) (zs : List Int) (w : World) (h : Ints w v zs) :
    Calls Try.prog 3 #[.agg #[.int .i64 n, v]] w fun e w' => e = .returned (.bool true) ∧ Below w.heap.size w w' := by
  have HI := hid h
  obtain ⟨a, cap, rfl, -, -⟩ := h
  have hB0 := below_box w #[.int .i64 n, .slice a zs.length cap]
  have HB0 := hid hB0
  have HI0 := hid (HI.out.below hB0)
  have M1 := hid (Matroid_ref n _ zs _ HI0.out)
  have HX : Hid (∀ w2, Below (w.alloc (.cells #[.int .i64 n, .slice a zs.length cap] 24)).heap.size (w.alloc (.cells #[.int .i64 n, .slice a zs.length cap] 24)) w2 → _) := fun w2 hb => box_cells hb
  clear hB0 HI
  by_cases hq : chkR n zs = 0
  · obtain ⟨m, l, rfl, hm, rfl, hf, hb⟩ := chk_of hq
    rw [hq] at M1
    rw [N_len] at *
    have hlen : (fltL m (rk l)).length ≤ 256 := flt_len hm
    have hR8 := rk_small hm hf (2 ^ m - 1)
    go_enter Try.func3, Try.ntmps3
    go_wp2_with fail
    refine M1.out.mono ?_
    rintro e w1 ⟨rfl, hb1⟩
    have X1 := hid (HX.out w1 hb1)
    have S1 : w.heap.size < w1.heap.size := by have := hb1.size; simp at this; omega
    have B1 := hid (HB0.out.trans (hb1.mono HB0.out.size))
    have I1 := hid (HI0.out.below hb1)
    clear hb1 HX HB0 HI0 M1 hq
    have CF := hid (fun w2 hI => (Mobius_ref m (.slice a l.length cap) l w2 hm hf hb hI).mono (fun e w' ⟨u, h1, h2, h3⟩ => (⟨u, h1, h2.ints (by simp; omega), h3⟩ : ∃ u, e = Ending.returned u ∧ Ints w' u ((List.range (fltL m (rk l)).length).map (mobF (rk l) m)) ∧ Below w2.heap.size w2 w')))
    have CG := hid (fun w2 hI => (Characteristic_ref m (.slice a l.length cap) l w2 hm hf hb hI).mono (fun e w' ⟨u, h1, h2, h3⟩ => (⟨u, h1, h2.ints (by omega), h3⟩ : ∃ u, e = Ending.returned u ∧ Ints w' u ((List.range (rk l (2 ^ m - 1) + 1)).map (chrS (rk l) (rk l (2 ^ m - 1)) (2 ^ m))) ∧ Below w2.heap.size w2 w')))
    have CL := hid (fun w2 hI => (Levels_ref m (.slice a l.length cap) l w2 hm hf hb hI).mono (fun e w' ⟨u, u', h1, h2, h2', h3⟩ => (⟨u, u', h1, h2.intsF (by omega), h2'.intsF (by omega), h3⟩ : ∃ u u', e = Ending.returned (.tuple #[u, u']) ∧ Ints w' u (N ((List.range (rk l (2 ^ m - 1) + 1)).map (cntS (flatB (rk l) m) (rk l) (2 ^ m)))) ∧ Ints w' u' (N ((List.range (rk l (2 ^ m - 1) + 1)).map (cntS (fun s => rk l s == pop s) (rk l) (2 ^ m)))) ∧ Below w2.heap.size w2 w')))
    have P1 := hid (fun w2 hI => (Mobius_ok m (.slice a l.length cap) l w2 hm hf hb hI).mono (fun e w' ⟨u, h1, h2, h3⟩ => (⟨u, h1, h2.ints (by omega), h3⟩ : ∃ u, e = Ending.returned (.tuple #[u, .int .i64 0]) ∧ Ints w' u ((List.range (fltL m (rk l)).length).map (mobF (rk l) m)) ∧ Below w2.heap.size w2 w')))
    have P2 := hid (fun w2 hI => (Characteristic_ok m (.slice a l.length cap) l w2 hm hf hb hI).mono (fun e w' ⟨u, h1, h2, h3⟩ => (⟨u, h1, h2.ints (by omega), h3⟩ : ∃ u, e = Ending.returned (.tuple #[u, .int .i64 0]) ∧ Ints w' u ((List.range (rk l (2 ^ m - 1) + 1)).map (chrS (rk l) (rk l (2 ^ m - 1)) (2 ^ m))) ∧ Below w2.heap.size w2 w')))
    have P3 := hid (fun w2 hI => (Levels_ok m (.slice a l.length cap) l w2 hm hf hb hI).mono (fun e w' ⟨u, h1, h2, h3⟩ => (⟨u, h1, h2.intsF (by omega), h3⟩ : ∃ u, e = Ending.returned (.tuple #[u, .int .i64 0]) ∧ Ints w' u (N ((List.range (rk l (2 ^ m - 1) + 1)).map (cntS (flatB (rk l) m) (rk l) (2 ^ m)))) ∧ Below w2.heap.size w2 w')))
    have P4 := hid (fun w2 hI => (Independent_ok m (.slice a l.length cap) l w2 hm hf hb hI).mono (fun e w' ⟨u, h1, h2, h3⟩ => (⟨u, h1, h2.intsF (by omega), h3⟩ : ∃ u, e = Ending.returned (.tuple #[u, .int .i64 0]) ∧ Ints w' u (N ((List.range (rk l (2 ^ m - 1) + 1)).map (cntS (fun s => rk l s == pop s) (rk l) (2 ^ m)))) ∧ Below w2.heap.size w2 w')))
    clear hf hb hlen hR8
    generalize (List.range (fltL m (rk l)).length).map (mobF (rk l) m) = LA at *
    generalize (List.range (rk l (2 ^ m - 1) + 1)).map (chrS (rk l) (rk l (2 ^ m - 1)) (2 ^ m)) = LB at *
    generalize N ((List.range (rk l (2 ^ m - 1) + 1)).map (cntS (flatB (rk l) m) (rk l) (2 ^ m))) = LC at *
    generalize N ((List.range (rk l (2 ^ m - 1) + 1)).map (cntS (fun s => rk l s == pop s) (rk l) (2 ^ m))) = LD at *
    obtain ⟨x0, x1⟩ := X1.out
    go_wp2_with fail
    go_region_held3 (fun w' => w'.cell? ⟨w.heap.size, 0, none⟩ = some (.int .i64 m) ∧ w'.cell? ⟨w.heap.size, 1, none⟩ = some (.slice a l.length cap)) (go_keep)
     (first
      | (go_at_call 10; refine (CF.out _ (I1.out.below (Below.refl _ _).drew)).mono ?_; rintro e w2 ⟨u2, rfl, hj2, hb2⟩; have JA2 := hid hj2; clear hj2; have I2 := hid ((I1.out.below (Below.refl _ _).drew).below hb2); have X2 := hid (box_backF (w := w1.drew) X1.out hb2 S1); have S2 := Nat.lt_of_lt_of_le S1 hb2.size; have B2 := hid (B1.out.drew.trans (hb2.mono B1.out.drew.size)); clear hb2; obtain ⟨q20, q21⟩ := X2.out)
      | (go_at_call 11; refine (CG.out _ I2.out).mono ?_; rintro e w3 ⟨u3, rfl, hj3, hb3⟩; have JB3 := hid hj3; clear hj3; have I3 := hid (I2.out.below hb3); have JA3 := hid (JA2.out.below hb3); have X3 := hid (box_backF X2.out hb3 S2); have S3 := Nat.lt_of_lt_of_le S2 hb3.size; have B3 := hid (B2.out.trans (hb3.mono B2.out.size)); clear hb3; obtain ⟨q30, q31⟩ := X3.out))
    obtain ⟨y0_4, y1_4⟩ := X3.out
    go_wp2_with fail
    refine (CL.out _ I3.out).mono ?_
    rintro e w4 ⟨u4, u4b, rfl, hj4, hj4b, hb4⟩
    have JC4 := hid hj4
    clear hj4
    have JD4 := hid hj4b
    clear hj4b
    have I4 := hid (I3.out.below hb4)
    have JA4 := hid (JA3.out.below hb4)
    have JB4 := hid (JB3.out.below hb4)
    have X4 := hid (box_backF X3.out hb4 S3)
    have S4 := Nat.lt_of_lt_of_le S3 hb4.size
    have B4 := hid (B3.out.trans (hb4.mono B3.out.size))
    clear hb4
    obtain ⟨y0_5, y1_5⟩ := X4.out
    go_wp2_with fail
    refine (P1.out _ I4.out).mono ?_
    rintro e w5 ⟨u5, rfl, hj5, hb5⟩
    have KA5 := hid hj5
    clear hj5
    have I5 := hid (I4.out.below hb5)
    have JA5 := hid (JA4.out.below hb5)
    have JB5 := hid (JB4.out.below hb5)
    have JC5 := hid (JC4.out.below hb5)
    have JD5 := hid (JD4.out.below hb5)
    have X5 := hid (box_backF X4.out hb5 S4)
    have S5 := Nat.lt_of_lt_of_le S4 hb5.size
    have B5 := hid (B4.out.trans (hb5.mono B4.out.size))
    clear hb5
    obtain ⟨y0_6, y1_6⟩ := X5.out
    go_wp2_with fail
    refine (P2.out _ I5.out).mono ?_
    rintro e w6 ⟨u6, rfl, hj6, hb6⟩
    have KB6 := hid hj6
    clear hj6
    have I6 := hid (I5.out.below hb6)
    have JA6 := hid (JA5.out.below hb6)
    have JB6 := hid (JB5.out.below hb6)
    have JC6 := hid (JC5.out.below hb6)
    have JD6 := hid (JD5.out.below hb6)
    have KA6 := hid (KA5.out.below hb6)
    have X6 := hid (box_backF X5.out hb6 S5)
    have S6 := Nat.lt_of_lt_of_le S5 hb6.size
    have B6 := hid (B5.out.trans (hb6.mono B5.out.size))
    clear hb6
    obtain ⟨y0_7, y1_7⟩ := X6.out
    go_wp2_with fail
    refine (P3.out _ I6.out).mono ?_
    rintro e w7 ⟨u7, rfl, hj7, hb7⟩
    have KC7 := hid hj7
    clear hj7
    have I7 := hid (I6.out.below hb7)
    have JA7 := hid (JA6.out.below hb7)
    have JB7 := hid (JB6.out.below hb7)
    have JC7 := hid (JC6.out.below hb7)
    have JD7 := hid (JD6.out.below hb7)
    have KA7 := hid (KA6.out.below hb7)
    have KB7 := hid (KB6.out.below hb7)
    have X7 := hid (box_backF X6.out hb7 S6)
    have S7 := Nat.lt_of_lt_of_le S6 hb7.size
    have B7 := hid (B6.out.trans (hb7.mono B6.out.size))
    clear hb7
    obtain ⟨y0_8, y1_8⟩ := X7.out
    go_wp2_with fail
    refine (P4.out _ I7.out).mono ?_
    rintro e w8 ⟨u8, rfl, hj8, hb8⟩
    have KD8 := hid hj8
    clear hj8
    have I8 := hid (I7.out.below hb8)
    have JA8 := hid (JA7.out.below hb8)
    have JB8 := hid (JB7.out.below hb8)
    have JC8 := hid (JC7.out.below hb8)
    have JD8 := hid (JD7.out.below hb8)
    have KA8 := hid (KA7.out.below hb8)
    have KB8 := hid (KB7.out.below hb8)
    have KC8 := hid (KC7.out.below hb8)
    have X8 := hid (box_backF X7.out hb8 S7)
    have S8 := Nat.lt_of_lt_of_le S7 hb8.size
    have B8 := hid (B7.out.trans (hb8.mono B7.out.size))
    clear hb8
    have L9 := hid (longs_good w8 _ _ _ KA8.out JA8.out)
    clear CF CG CL P1 P2 P3 P4
    obtain ⟨_, _, hu5, -, -⟩ := KA8.out
    subst hu5
    obtain ⟨_, _, hu6, -, -⟩ := KB8.out
    subst hu6
    obtain ⟨_, _, hu7, -, -⟩ := KC8.out
    subst hu7
    obtain ⟨_, _, hu8, -, -⟩ := KD8.out
    subst hu8
    obtain ⟨_, _, hu2, -, -⟩ := JA8.out
    subst hu2
    obtain ⟨_, _, hu3, -, -⟩ := JB8.out
    subst hu3
    obtain ⟨_, _, hu4, -, -⟩ := JC8.out
    subst hu4
    obtain ⟨_, _, hu4b, -, -⟩ := JD8.out
    subst hu4b
    go_wp2_with fail
    refine L9.out.mono ?_
    rintro e w9 ⟨rfl, hb9⟩
    have KA9 := hid (KA8.out.below hb9)
    have KB9 := hid (KB8.out.below hb9)
    have KC9 := hid (KC8.out.below hb9)
    have KD9 := hid (KD8.out.below hb9)
    have JA9 := hid (JA8.out.below hb9)
    have JB9 := hid (JB8.out.below hb9)
    have JC9 := hid (JC8.out.below hb9)
    have JD9 := hid (JD8.out.below hb9)
    have B9 := hid (B8.out.trans (hb9.mono B8.out.size))
    clear hb9
    have L10 := hid (longs_good w9 _ _ _ KB9.out JB9.out)
    go_wp2_with fail
    refine L10.out.mono ?_
    rintro e w10 ⟨rfl, hb10⟩
    have KA10 := hid (KA9.out.below hb10)
    have KB10 := hid (KB9.out.below hb10)
    have KC10 := hid (KC9.out.below hb10)
    have KD10 := hid (KD9.out.below hb10)
    have JA10 := hid (JA9.out.below hb10)
    have JB10 := hid (JB9.out.below hb10)
    have JC10 := hid (JC9.out.below hb10)
    have JD10 := hid (JD9.out.below hb10)
    have B10 := hid (B9.out.trans (hb10.mono B9.out.size))
    clear hb10
    have L11 := hid (list_good w10 _ _ _ KC10.out JC10.out)
    go_wp2_with fail
    refine L11.out.mono ?_
    rintro e w11 ⟨rfl, hb11⟩
    have KA11 := hid (KA10.out.below hb11)
    have KB11 := hid (KB10.out.below hb11)
    have KC11 := hid (KC10.out.below hb11)
    have KD11 := hid (KD10.out.below hb11)
    have JA11 := hid (JA10.out.below hb11)
    have JB11 := hid (JB10.out.below hb11)
    have JC11 := hid (JC10.out.below hb11)
    have JD11 := hid (JD10.out.below hb11)
    have B11 := hid (B10.out.trans (hb11.mono B10.out.size))
    clear hb11
    have L12 := hid (list_good w11 _ _ _ KD11.out JD11.out)
    go_wp2_with fail
    refine L12.out.mono ?_
    rintro e w12 ⟨rfl, hb12⟩
    have KA12 := hid (KA11.out.below hb12)
    have KB12 := hid (KB11.out.below hb12)
    have KC12 := hid (KC11.out.below hb12)
    have KD12 := hid (KD11.out.below hb12)
    have JA12 := hid (JA11.out.below hb12)
    have JB12 := hid (JB11.out.below hb12)
    have JC12 := hid (JC11.out.below hb12)
    have JD12 := hid (JD11.out.below hb12)
    have B12 := hid (B11.out.trans (hb12.mono B11.out.size))
    clear hb12
    go_wp2_with fail
    go_ret
    exact ⟨rfl, B12.out⟩
  · have C1 := hid (fun w2 hI => Mobius_bad n (.slice a zs.length cap) zs w2 hI hq)
    have C2 := hid (fun w2 hI => Characteristic_bad n (.slice a zs.length cap) zs w2 hI hq)
    have C3 := hid (fun w2 hI => Levels_bad n (.slice a zs.length cap) zs w2 hI hq)
    have C4 := hid (fun w2 hI => Independent_bad n (.slice a zs.length cap) zs w2 hI hq)
    generalize chkR n zs = q at *
    have hq' : (q == 0) = false := by rw [beq_eq_false_iff_ne]; exact hq
    have hqn : (q != 0) = true := by rw [bne_iff_ne]; exact hq
    have D1 := hid (fun w => longs_bad w q (.slice none 0 0) hq)
    have D2 := hid (fun w => list_bad w (.slice none 0 0) q rfl hqn (.slice none 0 0))
    go_enter Try.func3, Try.ntmps3
    go_wp2_with fail
    refine M1.out.mono ?_
    rintro e w1 ⟨rfl, hb1⟩
    have X1 := hid (HX.out w1 hb1)
    have S1 : w.heap.size < w1.heap.size := by have := hb1.size; simp at this; omega
    have B1 := hid (HB0.out.trans (hb1.mono HB0.out.size))
    have I1 := hid (HI0.out.below hb1)
    clear hb1 HX HB0 HI0 M1
    obtain ⟨y0_2, y1_2⟩ := X1.out
    go_wp2_with fail
    refine (C1.out _ I1.out).mono ?_
    rintro e w2 ⟨rfl, hb2⟩
    have I2 := hid (I1.out.below hb2)
    have X2 := hid (box_backF X1.out hb2 S1)
    have S2 := Nat.lt_of_lt_of_le S1 hb2.size
    have B2 := hid (B1.out.trans (hb2.mono B1.out.size))
    clear hb2
    obtain ⟨y0_3, y1_3⟩ := X2.out
    go_wp2_with fail
    refine (C2.out _ I2.out).mono ?_
    rintro e w3 ⟨rfl, hb3⟩
    have I3 := hid (I2.out.below hb3)
    have X3 := hid (box_backF X2.out hb3 S2)
    have S3 := Nat.lt_of_lt_of_le S2 hb3.size
    have B3 := hid (B2.out.trans (hb3.mono B2.out.size))
    clear hb3
    obtain ⟨y0_4, y1_4⟩ := X3.out
    go_wp2_with fail
    refine (C3.out _ I3.out).mono ?_
    rintro e w4 ⟨rfl, hb4⟩
    have I4 := hid (I3.out.below hb4)
    have X4 := hid (box_backF X3.out hb4 S3)
    have S4 := Nat.lt_of_lt_of_le S3 hb4.size
    have B4 := hid (B3.out.trans (hb4.mono B3.out.size))
    clear hb4
    obtain ⟨y0_5, y1_5⟩ := X4.out
    go_wp2_with fail
    refine (C4.out _ I4.out).mono ?_
    rintro e w5 ⟨rfl, hb5⟩
    have I5 := hid (I4.out.below hb5)
    have X5 := hid (box_backF X4.out hb5 S4)
    have S5 := Nat.lt_of_lt_of_le S4 hb5.size
    have B5 := hid (B4.out.trans (hb5.mono B4.out.size))
    clear hb5
    clear hqn
    go_wp2_with fail
    refine (D1.out _).mono ?_
    rintro e w9 ⟨rfl, h9⟩
    obtain rfl := h9.symm
    go_wp2_with fail
    refine (D1.out _).mono ?_
    rintro e w9 ⟨rfl, h9⟩
    obtain rfl := h9.symm
    go_wp2_with fail
    refine (D2.out _).mono ?_
    rintro e w9 ⟨rfl, h9⟩
    obtain rfl := h9.symm
    go_wp2_with fail
    refine (D2.out _).mono ?_
    rintro e w9 ⟨rfl, h9⟩
    obtain rfl := h9.symm
    go_wp2_with fail
    go_ret
    exact ⟨rfl, B5.out⟩
end Go.Proofs.Ytpmpfnbgjgjlgaa
