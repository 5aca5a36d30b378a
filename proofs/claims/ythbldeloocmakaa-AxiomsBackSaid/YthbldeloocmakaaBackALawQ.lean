/- The walk of the law AxiomsBack. -/
import Derived.Test.YthbldeloocmakaaMadeQ
namespace Go.Proofs.Ythbldeloocmakaa
open Go.RowKit

theorem two_cir : (List.range (2 ^ 4)).filter (cirB (rk twoL)) = [7, 11, 13, 14] := by decide +kernel
theorem box_back {w w1 : World} {B : Nat} {x y : Value} (hx : w.cell? ⟨B, 0, none⟩ = some x ∧ w.cell? ⟨B, 1, none⟩ = some y) (hb : Below w.heap.size w w1) (hB : B < w.heap.size) : w1.cell? ⟨B, 0, none⟩ = some x ∧ w1.cell? ⟨B, 1, none⟩ = some y :=
  ⟨(hb.cell (p := ⟨B, 0, none⟩) hB).trans hx.1, (hb.cell (p := ⟨B, 1, none⟩) hB).trans hx.2⟩

set_option maxRecDepth 20000 in
set_option maxHeartbeats 4000000 in
theorem backA_law (n : Int) (v : Value) (zs : List Int) (w : World) (h : Ints w v zs) :
    Calls Try.prog 5 #[.agg #[.int .i64 n, v]] w fun e w' => e = .returned (.bool true) ∧ Below w.heap.size w w' := by
  have HI := hid h
  obtain ⟨a, cap, rfl, _, _⟩ := h
  have T2 := hid (fun w v (h : Ints w v (N twoL)) => Circuits_ok 4 v twoL w (by omega) two_fam two_bas h)
  rw [two_cir] at T2
  go_enter Try.func5, Try.ntmps5
  go_wp2_with fail
  refine (two_any _).mono ?_
  rintro e w1 ⟨v2, rfl, hv2, hb1⟩
  have X1 := hid (box_cells hb1)
  have B1 := hid ((below_box w #[.int .i64 n, .slice a zs.length cap]).trans (hb1.mono (below_box w #[.int .i64 n, .slice a zs.length cap]).size))
  have S1 : w.heap.size + 1 ≤ w1.heap.size := by have := hb1.size; simpa using this
  have C2 := hid (T2.out _ _ hv2)
  obtain ⟨a2, cap2, rfl, _, _⟩ := hv2
  clear hb1
  go_wp2_with fail
  refine C2.out.mono ?_
  rintro e w2 ⟨r2, rfl, hr2, hb2⟩
  have X2 := hid (box_back X1.out hb2 (by omega))
  have B2 := hid (B1.out.trans (hb2.mono B1.out.size))
  have S2 : w.heap.size + 1 ≤ w2.heap.size := Nat.le_trans S1 hb2.size
  have I2 := hid (hr2.ints (by decide))
  obtain ⟨fa, fcap, hr2, _, _⟩ := I2.out.nats
  subst hr2
  have HBL : Hid (Below w2.heap.size w2 (w2.alloc (.cells #[.int .i64 7, .int .i64 11, .int .i64 13, .int .i64 14] 3))) := (Below.refl _ _).alloc (Nat.le_refl _) _
  have SM := hid (Same_any _ _ _ _ _ (I2.out.below HBL.out) (litsAt w2 [7, 11, 13, 14]))
  rw [show decide (N [7, 11, 13, 14] = N [7, 11, 13, 14]) = true by simp] at SM
  clear hb2 T2 C2 X1
  go_wp2_with fail
  refine SM.out.mono ?_
  rintro e w3 ⟨rfl, hb3'⟩
  have hb3 := HBL.out.trans (hb3'.mono HBL.out.size)
  have X3 := hid (box_back X2.out hb3 (by omega))
  have B3 := hid (B2.out.trans (hb3.mono B2.out.size))
  have S3 : w.heap.size + 1 ≤ w3.heap.size := Nat.le_trans S2 hb3.size
  obtain ⟨x0, x1⟩ := X3.out
  have CK := hid (check_any n _ zs w3 (HI.out.below B3.out))
  clear hb3 hb3' SM X2 I2 HBL
  by_cases hc : chkR n zs = 0
  · rw [hc] at CK
    obtain ⟨m, l, rfl, hm, rfl, hfam, hbas⟩ := chk_of hc
    clear hc
    have HM := hid (fun w' (hb : Below w.heap.size w w') => HI.out.below hb)
    have LN : Hid ((N l).length = l.length) := N_len l
    rw [N_len] at *
    go_wp2_with fail
    refine CK.out.mono ?_
    rintro e w4 ⟨rfl, hb4⟩
    have X4 := hid (box_back X3.out hb4 (by omega))
    have B4 := hid (B3.out.trans (hb4.mono B3.out.size))
    have S4 : w.heap.size + 1 ≤ w4.heap.size := Nat.le_trans S3 hb4.size
    clear hb4 x0 x1 X3 CK
    obtain ⟨x0, x1⟩ := X4.out
    go_wp2_with fail
    refine (Independents_ok m _ l _ hm hfam hbas (HM.out _ B4.out)).mono ?_
    rintro e w5 ⟨u5, rfl, ho5, hb5⟩
    have X5 := hid (box_back X4.out hb5 (by omega))
    have B5 := hid (B4.out.trans (hb5.mono B4.out.size))
    have S5 : w.heap.size + 1 ≤ w5.heap.size := Nat.le_trans S4 hb5.size
    have I5 : Hid (Ints w5 u5 (N (indL m l))) := ho5.ints (ran_len hm _)
    obtain ⟨a5, cap5, hu5, _, _⟩ := I5.out.nats
    subst hu5
    clear hb5 x0 x1 X4 ho5
    obtain ⟨x0, x1⟩ := X5.out
    go_wp2_with fail
    refine (Circuits_ok m _ l _ hm hfam hbas (HM.out _ B5.out)).mono ?_
    rintro e w6 ⟨u6, rfl, ho6, hb6⟩
    have X6 := hid (box_back X5.out hb6 (by omega))
    have B6 := hid (B5.out.trans (hb6.mono B5.out.size))
    have S6 : w.heap.size + 1 ≤ w6.heap.size := Nat.le_trans S5 hb6.size
    replace I5 := hid (I5.out.below hb6)
    have I6 : Hid (Ints w6 u6 (N (cirL m l))) := ho6.ints (ran_len hm _)
    obtain ⟨a6, cap6, hu6, _, _⟩ := I6.out.nats
    subst hu6
    clear hb6 x0 x1 X5 ho6
    obtain ⟨x0, x1⟩ := X6.out
    go_wp2_with fail
    refine (Ranks_ok m _ l _ hm hfam hbas (HM.out _ B6.out)).mono ?_
    rintro e w7 ⟨u7, rfl, ho7, hb7⟩
    have X7 := hid (box_back X6.out hb7 (by omega))
    have B7 := hid (B6.out.trans (hb7.mono B6.out.size))
    have S7 : w.heap.size + 1 ≤ w7.heap.size := Nat.le_trans S6 hb7.size
    replace I5 := hid (I5.out.below hb7)
    replace I6 := hid (I6.out.below hb7)
    have I7 : Hid (RkAt w7 u7 (2 ^ m) (rk l)) := ho7
    obtain ⟨rb7, ro7, rc7, hu7, _, _⟩ := I7.out
    subst hu7
    clear hb7 x0 x1 X6 ho7
    obtain ⟨x0, x1⟩ := X7.out
    go_wp2_with fail
    refine (Flats_ok m _ l _ hm hfam hbas (HM.out _ B7.out)).mono ?_
    rintro e w8 ⟨u8, rfl, ho8, hb8⟩
    have X8 := hid (box_back X7.out hb8 (by omega))
    have B8 := hid (B7.out.trans (hb8.mono B7.out.size))
    have S8 : w.heap.size + 1 ≤ w8.heap.size := Nat.le_trans S7 hb8.size
    replace I5 := hid (I5.out.below hb8)
    replace I6 := hid (I6.out.below hb8)
    replace I7 := hid (I7.out.below hb8)
    have I8 : Hid (Ints w8 u8 (N (flatL m l))) := ho8.ints (ran_len hm _)
    have HCP := hid ho8.cap
    obtain ⟨a8, cap8, hu8, _, _⟩ := I8.out.nats
    subst hu8
    clear hb8 x0 x1 X7 ho8
    obtain ⟨x0, x1⟩ := X8.out
    go_wp2_with fail
    refine (Hyperplanes_ok m _ l _ hm hfam hbas (HM.out _ B8.out)).mono ?_
    rintro e w9 ⟨u9, rfl, ho9, hb9⟩
    have X9 := hid (box_back X8.out hb9 (by omega))
    have B9 := hid (B8.out.trans (hb9.mono B8.out.size))
    have S9 : w.heap.size + 1 ≤ w9.heap.size := Nat.le_trans S8 hb9.size
    replace I5 := hid (I5.out.below hb9)
    replace I6 := hid (I6.out.below hb9)
    replace I7 := hid (I7.out.below hb9)
    replace I8 := hid (I8.out.below hb9)
    have I9 : Hid (Ints w9 u9 (N ((List.range (2 ^ m)).filter (hypB (rk l) m)))) := ho9.ints (ran_len hm _)
    obtain ⟨a9, cap9, hu9, _, _⟩ := I9.out.nats
    subst hu9
    clear hb9 x0 x1 X8 ho9
    obtain ⟨x0, x1⟩ := X9.out
    go_wp2_with fail
    refine (OfInd_ok m _ l _ hm hfam hbas I5.out).mono ?_
    rintro e w10 ⟨p10, rfl, hp10, hb10'⟩
    obtain ⟨a10, cap10, hq10, _, _⟩ := hp10.nats
    subst hq10
    have hk10 := below_box w10 #[.int .i64 m, .slice a10 l.length cap10]
    have hb10 := hb10'.trans (hk10.mono hb10'.size)
    have hz10 := World.size_alloc w10 (.cells #[.int .i64 m, .slice a10 l.length cap10] 24)
    have hy10 := hb10'.size
    have X10 := hid (box_back X9.out hb10 (by omega))
    have B10 := hid (B9.out.trans (hb10.mono B9.out.size))
    have S10 : w.heap.size + 1 ≤ w10.heap.size := by omega
    replace I5 := hid (I5.out.below hb10)
    replace I6 := hid (I6.out.below hb10)
    replace I7 := hid (I7.out.below hb10)
    replace I8 := hid (I8.out.below hb10)
    replace I9 := hid (I9.out.below hb10)
    have P10 := hid (box_cells (w := w10) (n := m) (u := .slice a10 l.length cap10) (Below.refl _ _))
    have M10 := hid (hp10.below hk10)
    clear hb10 hb10' hk10 x0 x1 X9 hp10
    obtain ⟨x0, x1⟩ := X10.out
    go_wp2_with fail
    refine (OfCir_ok m _ l _ hm hfam hbas I6.out).mono ?_
    rintro e w11 ⟨p11, rfl, hp11, hb11'⟩
    obtain ⟨a11, cap11, hq11, _, _⟩ := hp11.nats
    subst hq11
    have hk11 := below_box w11 #[.int .i64 m, .slice a11 l.length cap11]
    have hb11 := hb11'.trans (hk11.mono hb11'.size)
    have hz11 := World.size_alloc w11 (.cells #[.int .i64 m, .slice a11 l.length cap11] 24)
    have hy11 := hb11'.size
    have X11 := hid (box_back X10.out hb11 (by omega))
    have B11 := hid (B10.out.trans (hb11.mono B10.out.size))
    have S11 : w.heap.size + 1 ≤ w11.heap.size := by omega
    replace I5 := hid (I5.out.below hb11)
    replace I6 := hid (I6.out.below hb11)
    replace I7 := hid (I7.out.below hb11)
    replace I8 := hid (I8.out.below hb11)
    replace I9 := hid (I9.out.below hb11)
    replace P10 := hid (box_back P10.out hb11 (by omega))
    replace M10 := hid (M10.out.below hb11)
    have L10 : w10.heap.size < w11.heap.size := by omega
    have P11 := hid (box_cells (w := w11) (n := m) (u := .slice a11 l.length cap11) (Below.refl _ _))
    have M11 := hid (hp11.below hk11)
    clear hb11 hb11' hk11 x0 x1 X10 hp11
    obtain ⟨x0, x1⟩ := X11.out
    go_wp2_with fail
    refine (OfRk_ok m _ l _ hm hfam hbas I7.out).mono ?_
    rintro e w12 ⟨p12, rfl, hp12, hb12'⟩
    obtain ⟨a12, cap12, hq12, _, _⟩ := hp12.nats
    subst hq12
    have hk12 := below_box w12 #[.int .i64 m, .slice a12 l.length cap12]
    have hb12 := hb12'.trans (hk12.mono hb12'.size)
    have hz12 := World.size_alloc w12 (.cells #[.int .i64 m, .slice a12 l.length cap12] 24)
    have hy12 := hb12'.size
    have X12 := hid (box_back X11.out hb12 (by omega))
    have B12 := hid (B11.out.trans (hb12.mono B11.out.size))
    have S12 : w.heap.size + 1 ≤ w12.heap.size := by omega
    replace I5 := hid (I5.out.below hb12)
    replace I6 := hid (I6.out.below hb12)
    replace I7 := hid (I7.out.below hb12)
    replace I8 := hid (I8.out.below hb12)
    replace I9 := hid (I9.out.below hb12)
    replace P10 := hid (box_back P10.out hb12 (by omega))
    replace M10 := hid (M10.out.below hb12)
    have L10 : w10.heap.size < w12.heap.size := by omega
    replace P11 := hid (box_back P11.out hb12 (by omega))
    replace M11 := hid (M11.out.below hb12)
    have L11 : w11.heap.size < w12.heap.size := by omega
    have P12 := hid (box_cells (w := w12) (n := m) (u := .slice a12 l.length cap12) (Below.refl _ _))
    have M12 := hid (hp12.below hk12)
    clear hb12 hb12' hk12 x0 x1 X11 hp12
    obtain ⟨x0, x1⟩ := X12.out
    go_wp2_with fail
    refine (OfFlat_ok m _ l _ hm hfam hbas I8.out HCP.out).mono ?_
    rintro e w13 ⟨p13, rfl, hp13, hb13'⟩
    obtain ⟨a13, cap13, hq13, _, _⟩ := hp13.nats
    subst hq13
    have hk13 := below_box w13 #[.int .i64 m, .slice a13 l.length cap13]
    have hb13 := hb13'.trans (hk13.mono hb13'.size)
    have hz13 := World.size_alloc w13 (.cells #[.int .i64 m, .slice a13 l.length cap13] 24)
    have hy13 := hb13'.size
    have X13 := hid (box_back X12.out hb13 (by omega))
    have B13 := hid (B12.out.trans (hb13.mono B12.out.size))
    have S13 : w.heap.size + 1 ≤ w13.heap.size := by omega
    replace I5 := hid (I5.out.below hb13)
    replace I6 := hid (I6.out.below hb13)
    replace I7 := hid (I7.out.below hb13)
    replace I8 := hid (I8.out.below hb13)
    replace I9 := hid (I9.out.below hb13)
    replace P10 := hid (box_back P10.out hb13 (by omega))
    replace M10 := hid (M10.out.below hb13)
    have L10 : w10.heap.size < w13.heap.size := by omega
    replace P11 := hid (box_back P11.out hb13 (by omega))
    replace M11 := hid (M11.out.below hb13)
    have L11 : w11.heap.size < w13.heap.size := by omega
    replace P12 := hid (box_back P12.out hb13 (by omega))
    replace M12 := hid (M12.out.below hb13)
    have L12 : w12.heap.size < w13.heap.size := by omega
    have P13 := hid (box_cells (w := w13) (n := m) (u := .slice a13 l.length cap13) (Below.refl _ _))
    have M13 := hid (hp13.below hk13)
    clear hb13 hb13' hk13 x0 x1 X12 hp13
    obtain ⟨x0, x1⟩ := X13.out
    go_wp2_with fail
    refine (OfHyp_ok m _ l _ hm hfam hbas I9.out).mono ?_
    rintro e w14 ⟨p14, rfl, hp14, hb14'⟩
    obtain ⟨a14, cap14, hq14, _, _⟩ := hp14.nats
    subst hq14
    have hk14 := below_box w14 #[.int .i64 m, .slice a14 l.length cap14]
    have hb14 := hb14'.trans (hk14.mono hb14'.size)
    have hz14 := World.size_alloc w14 (.cells #[.int .i64 m, .slice a14 l.length cap14] 24)
    have hy14 := hb14'.size
    have X14 := hid (box_back X13.out hb14 (by omega))
    have B14 := hid (B13.out.trans (hb14.mono B13.out.size))
    have S14 : w.heap.size + 1 ≤ w14.heap.size := by omega
    replace I5 := hid (I5.out.below hb14)
    replace I6 := hid (I6.out.below hb14)
    replace I7 := hid (I7.out.below hb14)
    replace I8 := hid (I8.out.below hb14)
    replace I9 := hid (I9.out.below hb14)
    replace P10 := hid (box_back P10.out hb14 (by omega))
    replace M10 := hid (M10.out.below hb14)
    have L10 : w10.heap.size < w14.heap.size := by omega
    replace P11 := hid (box_back P11.out hb14 (by omega))
    replace M11 := hid (M11.out.below hb14)
    have L11 : w11.heap.size < w14.heap.size := by omega
    replace P12 := hid (box_back P12.out hb14 (by omega))
    replace M12 := hid (M12.out.below hb14)
    have L12 : w12.heap.size < w14.heap.size := by omega
    replace P13 := hid (box_back P13.out hb14 (by omega))
    replace M13 := hid (M13.out.below hb14)
    have L13 : w13.heap.size < w14.heap.size := by omega
    have P14 := hid (box_cells (w := w14) (n := m) (u := .slice a14 l.length cap14) (Below.refl _ _))
    have M14 := hid (hp14.below hk14)
    clear hb14 hb14' hk14 x0 x1 X13 hp14
    obtain ⟨x0, x1⟩ := X14.out
    obtain ⟨y0, y1⟩ := P10.out
    go_wp2_with fail
    refine (SameMatroid_any m m _ _ (N l) (N l) _ M10.out (HM.out _ B14.out)).mono ?_
    rw [show (decide ((m : Int) = m) && decide (N l = N l)) = true by simp]
    rintro e w15 ⟨rfl, hb15⟩
    have B15 := hid (B14.out.trans (hb15.mono B14.out.size))
    have X15 := hid (box_back X14.out hb15 (by omega))
    have hy15 := hb15.size
    replace P11 := hid (box_back P11.out hb15 (by omega))
    replace M11 := hid (M11.out.below hb15)
    replace P12 := hid (box_back P12.out hb15 (by omega))
    replace M12 := hid (M12.out.below hb15)
    replace P13 := hid (box_back P13.out hb15 (by omega))
    replace M13 := hid (M13.out.below hb15)
    replace P14 := hid (box_back P14.out hb15 (by omega))
    replace M14 := hid (M14.out.below hb15)
    clear hb15 x0 x1 y0 y1 X14
    obtain ⟨x0, x1⟩ := X15.out
    obtain ⟨y0, y1⟩ := P11.out
    go_wp2_with fail
    refine (SameMatroid_any m m _ _ (N l) (N l) _ M11.out (HM.out _ B15.out)).mono ?_
    rw [show (decide ((m : Int) = m) && decide (N l = N l)) = true by simp]
    rintro e w16 ⟨rfl, hb16⟩
    have B16 := hid (B15.out.trans (hb16.mono B15.out.size))
    have X16 := hid (box_back X15.out hb16 (by omega))
    have hy16 := hb16.size
    replace P12 := hid (box_back P12.out hb16 (by omega))
    replace M12 := hid (M12.out.below hb16)
    replace P13 := hid (box_back P13.out hb16 (by omega))
    replace M13 := hid (M13.out.below hb16)
    replace P14 := hid (box_back P14.out hb16 (by omega))
    replace M14 := hid (M14.out.below hb16)
    clear hb16 x0 x1 y0 y1 X15
    obtain ⟨x0, x1⟩ := X16.out
    obtain ⟨y0, y1⟩ := P12.out
    go_wp2_with fail
    refine (SameMatroid_any m m _ _ (N l) (N l) _ M12.out (HM.out _ B16.out)).mono ?_
    rw [show (decide ((m : Int) = m) && decide (N l = N l)) = true by simp]
    rintro e w17 ⟨rfl, hb17⟩
    have B17 := hid (B16.out.trans (hb17.mono B16.out.size))
    have X17 := hid (box_back X16.out hb17 (by omega))
    have hy17 := hb17.size
    replace P13 := hid (box_back P13.out hb17 (by omega))
    replace M13 := hid (M13.out.below hb17)
    replace P14 := hid (box_back P14.out hb17 (by omega))
    replace M14 := hid (M14.out.below hb17)
    clear hb17 x0 x1 y0 y1 X16
    obtain ⟨x0, x1⟩ := X17.out
    obtain ⟨y0, y1⟩ := P13.out
    go_wp2_with fail
    refine (SameMatroid_any m m _ _ (N l) (N l) _ M13.out (HM.out _ B17.out)).mono ?_
    rw [show (decide ((m : Int) = m) && decide (N l = N l)) = true by simp]
    rintro e w18 ⟨rfl, hb18⟩
    have B18 := hid (B17.out.trans (hb18.mono B17.out.size))
    have X18 := hid (box_back X17.out hb18 (by omega))
    have hy18 := hb18.size
    replace P14 := hid (box_back P14.out hb18 (by omega))
    replace M14 := hid (M14.out.below hb18)
    clear hb18 x0 x1 y0 y1 X17
    obtain ⟨x0, x1⟩ := X18.out
    obtain ⟨y0, y1⟩ := P14.out
    go_wp2_with fail
    refine (SameMatroid_any m m _ _ (N l) (N l) _ M14.out (HM.out _ B18.out)).mono ?_
    rw [show (decide ((m : Int) = m) && decide (N l = N l)) = true by simp]
    rintro e w19 ⟨rfl, hb19⟩
    have B19 := hid (B18.out.trans (hb19.mono B18.out.size))
    clear hb19 x0 x1 y0 y1
    go_wp2_with fail
    go_ret
    exact ⟨rfl, B19.out⟩
  · have hc' : (chkR n zs == 0) = false := by rw [beq_eq_false_iff_ne]; exact hc
    generalize chkR n zs = q at *
    go_wp2_with fail
    refine CK.out.mono ?_
    rintro e w4 ⟨rfl, hb4⟩
    have B4 := hid (B3.out.trans (hb4.mono B3.out.size))
    clear hb4
    go_wp2_with fail
    go_ret
    exact ⟨rfl, B4.out⟩
end Go.Proofs.Ythbldeloocmakaa
