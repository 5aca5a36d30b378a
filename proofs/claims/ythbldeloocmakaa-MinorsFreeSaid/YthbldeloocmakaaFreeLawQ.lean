/- The walk of the law MinorsFree. -/
import Derived.Test.YthbldeloocmakaaPlainInsQ
import Derived.Test.YthbldeloocmakaaSwapLawQ
import Derived.Test.YthbldeloocmakaaRefQ
namespace Go.Proofs.Ythbldeloocmakaa
open Go.RowKit

theorem one_fam : Fam 1 [1] := ⟨by decide, by decide⟩
theorem one_chk : chkR 1 (N [1]) = 0 := by decide +kernel
theorem one_free : feL 1 [1] = [1, 2] := by decide +kernel
theorem one_bas : Bas [1] := by
  obtain ⟨m, l, _, _, h1, _, h2⟩ := chk_of one_chk
  have e : l = [1] := by
    have := congrArg (List.map Int.toNat) h1
    simpa [N, List.map_map, Function.comp_def] using this.symm
  exact e ▸ h2
theorem head_lt {l : List Nat} (hb : Bas l) : l.getD 0 0 < 256 := by
  cases l with
  | nil => exact absurd rfl hb.ne
  | cons a l => exact hb.lt a (List.mem_cons_self ..)
theorem head_rk {m : Nat} {l : List Nat} (hm : m ≤ 8) (hf : Fam m l) (hb : Bas l) : pop (l.getD 0 0) = rk l (2 ^ m - 1) := by
  cases l with
  | nil => exact absurd rfl hb.ne
  | cons a l =>
    have ha : a ∈ a :: l := List.mem_cons_self ..
    obtain ⟨h1, h2⟩ := (bas_mem hm hf hb (hf.lt a ha)).1 ha
    show pop a = _
    omega
theorem setR_no {m : Nat} {s : Int} (hs : setB m s = false) : setR m s = 1 := by
  unfold setB at hs
  unfold setR
  rw [if_neg (of_decide_eq_false hs)]
theorem free_prep {m : Nat} {l : List Nat} (hm : m < 8) (hf : Fam m l) (hb : Bas l) : ∃ fl cl tl : List Nat, feL m l = fl ∧ Fam (m + 1) fl ∧ Bas fl ∧ fl.length ≤ 256 ∧ cl.length ≤ 256 ∧ tl.length ≤ 256 ∧ (0 < rk l (2 ^ m - 1) → cl = tl) ∧
    (∀ w v, Ints w v (N fl) → Calls Try.prog 46 #[.agg #[.int .i64 (m + 1 : Nat), v], .int .i64 (2 ^ m : Nat)] w (GivesO w m l)) ∧
    (∀ w v, Ints w v (N fl) → Calls Try.prog 47 #[.agg #[.int .i64 (m + 1 : Nat), v], .int .i64 (2 ^ m : Nat)] w (GivesO w m cl)) ∧
    (∀ w v, Ints w v (N l) → Calls Try.prog 50 #[.agg #[.int .i64 m, v], .int .i64 (rk l (2 ^ m - 1) - 1 : Nat)] w (GivesO w m tl)) := by
  have hF := fe_fam m l
  have hB := fe_bas hm hb
  have e1 := kept_free m
  have e2 := pop_full m (by omega)
  have hx : 2 ^ m < 2 ^ (m + 1) := Nat.pow_lt_pow_right (by omega) (by omega)
  have hcf := min_fam (m + 1) (feL m l) (2 ^ m) (2 ^ m)
  rw [e1, e2] at hcf
  refine ⟨_, minL (m + 1) (feL m l) (2 ^ m) (2 ^ m), cutL m l (rk l (2 ^ m - 1) - 1), rfl, hF, hB, fam_len (by omega) hF, fam_len (by omega) hcf, fam_len (by omega) (cut_fam _ _ _), free_con hm hb, fun w v h => ?_, fun w v h => ?_, fun w v h => ?_⟩
  · have := Delete_ok (m + 1) (2 ^ m) v _ w (by omega) hF hB h hx
    rwa [e1, e2, free_del hm hf hb] at this
  · have := Contract_ok (m + 1) (2 ^ m) v _ w (by omega) hF hB h hx
    rwa [e1, e2] at this
  · exact Truncate_ok m _ v l w (by omega) hf hb h (by omega)
set_option maxRecDepth 20000 in
set_option maxHeartbeats 4000000 in
theorem free_law (n : Int) (v : Value) (zs : List Int) (s : Int) (w : World) (h : Ints w v zs) (hcp : ∀ a L c, v = .slice a L c → L ≤ c) :
    Calls Try.prog 8 #[.agg #[.int .i64 n, v], .int .i64 s] w fun e w' => e = .returned (.bool true) ∧ Below w.heap.size w w' := by
  have HI := hid h
  obtain ⟨a, cap, rfl, _, _⟩ := h
  have HCP := hid (hcp _ _ _ rfl)
  clear hcp
  go_enter Try.func8, Try.ntmps8
  go_wp2_with fail
  have F0 := hid (Free_ok 1 _ [1] _ (by omega) one_fam one_bas (Ints.lit1 (w.alloc (.cells #[.int .i64 n, .slice a zs.length cap] 24)) 1))
  rw [one_free] at F0
  rw [World.size_alloc] at F0
  refine F0.out.mono ?_
  rintro e w1 ⟨r1, rfl, ho1, hb1⟩
  have hb1' : Below (w.alloc (.cells #[.int .i64 n, .slice a zs.length cap] 24)).heap.size (w.alloc (.cells #[.int .i64 n, .slice a zs.length cap] 24)) w1 := ((Below.refl _ _).alloc (Nat.le_refl _) _).trans (hb1.mono (by simp))
  have X1 := hid (box_cells hb1')
  have B1 := hid ((below_box w #[.int .i64 n, .slice a zs.length cap]).trans (hb1'.mono (below_box w #[.int .i64 n, .slice a zs.length cap]).size))
  have S1 : w.heap.size + 1 ≤ w1.heap.size := by have := hb1'.size; simpa using this
  obtain ⟨fa, fcap, hr1⟩ := ownsRow_form' ho1
  subst hr1
  have P1 := hid (box_cells (w := w1) (n := 2) (u := .slice fa 2 fcap) (Below.refl _ _))
  have hk1 := below_box w1 #[.int .i64 2, .slice fa 2 fcap]
  have I1 := hid ((ho1.ints (by decide)).below hk1)
  have X2 := hid (box_back X1.out hk1 (by omega))
  have B2 := hid (B1.out.trans (hk1.mono B1.out.size))
  have S2 : (w1.alloc (.cells #[.int .i64 2, .slice fa 2 fcap] 24)).heap.size = w1.heap.size + 1 := by simp
  obtain ⟨p0, p1⟩ := P1.out
  clear hb1 hb1' ho1 F0 hk1
  go_wp2_with fail
  have SM := hid (Same_any _ _ (N [1, 2]) [1, 2] _ (I1.out.below (below_alloc _ _)) (Ints.lit2 (w1.alloc (.cells #[.int .i64 2, .slice fa 2 fcap] 24)) 1 2))
  rw [show decide (N [1, 2] = [1, 2]) = true from rfl, S2] at SM
  refine SM.out.mono ?_
  rintro e w2 ⟨rfl, hb2⟩
  have hb2' : Below (w1.alloc (.cells #[.int .i64 2, .slice fa 2 fcap] 24)).heap.size (w1.alloc (.cells #[.int .i64 2, .slice fa 2 fcap] 24)) w2 := ((Below.refl _ _).alloc (Nat.le_refl _) _).trans (hb2.mono (by simp))
  have X3 := hid (box_back X2.out hb2' (by omega))
  have B3 := hid (B2.out.trans (hb2'.mono B2.out.size))
  have S3 : w.heap.size + 1 ≤ w2.heap.size := by have := hb2'.size; omega
  clear hb2 hb2' SM p0 p1 P1 I1 X1 X2
  obtain ⟨x0, x1⟩ := X3.out
  by_cases hc : chkR n zs = 0
  · obtain ⟨m, l, rfl, hm, rfl, hfam, hbas⟩ := chk_of hc
    clear hc
    have HM := hid (fun w' (hb : Below w.heap.size w w') => HI.out.below hb)
    rw [N_len] at *
    by_cases hm8 : m = 8
    · subst hm8
      have FL := hid (Free_large _ l _ hfam hbas (HM.out _ B3.out))
      go_wp2_with fail
      refine FL.out.mono ?_
      rintro e w3 ⟨rfl, hb3⟩
      have hk3 := below_box w3 #[.int .i64 0, .slice none 0 0]
      have P3 := hid (box_cells (w := w3) (n := 0) (u := .slice none 0 0) (Below.refl _ _))
      have B4 := hid (B3.out.trans ((hb3.trans (hk3.mono hb3.size)).mono B3.out.size))
      obtain ⟨q0, q1⟩ := P3.out
      clear hb3 hk3
      go_wp2_with fail
      go_ret
      exact ⟨rfl, B4.out⟩
    · have hm7 : m < 8 := by omega
      have FO := hid (Free_ok m _ l _ hm7 hfam hbas (HM.out _ B3.out))
      obtain ⟨fl, cl, tl, hfl, hF1, hB1, hl1, hl2, hl3, hct, DE, CO, TR⟩ := free_prep hm7 hfam hbas
      rw [hfl] at FO
      have CF := hid (fun w' v (h : Ints w' v (N fl)) => check_any (m + 1 : Nat) v (N fl) w' h)
      rw [chk_mk (by omega) hF1 hB1] at CF
      have HCT := hid hct
      have HDE := hid DE
      have HCO := hid CO
      have HTR := hid TR
      have HRK : Hid (pop (l.getD 0 0) = rk l (2 ^ m - 1)) := head_rk hm hfam hbas
      have hTw : wrap64 (2 ^ m) = ((2 ^ m : Nat) : Int) := (pow_wrap m hm).1
      have h256 : l.getD 0 0 < 256 := head_lt hbas
      have hll := fam_len hm hfam
      clear hct DE CO TR hfl
      have hR8 : rk l (2 ^ m - 1) ≤ 8 := by have := hbas.rk.le (2 ^ m - 1); rw [pop_full m hm] at this; omega
      generalize rk l (2 ^ m - 1) = R at *
      generalize hT : 2 ^ m = T at *
      generalize hm1 : m + 1 = m1 at *
      obtain ⟨a', cap', hv', _, hcells⟩ := (HM.out w (Below.refl _ _)).nats
      obtain ⟨rfl, rfl⟩ : a = a' ∧ cap = cap' := by simpa using hv'
      obtain ⟨b0, off0, rfl, hb0, hcell⟩ := hcells (List.length_pos_iff.2 hbas.ne)
      have HC0 := hid (hcell 0 (List.length_pos_iff.2 hbas.ne))
      have hl0 : ((l.length : Int) == 0) = false := by rw [beq_eq_false_iff_ne]; have := List.length_pos_iff.2 hbas.ne; omega
      clear hcells hcell hv'
      go_wp2_with fail
      refine (FO.out).mono ?_
      rintro e w4 ⟨r4, rfl, ho4, hb4'⟩
      obtain ⟨a4, cap4, hq4⟩ := ownsRow_form' ho4
      subst hq4
      have hp4 := ho4.ints (Nat.le_trans hl1 (by decide : 256 ≤ 17592186044416))
      have hk4 := below_box w4 #[.int .i64 (m1 : Nat), .slice a4 fl.length cap4]
      have hb4 := hb4'.trans (hk4.mono hb4'.size)
      have hz4 := World.size_alloc w4 (.cells #[.int .i64 (m1 : Nat), .slice a4 fl.length cap4] 24)
      have hy4 := hb4'.size
      have Y4 := hid (box_back X3.out hb4 (by omega))
      have B4 := hid (B3.out.trans (hb4.mono B3.out.size))
      have P4 := hid (box_cells (w := w4) (n := (m1 : Nat)) (u := .slice a4 fl.length cap4) (Below.refl _ _))
      have M4 := hid (hp4.below hk4)
      clear hb4 hb4' hk4 x0 x1 hp4 ho4
      obtain ⟨x0, x1⟩ := Y4.out
      obtain ⟨f0, f1⟩ := P4.out
      go_wp2_with fail
      refine (HDE.out _ _ M4.out).mono ?_
      rintro e w5 ⟨r5, rfl, ho5, hb5'⟩
      obtain ⟨a5, cap5, hq5⟩ := ownsRow_form' ho5
      subst hq5
      have hp5 := ho5.ints (Nat.le_trans hll (by decide : 256 ≤ 17592186044416))
      have hk5 := below_box w5 #[.int .i64 (m : Nat), .slice a5 l.length cap5]
      have hb5 := hb5'.trans (hk5.mono hb5'.size)
      have hz5 := World.size_alloc w5 (.cells #[.int .i64 (m : Nat), .slice a5 l.length cap5] 24)
      have hy5 := hb5'.size
      have Y5 := hid (box_back Y4.out hb5 (by omega))
      have B5 := hid (B4.out.trans (hb5.mono B4.out.size))
      replace P4 := hid (box_back P4.out hb5 (by omega))
      replace M4 := hid (M4.out.below hb5)
      have P5 := hid (box_cells (w := w5) (n := (m : Nat)) (u := .slice a5 l.length cap5) (Below.refl _ _))
      have M5 := hid (hp5.below hk5)
      clear hb5 hb5' hk5 x0 x1 hp5 ho5
      obtain ⟨x0, x1⟩ := Y5.out
      clear f0 f1
      obtain ⟨f0, f1⟩ := P4.out
      go_wp2_with fail
      refine (HCO.out _ _ M4.out).mono ?_
      rintro e w6 ⟨r6, rfl, ho6, hb6'⟩
      obtain ⟨a6, cap6, hq6⟩ := ownsRow_form' ho6
      subst hq6
      have hp6 := ho6.ints (Nat.le_trans hl2 (by decide : 256 ≤ 17592186044416))
      have hk6 := below_box w6 #[.int .i64 (m : Nat), .slice a6 cl.length cap6]
      have hb6 := hb6'.trans (hk6.mono hb6'.size)
      have hz6 := World.size_alloc w6 (.cells #[.int .i64 (m : Nat), .slice a6 cl.length cap6] 24)
      have hy6 := hb6'.size
      have Y6 := hid (box_back Y5.out hb6 (by omega))
      have B6 := hid (B5.out.trans (hb6.mono B5.out.size))
      replace P4 := hid (box_back P4.out hb6 (by omega))
      replace M4 := hid (M4.out.below hb6)
      replace P5 := hid (box_back P5.out hb6 (by omega))
      replace M5 := hid (M5.out.below hb6)
      have P6 := hid (box_cells (w := w6) (n := (m : Nat)) (u := .slice a6 cl.length cap6) (Below.refl _ _))
      have M6 := hid (hp6.below hk6)
      clear hb6 hb6' hk6 x0 x1 hp6 ho6
      obtain ⟨x0, x1⟩ := Y6.out
      clear f0 f1
      have hcl0 : (w6.alloc (.cells #[.int .i64 m, .slice a6 cl.length cap6] 24)).cell? ⟨b0, off0, none⟩ = some (.int .i64 (l.getD 0 0 : Nat)) := (B6.out.cell (p := ⟨b0, off0 + 0, none⟩) hb0).trans HC0.out
      have hlp : 0 < l.length := List.length_pos_iff.2 hbas.ne
      have hlp' : (0 : Int) < (l.length : Int) := by omega
      generalize l.getD 0 0 = l0 at *
      go_wp2_with fail
      refine (Size_any l0 _ h256).mono ?_
      rintro e w7 ⟨rfl, hb7⟩
      rw [HRK.out]
      have Y7 := hid (box_back Y6.out hb7 (by omega))
      have B7 := hid (B6.out.trans (hb7.mono B6.out.size))
      have hz7 := hb7.size
      replace P4 := hid (box_back P4.out hb7 (by omega))
      replace M4 := hid (M4.out.below hb7)
      replace P5 := hid (box_back P5.out hb7 (by omega))
      replace M5 := hid (M5.out.below hb7)
      replace P6 := hid (box_back P6.out hb7 (by omega))
      replace M6 := hid (M6.out.below hb7)
      clear hb7 x0 x1 hcl0 HC0 HRK
      obtain ⟨x0, x1⟩ := Y7.out
      have hcases : R = 0 ∨ R = 1 ∨ 2 ≤ R := by omega
      rcases hcases with rfl | rfl | hR2
      · have HT0 : Hid (∀ w v, Ints w v (N l) → Calls Try.prog 50 #[.agg #[.int .i64 m, v], .int .i64 0] w (GivesO w m tl)) := HTR.out
        go_wp2_with fail
        refine (HT0.out _ _ (HM.out _ B7.out)).mono ?_
        rintro e w8 ⟨r8, rfl, ho8, hb8'⟩
        obtain ⟨a8, cap8, hq8⟩ := ownsRow_form' ho8
        subst hq8
        have hp8 := ho8.ints (Nat.le_trans hl3 (by decide : 256 ≤ 17592186044416))
        have hk8' := below_box w8 #[.int .i64 (m : Nat), .slice a8 tl.length cap8]
        have hb8 := hb8'.trans (hk8'.mono hb8'.size)
        have hz8 := World.size_alloc w8 (.cells #[.int .i64 (m : Nat), .slice a8 tl.length cap8] 24)
        have hy8 := hb8'.size
        have Y8 := hid (box_back Y7.out hb8 (by omega))
        have B8 := hid (B7.out.trans (hb8.mono B7.out.size))
        replace P4 := hid (box_back P4.out hb8 (by omega))
        replace M4 := hid (M4.out.below hb8)
        replace P5 := hid (box_back P5.out hb8 (by omega))
        replace M5 := hid (M5.out.below hb8)
        replace P6 := hid (box_back P6.out hb8 (by omega))
        replace M6 := hid (M6.out.below hb8)
        have P8 := hid (box_cells (w := w8) (n := (m : Nat)) (u := .slice a8 tl.length cap8) (Below.refl _ _))
        have M8 := hid (hp8.below hk8')
        clear hb8 hb8' hk8' x0 x1 hp8 ho8
        obtain ⟨x0, x1⟩ := Y8.out
        obtain ⟨d0, d1⟩ := P5.out
        have SM1 := hid (SameMatroid_any (m : Int) (m : Int) _ _ (N l) (N l) _ M5.out (HM.out _ B8.out))
        rw [decide_eq_true (rfl : (m : Int) = m), decide_eq_true (rfl : N l = N l), Bool.and_true] at SM1
        go_wp2_with fail
        refine SM1.out.mono ?_
        rintro e w9 ⟨rfl, hb9⟩
        clear d0 d1
        have Y9 := hid (box_back Y8.out hb9 (by omega))
        have B9 := hid (B8.out.trans (hb9.mono B8.out.size))
        have hz9 := hb9.size
        replace P4 := hid (box_back P4.out hb9 (by omega))
        replace M4 := hid (M4.out.below hb9)
        replace P6 := hid (box_back P6.out hb9 (by omega))
        replace M6 := hid (M6.out.below hb9)
        replace P8 := hid (box_back P8.out hb9 (by omega))
        replace M8 := hid (M8.out.below hb9)
        clear hb9 x0 x1
        obtain ⟨x0, x1⟩ := Y9.out
        obtain ⟨f0, f1⟩ := P4.out
        go_wp2_with fail
        refine (CF.out _ _ M4.out).mono ?_
        rintro e w11 ⟨rfl, hb11⟩
        clear f0 f1
        have Y11 := hid (box_back Y9.out hb11 (by omega))
        have B11 := hid (B9.out.trans (hb11.mono B9.out.size))
        have hz11 := hb11.size
        clear hb11 x0 x1
        obtain ⟨x0, x1⟩ := Y11.out
        rcases hs : setB m s with _ | _
        · have RA := hid (Relax_arg m s _ l _ hm hfam hbas (HM.out _ B11.out) (setR_no hs))
          clear hs
          go_wp2_with fail
          refine RA.out.mono ?_
          rintro e w12 ⟨rfl, hb12⟩
          have hk12 := below_box w12 #[.int .i64 0, .slice none 0 0]
          have P12 := hid (box_cells (w := w12) (n := 0) (u := .slice none 0 0) (Below.refl _ _))
          have B12 := hid (B11.out.trans ((hb12.trans (hk12.mono hb12.size)).mono B11.out.size))
          obtain ⟨q0, q1⟩ := P12.out
          clear hb12 hk12
          go_wp2_with fail
          go_ret
          exact ⟨rfl, B12.out⟩
        · obtain ⟨sn, rfl, hsn⟩ := setB_nat hs
          rw [hT] at hsn
          clear hs
          rw [← hT] at hsn
          rcases hch : (cirB (rk l) sn && hypB (rk l) m sn) with _ | _
          · have RA := hid (Relax_shape m sn _ l _ hm hfam hbas (HM.out _ B11.out) hsn hch)
            clear hch
            go_wp2_with fail
            refine RA.out.mono ?_
            rintro e w12 ⟨rfl, hb12⟩
            have hk12 := below_box w12 #[.int .i64 0, .slice none 0 0]
            have P12 := hid (box_cells (w := w12) (n := 0) (u := .slice none 0 0) (Below.refl _ _))
            have B12 := hid (B11.out.trans ((hb12.trans (hk12.mono hb12.size)).mono B11.out.size))
            obtain ⟨q0, q1⟩ := P12.out
            clear hb12 hk12
            go_wp2_with fail
            go_ret
            exact ⟨rfl, B12.out⟩
          · rw [Bool.and_eq_true] at hch
            have RA := hid (Relax_ok m sn _ l _ hm hfam hbas (HM.out _ B11.out) (by intro a' L' c' e'; cases e'; exact HCP.out) hsn hch.1 hch.2)
            have IB := hid (ins_bas hm hfam hbas hsn hch.1 hch.2)
            have IL := hid (ins_len l sn)
            have CY := hid (fun w' v (h : Ints w' v (N (insL l sn))) => check_any (m : Nat) v (N (insL l sn)) w' h)
            rw [chk_mk hm IB.out.1 IB.out.2] at CY
            clear hch
            generalize insL l sn = yl at *
            go_wp2_with fail
            refine RA.out.mono ?_
            rintro e w12 ⟨r12, rfl, ho12, hb12'⟩
            obtain ⟨a12, cap12, hq12⟩ := ownsRow_form' ho12
            subst hq12
            have hp12 := ho12.ints (by rw [IL.out]; omega)
            have hk12 := below_box w12 #[.int .i64 (m : Nat), .slice a12 yl.length cap12]
            have hb12 := hb12'.trans (hk12.mono hb12'.size)
            have Y12 := hid (box_back Y11.out hb12 (by omega))
            have B12 := hid (B11.out.trans (hb12.mono B11.out.size))
            have hz12 := hb12.size
            have P12 := hid (box_cells (w := w12) (n := (m : Nat)) (u := .slice a12 yl.length cap12) (Below.refl _ _))
            have M12 := hid (hp12.below hk12)
            have hz12' := World.size_alloc w12 (.cells #[.int .i64 (m : Nat), .slice a12 yl.length cap12] 24)
            clear hb12 hb12' hk12 x0 x1 hp12 ho12
            obtain ⟨x0, x1⟩ := Y12.out
            obtain ⟨u0, u1⟩ := P12.out
            go_wp2_with fail
            refine (CY.out _ _ M12.out).mono ?_
            rintro e w13 ⟨rfl, hb13⟩
            have Y13 := hid (box_back Y12.out hb13 (by omega))
            have P13 := hid (box_back P12.out hb13 (by omega))
            have B13 := hid (B12.out.trans (hb13.mono B12.out.size))
            clear hb13 x0 x1 u0 u1
            obtain ⟨x0, x1⟩ := Y13.out
            obtain ⟨u0, u1⟩ := P13.out
            have hyl : (yl.length : Int) = (l.length : Int) + 1 := by rw [IL.out]; rfl
            go_wp2_with fail
            go_ret
            exact ⟨rfl, B13.out⟩
      · have HT0 : Hid (∀ w v, Ints w v (N l) → Calls Try.prog 50 #[.agg #[.int .i64 m, v], .int .i64 0] w (GivesO w m tl)) := HTR.out
        go_wp2_with fail
        refine (HT0.out _ _ (HM.out _ B7.out)).mono ?_
        rintro e w8 ⟨r8, rfl, ho8, hb8'⟩
        obtain ⟨a8, cap8, hq8⟩ := ownsRow_form' ho8
        subst hq8
        have hp8 := ho8.ints (Nat.le_trans hl3 (by decide : 256 ≤ 17592186044416))
        have hk8' := below_box w8 #[.int .i64 (m : Nat), .slice a8 tl.length cap8]
        have hb8 := hb8'.trans (hk8'.mono hb8'.size)
        have hz8 := World.size_alloc w8 (.cells #[.int .i64 (m : Nat), .slice a8 tl.length cap8] 24)
        have hy8 := hb8'.size
        have Y8 := hid (box_back Y7.out hb8 (by omega))
        have B8 := hid (B7.out.trans (hb8.mono B7.out.size))
        replace P4 := hid (box_back P4.out hb8 (by omega))
        replace M4 := hid (M4.out.below hb8)
        replace P5 := hid (box_back P5.out hb8 (by omega))
        replace M5 := hid (M5.out.below hb8)
        replace P6 := hid (box_back P6.out hb8 (by omega))
        replace M6 := hid (M6.out.below hb8)
        have P8 := hid (box_cells (w := w8) (n := (m : Nat)) (u := .slice a8 tl.length cap8) (Below.refl _ _))
        have M8 := hid (hp8.below hk8')
        clear hb8 hb8' hk8' x0 x1 hp8 ho8
        obtain ⟨x0, x1⟩ := Y8.out
        obtain ⟨d0, d1⟩ := P5.out
        have SM1 := hid (SameMatroid_any (m : Int) (m : Int) _ _ (N l) (N l) _ M5.out (HM.out _ B8.out))
        rw [decide_eq_true (rfl : (m : Int) = m), decide_eq_true (rfl : N l = N l), Bool.and_true] at SM1
        go_wp2_with fail
        refine SM1.out.mono ?_
        rintro e w9 ⟨rfl, hb9⟩
        clear d0 d1
        have Y9 := hid (box_back Y8.out hb9 (by omega))
        have B9 := hid (B8.out.trans (hb9.mono B8.out.size))
        have hz9 := hb9.size
        replace P4 := hid (box_back P4.out hb9 (by omega))
        replace M4 := hid (M4.out.below hb9)
        replace P6 := hid (box_back P6.out hb9 (by omega))
        replace M6 := hid (M6.out.below hb9)
        replace P8 := hid (box_back P8.out hb9 (by omega))
        replace M8 := hid (M8.out.below hb9)
        clear hb9 x0 x1
        obtain ⟨x0, x1⟩ := Y9.out
        have ECT : Hid (cl = tl) := HCT.out (by omega)
        obtain ⟨c0, c1⟩ := P6.out
        obtain ⟨t0, t1⟩ := P8.out
        have SM2 := hid (SameMatroid_any (m : Int) (m : Int) _ _ (N cl) (N tl) _ M6.out M8.out)
        rw [decide_eq_true (rfl : (m : Int) = m), decide_eq_true (show N cl = N tl by rw [ECT.out]), Bool.and_true] at SM2
        go_wp2_with fail
        refine SM2.out.mono ?_
        rintro e w10 ⟨rfl, hb10⟩
        clear c0 c1 t0 t1
        have Y10 := hid (box_back Y9.out hb10 (by omega))
        have B10 := hid (B9.out.trans (hb10.mono B9.out.size))
        have hz10 := hb10.size
        replace P4 := hid (box_back P4.out hb10 (by omega))
        replace M4 := hid (M4.out.below hb10)
        clear hb10 x0 x1
        obtain ⟨x0, x1⟩ := Y10.out
        obtain ⟨f0, f1⟩ := P4.out
        go_wp2_with fail
        refine (CF.out _ _ M4.out).mono ?_
        rintro e w11 ⟨rfl, hb11⟩
        clear f0 f1
        have Y11 := hid (box_back Y10.out hb11 (by omega))
        have B11 := hid (B10.out.trans (hb11.mono B10.out.size))
        have hz11 := hb11.size
        clear hb11 x0 x1
        obtain ⟨x0, x1⟩ := Y11.out
        rcases hs : setB m s with _ | _
        · have RA := hid (Relax_arg m s _ l _ hm hfam hbas (HM.out _ B11.out) (setR_no hs))
          clear hs
          go_wp2_with fail
          refine RA.out.mono ?_
          rintro e w12 ⟨rfl, hb12⟩
          have hk12 := below_box w12 #[.int .i64 0, .slice none 0 0]
          have P12 := hid (box_cells (w := w12) (n := 0) (u := .slice none 0 0) (Below.refl _ _))
          have B12 := hid (B11.out.trans ((hb12.trans (hk12.mono hb12.size)).mono B11.out.size))
          obtain ⟨q0, q1⟩ := P12.out
          clear hb12 hk12
          go_wp2_with fail
          go_ret
          exact ⟨rfl, B12.out⟩
        · obtain ⟨sn, rfl, hsn⟩ := setB_nat hs
          rw [hT] at hsn
          clear hs
          rw [← hT] at hsn
          rcases hch : (cirB (rk l) sn && hypB (rk l) m sn) with _ | _
          · have RA := hid (Relax_shape m sn _ l _ hm hfam hbas (HM.out _ B11.out) hsn hch)
            clear hch
            go_wp2_with fail
            refine RA.out.mono ?_
            rintro e w12 ⟨rfl, hb12⟩
            have hk12 := below_box w12 #[.int .i64 0, .slice none 0 0]
            have P12 := hid (box_cells (w := w12) (n := 0) (u := .slice none 0 0) (Below.refl _ _))
            have B12 := hid (B11.out.trans ((hb12.trans (hk12.mono hb12.size)).mono B11.out.size))
            obtain ⟨q0, q1⟩ := P12.out
            clear hb12 hk12
            go_wp2_with fail
            go_ret
            exact ⟨rfl, B12.out⟩
          · rw [Bool.and_eq_true] at hch
            have RA := hid (Relax_ok m sn _ l _ hm hfam hbas (HM.out _ B11.out) (by intro a' L' c' e'; cases e'; exact HCP.out) hsn hch.1 hch.2)
            have IB := hid (ins_bas hm hfam hbas hsn hch.1 hch.2)
            have IL := hid (ins_len l sn)
            have CY := hid (fun w' v (h : Ints w' v (N (insL l sn))) => check_any (m : Nat) v (N (insL l sn)) w' h)
            rw [chk_mk hm IB.out.1 IB.out.2] at CY
            clear hch
            generalize insL l sn = yl at *
            go_wp2_with fail
            refine RA.out.mono ?_
            rintro e w12 ⟨r12, rfl, ho12, hb12'⟩
            obtain ⟨a12, cap12, hq12⟩ := ownsRow_form' ho12
            subst hq12
            have hp12 := ho12.ints (by rw [IL.out]; omega)
            have hk12 := below_box w12 #[.int .i64 (m : Nat), .slice a12 yl.length cap12]
            have hb12 := hb12'.trans (hk12.mono hb12'.size)
            have Y12 := hid (box_back Y11.out hb12 (by omega))
            have B12 := hid (B11.out.trans (hb12.mono B11.out.size))
            have hz12 := hb12.size
            have P12 := hid (box_cells (w := w12) (n := (m : Nat)) (u := .slice a12 yl.length cap12) (Below.refl _ _))
            have M12 := hid (hp12.below hk12)
            have hz12' := World.size_alloc w12 (.cells #[.int .i64 (m : Nat), .slice a12 yl.length cap12] 24)
            clear hb12 hb12' hk12 x0 x1 hp12 ho12
            obtain ⟨x0, x1⟩ := Y12.out
            obtain ⟨u0, u1⟩ := P12.out
            go_wp2_with fail
            refine (CY.out _ _ M12.out).mono ?_
            rintro e w13 ⟨rfl, hb13⟩
            have Y13 := hid (box_back Y12.out hb13 (by omega))
            have P13 := hid (box_back P12.out hb13 (by omega))
            have B13 := hid (B12.out.trans (hb13.mono B12.out.size))
            clear hb13 x0 x1 u0 u1
            obtain ⟨x0, x1⟩ := Y13.out
            obtain ⟨u0, u1⟩ := P13.out
            have hyl : (yl.length : Int) = (l.length : Int) + 1 := by rw [IL.out]; rfl
            go_wp2_with fail
            go_ret
            exact ⟨rfl, B13.out⟩
      · have HT0 := hid HTR.out
        have hki : (R : Int) - 1 = ((R - 1 : Nat) : Int) := by omega
        have hk1 : (0 : Int) < ((R - 1 : Nat) : Int) := by omega
        have hk8 : ((R - 1 : Nat) : Int) ≤ 8 := by omega
        have hRp : (0 : Int) < (R : Int) := by omega
        go_wp2_with fail
        refine (HT0.out _ _ (HM.out _ B7.out)).mono ?_
        rintro e w8 ⟨r8, rfl, ho8, hb8'⟩
        obtain ⟨a8, cap8, hq8⟩ := ownsRow_form' ho8
        subst hq8
        have hp8 := ho8.ints (Nat.le_trans hl3 (by decide : 256 ≤ 17592186044416))
        have hk8' := below_box w8 #[.int .i64 (m : Nat), .slice a8 tl.length cap8]
        have hb8 := hb8'.trans (hk8'.mono hb8'.size)
        have hz8 := World.size_alloc w8 (.cells #[.int .i64 (m : Nat), .slice a8 tl.length cap8] 24)
        have hy8 := hb8'.size
        have Y8 := hid (box_back Y7.out hb8 (by omega))
        have B8 := hid (B7.out.trans (hb8.mono B7.out.size))
        replace P4 := hid (box_back P4.out hb8 (by omega))
        replace M4 := hid (M4.out.below hb8)
        replace P5 := hid (box_back P5.out hb8 (by omega))
        replace M5 := hid (M5.out.below hb8)
        replace P6 := hid (box_back P6.out hb8 (by omega))
        replace M6 := hid (M6.out.below hb8)
        have P8 := hid (box_cells (w := w8) (n := (m : Nat)) (u := .slice a8 tl.length cap8) (Below.refl _ _))
        have M8 := hid (hp8.below hk8')
        clear hb8 hb8' hk8' x0 x1 hp8 ho8
        obtain ⟨x0, x1⟩ := Y8.out
        obtain ⟨d0, d1⟩ := P5.out
        have SM1 := hid (SameMatroid_any (m : Int) (m : Int) _ _ (N l) (N l) _ M5.out (HM.out _ B8.out))
        rw [decide_eq_true (rfl : (m : Int) = m), decide_eq_true (rfl : N l = N l), Bool.and_true] at SM1
        go_wp2_with fail
        refine SM1.out.mono ?_
        rintro e w9 ⟨rfl, hb9⟩
        clear d0 d1
        have Y9 := hid (box_back Y8.out hb9 (by omega))
        have B9 := hid (B8.out.trans (hb9.mono B8.out.size))
        have hz9 := hb9.size
        replace P4 := hid (box_back P4.out hb9 (by omega))
        replace M4 := hid (M4.out.below hb9)
        replace P6 := hid (box_back P6.out hb9 (by omega))
        replace M6 := hid (M6.out.below hb9)
        replace P8 := hid (box_back P8.out hb9 (by omega))
        replace M8 := hid (M8.out.below hb9)
        clear hb9 x0 x1
        obtain ⟨x0, x1⟩ := Y9.out
        have ECT : Hid (cl = tl) := HCT.out (by omega)
        obtain ⟨c0, c1⟩ := P6.out
        obtain ⟨t0, t1⟩ := P8.out
        have SM2 := hid (SameMatroid_any (m : Int) (m : Int) _ _ (N cl) (N tl) _ M6.out M8.out)
        rw [decide_eq_true (rfl : (m : Int) = m), decide_eq_true (show N cl = N tl by rw [ECT.out]), Bool.and_true] at SM2
        go_wp2_with fail
        refine SM2.out.mono ?_
        rintro e w10 ⟨rfl, hb10⟩
        clear c0 c1 t0 t1
        have Y10 := hid (box_back Y9.out hb10 (by omega))
        have B10 := hid (B9.out.trans (hb10.mono B9.out.size))
        have hz10 := hb10.size
        replace P4 := hid (box_back P4.out hb10 (by omega))
        replace M4 := hid (M4.out.below hb10)
        clear hb10 x0 x1
        obtain ⟨x0, x1⟩ := Y10.out
        obtain ⟨f0, f1⟩ := P4.out
        go_wp2_with fail
        refine (CF.out _ _ M4.out).mono ?_
        rintro e w11 ⟨rfl, hb11⟩
        clear f0 f1
        have Y11 := hid (box_back Y10.out hb11 (by omega))
        have B11 := hid (B10.out.trans (hb11.mono B10.out.size))
        have hz11 := hb11.size
        clear hb11 x0 x1
        obtain ⟨x0, x1⟩ := Y11.out
        rcases hs : setB m s with _ | _
        · have RA := hid (Relax_arg m s _ l _ hm hfam hbas (HM.out _ B11.out) (setR_no hs))
          clear hs
          go_wp2_with fail
          refine RA.out.mono ?_
          rintro e w12 ⟨rfl, hb12⟩
          have hk12 := below_box w12 #[.int .i64 0, .slice none 0 0]
          have P12 := hid (box_cells (w := w12) (n := 0) (u := .slice none 0 0) (Below.refl _ _))
          have B12 := hid (B11.out.trans ((hb12.trans (hk12.mono hb12.size)).mono B11.out.size))
          obtain ⟨q0, q1⟩ := P12.out
          clear hb12 hk12
          go_wp2_with fail
          go_ret
          exact ⟨rfl, B12.out⟩
        · obtain ⟨sn, rfl, hsn⟩ := setB_nat hs
          rw [hT] at hsn
          clear hs
          rw [← hT] at hsn
          rcases hch : (cirB (rk l) sn && hypB (rk l) m sn) with _ | _
          · have RA := hid (Relax_shape m sn _ l _ hm hfam hbas (HM.out _ B11.out) hsn hch)
            clear hch
            go_wp2_with fail
            refine RA.out.mono ?_
            rintro e w12 ⟨rfl, hb12⟩
            have hk12 := below_box w12 #[.int .i64 0, .slice none 0 0]
            have P12 := hid (box_cells (w := w12) (n := 0) (u := .slice none 0 0) (Below.refl _ _))
            have B12 := hid (B11.out.trans ((hb12.trans (hk12.mono hb12.size)).mono B11.out.size))
            obtain ⟨q0, q1⟩ := P12.out
            clear hb12 hk12
            go_wp2_with fail
            go_ret
            exact ⟨rfl, B12.out⟩
          · rw [Bool.and_eq_true] at hch
            have RA := hid (Relax_ok m sn _ l _ hm hfam hbas (HM.out _ B11.out) (by intro a' L' c' e'; cases e'; exact HCP.out) hsn hch.1 hch.2)
            have IB := hid (ins_bas hm hfam hbas hsn hch.1 hch.2)
            have IL := hid (ins_len l sn)
            have CY := hid (fun w' v (h : Ints w' v (N (insL l sn))) => check_any (m : Nat) v (N (insL l sn)) w' h)
            rw [chk_mk hm IB.out.1 IB.out.2] at CY
            clear hch
            generalize insL l sn = yl at *
            go_wp2_with fail
            refine RA.out.mono ?_
            rintro e w12 ⟨r12, rfl, ho12, hb12'⟩
            obtain ⟨a12, cap12, hq12⟩ := ownsRow_form' ho12
            subst hq12
            have hp12 := ho12.ints (by rw [IL.out]; omega)
            have hk12 := below_box w12 #[.int .i64 (m : Nat), .slice a12 yl.length cap12]
            have hb12 := hb12'.trans (hk12.mono hb12'.size)
            have Y12 := hid (box_back Y11.out hb12 (by omega))
            have B12 := hid (B11.out.trans (hb12.mono B11.out.size))
            have hz12 := hb12.size
            have P12 := hid (box_cells (w := w12) (n := (m : Nat)) (u := .slice a12 yl.length cap12) (Below.refl _ _))
            have M12 := hid (hp12.below hk12)
            have hz12' := World.size_alloc w12 (.cells #[.int .i64 (m : Nat), .slice a12 yl.length cap12] 24)
            clear hb12 hb12' hk12 x0 x1 hp12 ho12
            obtain ⟨x0, x1⟩ := Y12.out
            obtain ⟨u0, u1⟩ := P12.out
            go_wp2_with fail
            refine (CY.out _ _ M12.out).mono ?_
            rintro e w13 ⟨rfl, hb13⟩
            have Y13 := hid (box_back Y12.out hb13 (by omega))
            have P13 := hid (box_back P12.out hb13 (by omega))
            have B13 := hid (B12.out.trans (hb13.mono B12.out.size))
            clear hb13 x0 x1 u0 u1
            obtain ⟨x0, x1⟩ := Y13.out
            obtain ⟨u0, u1⟩ := P13.out
            have hyl : (yl.length : Int) = (l.length : Int) + 1 := by rw [IL.out]; rfl
            go_wp2_with fail
            go_ret
            exact ⟨rfl, B13.out⟩
  · have hc' : (chkR n zs == 0) = false := by rw [beq_eq_false_iff_ne]; exact hc
    have FB := hid (Free_bad n _ zs _ (HI.out.below B3.out) hc)
    generalize chkR n zs = q at *
    go_wp2_with fail
    refine FB.out.mono ?_
    rintro e w3 ⟨rfl, hb3⟩
    have hk3 := below_box w3 #[.int .i64 0, .slice none 0 0]
    have P3 := hid (box_cells (w := w3) (n := 0) (u := .slice none 0 0) (Below.refl _ _))
    have B4 := hid (B3.out.trans ((hb3.trans (hk3.mono hb3.size)).mono B3.out.size))
    obtain ⟨q0, q1⟩ := P3.out
    clear hb3 hk3
    go_wp2_with fail
    go_ret
    exact ⟨rfl, B4.out⟩
end Go.Proofs.Ythbldeloocmakaa
