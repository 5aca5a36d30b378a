/- The walk of the law MinorsDual. -/
import Derived.Test.YthbldeloocmakaaDualQ
import Derived.Test.YthbldeloocmakaaDelConQ
import Derived.Deep.CutRange
namespace Go.Proofs.Ythbldeloocmakaa
open Go.RowKit

theorem two_dual : cmp 4 twoL = twoL := by decide +kernel
theorem setR_cases (m : Nat) (s : Int) : setR m s = 1 ∨ ∃ k : Nat, s = k ∧ k < 2 ^ m := by
  unfold setR
  have e : ((2 ^ m : Nat) : Int) = (2 : Int) ^ m := by simp
  by_cases h : 0 ≤ s ∧ s < (2 : Int) ^ m
  · obtain ⟨k, rfl⟩ := Int.eq_ofNat_of_zero_le h.1
    exact .inr ⟨k, rfl, by omega⟩
  · refine .inl (if_neg fun h2 => h ?_)
    rw [Int.toNat_natCast] at h2
    exact ⟨h2.2.2.1, h2.2.2.2⟩
theorem All_nat (n : Nat) (w : World) (hn : n ≤ 8) : Calls Try.prog 42 #[.int .i64 n] w fun e w' => e = .returned (.int .i64 (2 ^ n - 1 : Nat)) ∧ w' = w := by
  obtain ⟨T, HT, hT2, hT, hT0⟩ : ∃ T : Nat, Hid (T = 2 ^ n) ∧ T ≤ 256 ∧ wrap64 (2 ^ n) = (T : Int) ∧ 1 ≤ T := ⟨2 ^ n, rfl, (pow_wrap _ hn).2, (pow_wrap _ hn).1, Nat.one_le_two_pow⟩
  rw [← HT.out]
  have hti : (T : Int) - 1 = ((T - 1 : Nat) : Int) := by omega
  go_enter Try.func42, Try.ntmps42
  go_wp2
  go_ret
  exact ⟨rfl, rfl⟩
theorem cmp_getD {n : Nat} {l : List Nat} (hf : Fam n l) {k : Nat} (hk : k < l.length) : (cmp n l).getD k 0 < 2 ^ n ∧ l.getD (l.length - 1 - k) 0 = dif (2 ^ n - 1) ((cmp n l).getD k 0) := by
  have h1 : l.length - 1 - k < l.length := by omega
  have e : (cmp n l).getD k 0 = 2 ^ n - 1 - l.getD (l.length - 1 - k) 0 := by
    unfold cmp
    simp only [List.getD, List.getElem?_map, List.getElem?_reverse hk, List.getElem?_eq_getElem h1, Option.map_some, Option.getD_some]
  have h2 : l.getD (l.length - 1 - k) 0 < 2 ^ n := by
    simp only [List.getD, List.getElem?_eq_getElem h1, Option.getD_some]
    exact hf.lt _ (List.getElem_mem _)
  rw [e]
  refine ⟨cpl_lt, ?_⟩
  rw [dif_cpl cpl_lt, cpl_cpl h2]
theorem box_back {w w1 : World} {B : Nat} {x y : Value} (hx : w.cell? ⟨B, 0, none⟩ = some x ∧ w.cell? ⟨B, 1, none⟩ = some y) (hb : Below w.heap.size w w1) (hB : B < w.heap.size) : w1.cell? ⟨B, 0, none⟩ = some x ∧ w1.cell? ⟨B, 1, none⟩ = some y :=
  ⟨(hb.cell (p := ⟨B, 0, none⟩) hB).trans hx.1, (hb.cell (p := ⟨B, 1, none⟩) hB).trans hx.2⟩

set_option maxRecDepth 20000 in
set_option maxHeartbeats 4000000 in
theorem dual_law (n : Int) (v : Value) (zs : List Int) (s : Int) (w : World) (h : Ints w v zs) :
    Calls Try.prog 7 #[.agg #[.int .i64 n, v], .int .i64 s] w fun e w' => e = .returned (.bool true) ∧ Below w.heap.size w w' := by
  have HI := hid h
  obtain ⟨a, cap, rfl, _, _⟩ := h
  have T2 := hid (fun w v (h : Ints w v (N twoL)) => Dual_ok 4 v twoL w (by omega) two_fam two_bas h)
  rw [two_dual] at T2
  go_enter Try.func7, Try.ntmps7
  go_wp2_with fail
  refine (two_any _).mono ?_
  rintro e w1 ⟨v2, rfl, hv2, hb1⟩
  have X1 := hid (box_cells hb1)
  have B1 := hid ((below_box w #[.int .i64 n, .slice a zs.length cap]).trans (hb1.mono (below_box w #[.int .i64 n, .slice a zs.length cap]).size))
  have S1 : w.heap.size + 1 ≤ w1.heap.size := by have := hb1.size; simpa using this
  have C2 := hid (T2.out _ _ hv2)
  obtain ⟨a2, cap2, rfl, _, _⟩ := hv2
  clear hb1
  go_wp2_with fail
  refine C2.out.mono ?_
  rintro e w2 ⟨r2, rfl, hr2, hb2⟩
  have X2 := hid (box_back X1.out hb2 (by omega))
  have B2 := hid (B1.out.trans (hb2.mono B1.out.size))
  have S2 : w.heap.size + 1 ≤ w2.heap.size := Nat.le_trans S1 hb2.size
  have I2 := hid (hr2.ints (by decide))
  obtain ⟨fa, fcap, hr2'⟩ := ownsRow_form' hr2
  subst hr2'
  have hk2 := below_box w2 #[.int .i64 4, .slice fa twoL.length fcap]
  have P2 := hid (box_cells (w := w2) (n := 4) (u := .slice fa twoL.length fcap) (Below.refl _ _))
  have X3 := hid (box_back X2.out hk2 (by omega))
  have B3 := hid (B2.out.trans (hk2.mono B2.out.size))
  have I3 := hid (I2.out.below hk2)
  obtain ⟨p0, p1⟩ := P2.out
  obtain ⟨x0, x1⟩ := X3.out
  clear hb2 T2 C2 X1 X2 hk2 hr2
  go_wp2_with fail
  have S3 : w2.heap.size < (w2.alloc (.cells #[.int .i64 4, .slice fa twoL.length fcap] 24)).heap.size := by rw [World.size_alloc]; omega
  go_region_held3 (fun w' => w'.cell? ⟨w2.heap.size, 0, none⟩ = some (.int .i64 4) ∧ w'.cell? ⟨w2.heap.size, 1, none⟩ = some (.slice fa twoL.length fcap)) (go_keep)
   (first
    | (go_at_call 39; refine (two_any _).mono ?_; rintro e w4 ⟨v4, rfl, hv4, hb4'⟩; have hb4 := (Below.refl (w2.alloc (.cells #[.int .i64 4, .slice fa twoL.length fcap] 24)).heap.size (w2.alloc (.cells #[.int .i64 4, .slice fa twoL.length fcap] 24))).drew.trans hb4'; obtain ⟨q0, q1⟩ := box_back P2.out hb4 S3; have HB4 := hid hb4; have SM := hid (SameMatroid_any 4 4 _ _ (N twoL) (N twoL) w4 (I3.out.below hb4) hv4); obtain ⟨a4, cap4, rfl, _, _⟩ := hv4; clear hb4 hb4')
    | (go_at_call 41; refine SM.out.mono ?_; rintro e w5 ⟨rfl, hb5'⟩; have hb5 := HB4.out.trans (hb5'.mono HB4.out.size); obtain ⟨q2, q3⟩ := box_back P2.out hb5 S3; have HB5 := hid hb5; clear hb5 hb5'))
  have X5 := hid (box_back X3.out HB5.out (by omega))
  have B5 := hid (B3.out.trans (HB5.out.mono B3.out.size))
  have S5 : w.heap.size + 1 ≤ w5.heap.size := by have := HB5.out.size; omega
  clear p0 p1 x0 x1 P2 X3 I2 I3 SM
  obtain ⟨x0, x1⟩ := X5.out
  by_cases hc : chkR n zs = 0
  · obtain ⟨m, l, rfl, hm, rfl, hfam, hbas⟩ := chk_of hc
    clear hc
    have HM := hid (fun w' (hb : Below w.heap.size w w') => HI.out.below hb)
    rw [N_len] at *
    go_wp2_with fail
    have FD := hid (cmp_fam hfam)
    have AD := hid (dual_bas hm hfam hbas)
    have CC := hid (cmp_cmp hfam)
    have DC := hid (dual_cir hm hfam hbas)
    have G0 := hid (Nat.le_trans (fam_len hm hfam) (by decide : 256 ≤ 17592186044416))
    have GD := hid (Nat.le_trans (fam_len hm FD.out) (by decide : 256 ≤ 17592186044416))
    have K1 := hid (fun w' (hb : Below w.heap.size w w') => Dual_ok m _ l w' hm hfam hbas (HM.out _ hb))
    have K2 := hid (fun w' v (h : Ints w' v (N (cmp m l))) => Dual_ok m v _ w' hm FD.out AD.out h)
    have K3 := hid (fun w' v (h : Ints w' v (N (cmp m l))) => Circuits_ok m v _ w' hm FD.out AD.out h)
    have K4 := hid (fun w' (hb : Below w.heap.size w w') => Hyperplanes_ok m _ l w' hm hfam hbas (HM.out _ hb))
    rw [CC.out] at K2
    rw [show (List.range (2 ^ m)).filter (cirB (rk (cmp m l))) = cirL m (cmp m l) from rfl, DC.out] at K3
    have FH : Hid (Fam m ((List.range (2 ^ m)).filter (hypB (rk l) m))) := Fam.range m _
    have DM := hid (fun (s' : Nat) (hs : s' < 2 ^ m) => dual_min hm hfam hbas hs)
    have K5 := hid (fun (s' : Nat) (hs : s' < 2 ^ m) w' v (h : Ints w' v (N (cmp m l))) => Delete_ok m s' v _ w' hm FD.out AD.out h hs)
    have K6 := hid (fun (s' : Nat) (hs : s' < 2 ^ m) w' (hb : Below w.heap.size w w') => Contract_ok m s' _ l w' hm hfam hbas (HM.out _ hb) hs)
    have K7 := hid (fun (s' : Nat) w' v (h : Ints w' v (N (minL m l s' s'))) => Dual_ok (pop (dif (2 ^ m - 1) s')) v _ w' (kept_le hm s') (min_fam m l s' s') (min_bas hm hbas s' s') h)
    have K8 := hid (fun (hs : setR m s = 1) w' v (h : Ints w' v (N (cmp m l))) => Delete_arg m s v _ w' hm FD.out AD.out h hs)
    have K9 := hid (fun (hs : setR m s = 1) w' (hb : Below w.heap.size w w') => Contract_arg m s _ l w' hm hfam hbas (HM.out _ hb) hs)
    have GM := hid (fun (s' : Nat) => Nat.le_trans (fam_len (kept_le hm s') (min_fam m l s' s')) (by decide : 256 ≤ 17592186044416))
    have GN := hid (fun (s' : Nat) => Nat.le_trans (fam_len (kept_le hm s') (cmp_fam (min_fam m l s' s'))) (by decide : 256 ≤ 17592186044416))
    generalize (List.range (2 ^ m)).filter (hypB (rk l) m) = hl at *
    have FC := hid (cmp_fam FH.out)
    have GH := hid (Nat.le_trans (fam_len hm FH.out) (by decide : 256 ≤ 17592186044416))
    have GC := hid (Nat.le_trans (fam_len hm FC.out) (by decide : 256 ≤ 17592186044416))
    have LC := hid (cmp_len m hl)
    have GV := hid (fun k (hk : k < hl.length) => cmp_getD (n := m) FH.out hk)
    generalize cmp m hl = cl2 at *
    generalize cmp m l = dl at *
    refine (K1.out _ B5.out).mono ?_
    rintro e w6 ⟨r6, rfl, ho6, hb6'⟩
    obtain ⟨a6, cap6, hq6⟩ := ownsRow_form' ho6
    subst hq6
    have hp6 := ho6.ints GD.out
    have hk6 := below_box w6 #[.int .i64 (m : Nat), .slice a6 dl.length cap6]
    have hb6 := hb6'.trans (hk6.mono hb6'.size)
    have hz6 := World.size_alloc w6 (.cells #[.int .i64 (m : Nat), .slice a6 dl.length cap6] 24)
    have hy6 := hb6'.size
    have X6 := hid (box_back X5.out hb6 (by omega))
    have B6 := hid (B5.out.trans (hb6.mono B5.out.size))
    have P6 := hid (box_cells (w := w6) (n := (m : Nat)) (u := .slice a6 dl.length cap6) (Below.refl _ _))
    have M6 := hid (hp6.below hk6)
    clear hb6 hb6' hk6 x0 x1 X5 hp6 ho6
    obtain ⟨x0, x1⟩ := X6.out
    obtain ⟨y0, y1⟩ := P6.out
    go_wp2_with fail
    refine (K2.out _ _ M6.out).mono ?_
    rintro e w7 ⟨r7, rfl, ho7, hb7'⟩
    obtain ⟨a7, cap7, hq7⟩ := ownsRow_form' ho7
    subst hq7
    have hp7 := ho7.ints G0.out
    have hk7 := below_box w7 #[.int .i64 (m : Nat), .slice a7 l.length cap7]
    have hb7 := hb7'.trans (hk7.mono hb7'.size)
    have hz7 := World.size_alloc w7 (.cells #[.int .i64 (m : Nat), .slice a7 l.length cap7] 24)
    have hy7 := hb7'.size
    have X7 := hid (box_back X6.out hb7 (by omega))
    have B7 := hid (B6.out.trans (hb7.mono B6.out.size))
    replace P6 := hid (box_back P6.out hb7 (by omega))
    replace M6 := hid (M6.out.below hb7)
    have P7 := hid (box_cells (w := w7) (n := (m : Nat)) (u := .slice a7 l.length cap7) (Below.refl _ _))
    have M7 := hid (hp7.below hk7)
    clear hb7 hb7' hk7 x0 x1 X6 hp7 ho7
    obtain ⟨x0, x1⟩ := X7.out
    clear y0 y1
    obtain ⟨y0, y1⟩ := P6.out
    go_wp2_with fail
    refine (K3.out _ _ M6.out).mono ?_
    rintro e w8 ⟨r8, rfl, ho8, hb8'⟩
    obtain ⟨a8, cap8, hq8⟩ := ownsRow_form' ho8
    subst hq8
    have hp8 := ho8.ints GC.out
    have hb8 := hb8'
    have hy8 := hb8'.size
    have X8 := hid (box_back X7.out hb8 (by omega))
    have B8 := hid (B7.out.trans (hb8.mono B7.out.size))
    replace P6 := hid (box_back P6.out hb8 (by omega))
    replace P7 := hid (box_back P7.out hb8 (by omega))
    replace M6 := hid (M6.out.below hb8)
    replace M7 := hid (M7.out.below hb8)
    have M8 := hid hp8
    clear hb8 hb8' x0 x1 X7 hp8 ho8
    obtain ⟨x0, x1⟩ := X8.out
    clear y0 y1
    obtain ⟨y0, y1⟩ := P6.out
    go_wp2_with fail
    refine (K4.out _ B8.out).mono ?_
    rintro e w9 ⟨r9, rfl, ho9, hb9'⟩
    obtain ⟨a9, cap9, hq9⟩ := ownsRow_form' ho9
    subst hq9
    have hp9 := ho9.ints GH.out
    have hb9 := hb9'
    have hy9 := hb9'.size
    have X9 := hid (box_back X8.out hb9 (by omega))
    have B9 := hid (B8.out.trans (hb9.mono B8.out.size))
    replace P6 := hid (box_back P6.out hb9 (by omega))
    replace P7 := hid (box_back P7.out hb9 (by omega))
    replace M6 := hid (M6.out.below hb9)
    replace M7 := hid (M7.out.below hb9)
    replace M8 := hid (M8.out.below hb9)
    have M9 := hid hp9
    clear hb9 hb9' x0 x1 X8 hp9 ho9
    obtain ⟨x0, x1⟩ := X9.out
    clear y0 y1
    obtain ⟨y0, y1⟩ := P6.out
    obtain ⟨z0, z1⟩ := P7.out
    go_wp2_with fail
    have SM := hid (SameMatroid_any m m _ _ (N l) (N l) w9 M7.out (HM.out _ B9.out))
    rw [show (decide ((m : Int) = m) && decide (N l = N l)) = true by simp] at SM
    have hne : ((cl2.length : Int) != (hl.length : Int)) = false := by rw [LC.out]; simp
    refine SM.out.mono ?_
    rintro e w10 ⟨rfl, hb10⟩
    have X10 := hid (box_back X9.out hb10 (by omega))
    have B10 := hid (B9.out.trans (hb10.mono B9.out.size))
    have P6' := hid (box_back P6.out hb10 (by omega))
    have M6' := hid (M6.out.below hb10)
    have M8' := hid (M8.out.below hb10)
    have M9' := hid (M9.out.below hb10)
    have S10 : w.heap.size + 1 ≤ w10.heap.size := by have := hb10.size; omega
    have S6 : w6.heap.size < w10.heap.size := by have := hb10.size; omega
    clear hb10 x0 x1 y0 y1 z0 z1 X9 P6 M6 M7 M8 M9 P7 SM
    obtain ⟨x0, x1⟩ := X10.out
    go_wp2_with fail
    have AL := hid (fun w => All_nat m w hm)
    have fm8 : 2 ^ m - 1 < 256 := lt256 hm (full_lt m)
    generalize hfm : 2 ^ m - 1 = fm at *
    clear hfm
    go_loopw [83] (fun i wr => ∃ k : Nat, k ≤ cl2.length ∧ i = .int .i64 k ∧ Hid (Below w10.heap.size w10 wr)) (fun i _ => cl2.length - (intOf i).toNat)
    case atStart => exact ⟨0, Nat.zero_le _, rfl, Below.refl _ _⟩
    case round =>
      obtain ⟨k, hk, rfl, HB⟩ := hrel
      by_cases hlt : k < cl2.length
      · have hlh : k < hl.length := by have := LC.out; omega
        obtain ⟨hv1, hv2⟩ := GV.out k hlh
        obtain ⟨a8', cap8', e8, _, h8⟩ := (M8'.out.below HB.out).nats
        obtain ⟨a9', cap9', e9, _, h9⟩ := (M9'.out.below HB.out).nats
        obtain ⟨rfl, rfl⟩ : a8 = a8' ∧ cap8 = cap8' := by simpa using e8
        obtain ⟨rfl, rfl⟩ : a9 = a9' ∧ cap9 = cap9' := by simpa using e9
        obtain ⟨b8, off8, rfl, _, hc8⟩ := h8 (by omega)
        obtain ⟨b9, off9, rfl, _, hc9⟩ := h9 (by omega)
        have c8 := hc8 k hlt
        have c9 := hc9 (hl.length - 1 - k) (by omega)
        obtain ⟨j, hj⟩ : ∃ j : Nat, hl.length - 1 - k = j := ⟨_, rfl⟩
        have hji : ((hl.length : Int) - 1 - (k : Int)) = (j : Int) := by omega
        have hjl : j < hl.length := by omega
        rw [hj] at c9 hv2
        have x0' := (HB.out.cell (p := ⟨w.heap.size, 0, none⟩) (by show w.heap.size < _; omega)).trans x0
        have hx8 : cl2.getD k 0 < 256 := lt256 hm hv1
        generalize cl2.getD k 0 = x at *
        rw [hv2] at c9
        have hand : bits .andNot .i64 (fm : Int) (x : Int) = ((dif fm x : Nat) : Int) := i64_andNot_nat fm x (by omega) (by omega)
        have hself : (((dif fm x : Nat) : Int) != ((dif fm x : Nat) : Int)) = false := by simp
        clear hv1 hv2 e8 e9 h8 h9 hc8 hc9 hj
        generalize dif fm x = y at *
        go_wp2_with fail
        go_quiet ((go_at_call 42; refine (AL.out _).mono ?_; rintro e w' ⟨rfl, rfl⟩; exact ⟨rfl, _, rfl⟩))
        go_wp2_with fail
        go_roundw
        case rel => exact ⟨k + 1, by omega, by go_num, below_drewN HB.out _⟩
        case measure => simp [intOf]; omega
      · obtain rfl : k = cl2.length := by omega
        have X11 := hid (box_back X10.out HB.out (by omega))
        have B11 := hid (B10.out.trans (HB.out.mono B10.out.size))
        have P6 := hid (box_back P6'.out HB.out S6)
        have M6 := hid (M6'.out.below HB.out)
        have S11 : w.heap.size + 1 ≤ wr.heap.size := by have := HB.out.size; omega
        clear x0 x1 X10 P6' M6' M8' M9' HB
        obtain ⟨x0, x1⟩ := X11.out
        obtain ⟨y0, y1⟩ := P6.out
        go_wp2_with fail
        rcases setR_cases m s with hs | ⟨sn, rfl, hsn⟩
        · refine (K8.out hs _ _ M6.out).mono ?_
          rintro e w12 ⟨rfl, hb12'⟩
          have hk12 := below_box w12 #[.int .i64 0, .slice none 0 0]
          have hb12 := hb12'.trans (hk12.mono hb12'.size)
          have hz12 := World.size_alloc w12 (.cells #[.int .i64 0, .slice none 0 0] 24)
          have hy12 := hb12'.size
          have X12 := hid (box_back X11.out hb12 (by omega))
          have B12 := hid (B11.out.trans (hb12.mono B11.out.size))
          have P12 := hid (box_cells (w := w12) (n := 0) (u := .slice none 0 0) (Below.refl _ _))
          clear hb12 hb12' hk12 x0 x1 y0 y1 X11
          obtain ⟨x0, x1⟩ := X12.out
          go_wp2_with fail
          refine (K9.out hs _ B12.out).mono ?_
          rintro e w13 ⟨rfl, hb13'⟩
          have hk13 := below_box w13 #[.int .i64 0, .slice none 0 0]
          have hb13 := hb13'.trans (hk13.mono hb13'.size)
          have B13 := hid (B12.out.trans (hb13.mono B12.out.size))
          replace P12 := hid (box_back P12.out hb13 (by omega))
          have P13 := hid (box_cells (w := w13) (n := 0) (u := .slice none 0 0) (Below.refl _ _))
          obtain ⟨p0, p1⟩ := P12.out
          obtain ⟨q0, q1⟩ := P13.out
          clear hb13 hb13' hk13 x0 x1
          go_wp2_with fail
          go_ret
          exact ⟨rfl, B13.out⟩
        · have E := hid (DM.out sn hsn)
          have K5' := hid (K5.out sn hsn)
          have K6' := hid (K6.out sn hsn)
          have K7' := hid (K7.out sn)
          have GM' := hid (GM.out sn)
          have GN' := hid (GN.out sn)
          clear K5 K6 K7 K8 K9 GM GN DM
          generalize pop (dif fm sn) = n2 at *
          rw [E.out] at K5'
          generalize minL m l sn sn = l2 at *
          generalize cmp n2 l2 = l3 at *
          refine (K5'.out _ _ M6.out).mono ?_
          rintro e w12 ⟨r12, rfl, ho12, hb12'⟩
          obtain ⟨a12, cap12, hq12⟩ := ownsRow_form' ho12
          subst hq12
          have hp12 := ho12.ints GN'.out
          have hk12 := below_box w12 #[.int .i64 (n2 : Nat), .slice a12 l3.length cap12]
          have hb12 := hb12'.trans (hk12.mono hb12'.size)
          have hz12 := World.size_alloc w12 (.cells #[.int .i64 (n2 : Nat), .slice a12 l3.length cap12] 24)
          have hy12 := hb12'.size
          have X12 := hid (box_back X11.out hb12 (by omega))
          have B12 := hid (B11.out.trans (hb12.mono B11.out.size))
          have P12 := hid (box_cells (w := w12) (n := (n2 : Nat)) (u := .slice a12 l3.length cap12) (Below.refl _ _))
          have M12 := hid (hp12.below hk12)
          clear hb12 hb12' hk12 x0 x1 X11 hp12 ho12
          obtain ⟨x0, x1⟩ := X12.out
          clear y0 y1
          go_wp2_with fail
          refine (K6'.out _ B12.out).mono ?_
          rintro e w13 ⟨r13, rfl, ho13, hb13'⟩
          obtain ⟨a13, cap13, hq13⟩ := ownsRow_form' ho13
          subst hq13
          have hp13 := ho13.ints GM'.out
          have hk13 := below_box w13 #[.int .i64 (n2 : Nat), .slice a13 l2.length cap13]
          have hb13 := hb13'.trans (hk13.mono hb13'.size)
          have hz13 := World.size_alloc w13 (.cells #[.int .i64 (n2 : Nat), .slice a13 l2.length cap13] 24)
          have hy13 := hb13'.size
          have X13 := hid (box_back X12.out hb13 (by omega))
          have B13 := hid (B12.out.trans (hb13.mono B12.out.size))
          replace P12 := hid (box_back P12.out hb13 (by omega))
          replace M12 := hid (M12.out.below hb13)
          have P13 := hid (box_cells (w := w13) (n := (n2 : Nat)) (u := .slice a13 l2.length cap13) (Below.refl _ _))
          have M13 := hid (hp13.below hk13)
          clear hb13 hb13' hk13 x0 x1 X12 hp13 ho13
          obtain ⟨x0, x1⟩ := X13.out
          obtain ⟨y0, y1⟩ := P13.out
          go_wp2_with fail
          refine (K7'.out _ _ M13.out).mono ?_
          rintro e w14 ⟨r14, rfl, ho14, hb14'⟩
          obtain ⟨a14, cap14, hq14⟩ := ownsRow_form' ho14
          subst hq14
          have hp14 := ho14.ints GN'.out
          have hk14 := below_box w14 #[.int .i64 (n2 : Nat), .slice a14 l3.length cap14]
          have hb14 := hb14'.trans (hk14.mono hb14'.size)
          have hz14 := World.size_alloc w14 (.cells #[.int .i64 (n2 : Nat), .slice a14 l3.length cap14] 24)
          have hy14 := hb14'.size
          have X14 := hid (box_back X13.out hb14 (by omega))
          have B14 := hid (B13.out.trans (hb14.mono B13.out.size))
          replace P12 := hid (box_back P12.out hb14 (by omega))
          replace M12 := hid (M12.out.below hb14)
          have P14 := hid (box_cells (w := w14) (n := (n2 : Nat)) (u := .slice a14 l3.length cap14) (Below.refl _ _))
          have M14 := hid (hp14.below hk14)
          clear hb14 hb14' hk14 x0 x1 X13 hp14 ho14
          obtain ⟨x0, x1⟩ := X14.out
          clear y0 y1
          obtain ⟨y0, y1⟩ := P12.out
          obtain ⟨z0, z1⟩ := P14.out
          have SM := hid (SameMatroid_any n2 n2 _ _ (N l3) (N l3) _ M12.out M14.out)
          rw [show (decide ((n2 : Int) = n2) && decide (N l3 = N l3)) = true by simp] at SM
          go_wp2_with fail
          refine SM.out.mono ?_
          rintro e w15 ⟨rfl, hb15⟩
          have B15 := hid (B14.out.trans (hb15.mono B14.out.size))
          clear hb15
          go_wp2_with fail
          go_ret
          exact ⟨rfl, B15.out⟩
  · have DB := hid (Dual_bad n _ zs w5 (HI.out.below B5.out) hc)
    have hc' : (chkR n zs == 0) = false := by rw [beq_eq_false_iff_ne]; exact hc
    generalize chkR n zs = q at *
    go_wp2_with fail
    refine DB.out.mono ?_
    rintro e w6 ⟨rfl, hb6⟩
    have hk6 := below_box w6 #[.int .i64 0, .slice none 0 0]
    have B6 := hid (B5.out.trans ((hb6.trans (hk6.mono hb6.size)).mono B5.out.size))
    obtain ⟨z0, z1⟩ := box_cells (w := w6) (n := 0) (u := .slice none 0 0) (Below.refl _ _)
    clear hb6 hk6
    go_wp2_with fail
    go_ret
    exact ⟨rfl, B6.out⟩
end Go.Proofs.Ythbldeloocmakaa
