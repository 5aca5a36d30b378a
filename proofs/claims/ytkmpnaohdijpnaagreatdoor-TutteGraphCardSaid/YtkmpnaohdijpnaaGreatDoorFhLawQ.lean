/- rotakeep.TutteGraph. -/
import Derived.Test.YtkmpnaohdijpnaaGreatDoorFhCQ
import Derived.Test.YtkmpnaohdijpnaaGreatDoorBgVQ
import Derived.Test.YtkmpnaohdijpnaaGreatDoorFgBQ
import Derived.Test.YtkmpnaohdijpnaaGreatDoorTvCQ
import Derived.Test.YtkmpnaohdijpnaaGreatDoorItAQ
import Derived.Lib.AppendIntMem
import Derived.Deep.RegionHeld3
import Derived.Deep.CutRange
namespace Go.Proofs.YtkmpnaohdijpnaaGreatDoor
open Go.RowKit

set_option maxRecDepth 20000 in
set_option maxHeartbeats 16000000 in
theorem tgraph_law (n : Int) (v : Value) (F : List (Int × Int)) (k : Int) (w : World) (h : EdgesI w v F) (hk : -9223372036854775808 ≤ k ∧ k ≤ 9223372036854775807) (hw : Pow10 w) :
    Calls Tryz.prog 3 #[.agg #[.int .i64 n, v], .int .i64 k] w fun e w' => e = .returned (.bool true) ∧ Below w.heap.size w w' := by
  have HI := hid h
  obtain ⟨a, cap, rfl, -, -⟩ := h
  have HW0 := hid (Lib.tabBelow_of_tabIs hw)
  obtain ⟨w0, hw0⟩ : ∃ w0, w.alloc (.cells #[.int .i64 n, .slice a F.length cap] 24) = w0 := ⟨_, rfl⟩
  have B0 : Hid (Below w.heap.size w w0) := by rw [← hw0]; exact (Below.refl _ _).alloc (Nat.le_refl _) _
  have X0 : Hid (w0.heap[w.heap.size]? = some (.cells #[.int .i64 n, .slice a F.length cap] 24 (0, 0))) := by rw [← hw0]; exact World.alloc_heap_new w _
  have I0 := hid (HI.out.below B0.out)
  have CH := hid (Chromatic_any 2 _ [(0, 1)] _ (fh_edge w0))
  have HBL : Hid (Below w0.heap.size w0 (w0.alloc (.cells #[.int .i64 0, .int .i64 1] 30))) := (Below.refl _ _).alloc (Nat.le_refl _) _
  have HK := hid hk
  clear HI hk hw
  go_enter Tryz.func3, Tryz.ntmps3
  go_wp2_with fail
  clear hw0
  refine CH.out.mono ?_
  rintro e w2 ⟨-, hm, hb2⟩
  obtain ⟨u2, rfl, hu2⟩ := hm fh_one
  have hi2 := hu2.ints (by decide)
  rw [fh_pol] at hi2
  have hb3 : Below w2.heap.size w2 (w2.alloc (.cells #[.int .i64 0, .int .i64 (-1), .int .i64 1] 2)) := (Below.refl _ _).alloc (Nat.le_refl _) _
  have S1 := hid (SameL_any _ _ _ _ _ (hi2.below hb3) (fh_lit w2 0 (-1) 1 2))
  rw [show decide (([0, -1, 1] : List Int) = [0, -1, 1]) = true by decide] at S1
  obtain ⟨ua, ucap, hu, -, -⟩ := hi2
  subst hu
  have H13 := hid (HBL.out.trans ((hb2.trans (hb3.mono hb2.size)).mono HBL.out.size))
  clear hb2 hb3 hu2 CH HBL hm
  go_wp2_with fail
  refine S1.out.mono ?_
  rintro e w4 ⟨rfl, hb4⟩
  have K4 := hid (H13.out.trans (hb4.mono H13.out.size))
  have B4 := hid (B0.out.trans (K4.out.mono B0.out.size))
  have X4 := hid (box_keepH X0.out K4.out)
  have I4 := hid (I0.out.below K4.out)
  clear hb4 H13 S1 B0 I0 X0 K4
  obtain ⟨x0, x1⟩ := two_cells X4.out
  have CH := hid (Chromatic_any n _ F w4 I4.out)
  have FL := hid (fun W (hW : Below w4.heap.size w4 W) => Flow_any n _ F W (I4.out.below hW))
  have AC := hid (fun W (hW : Below w4.heap.size w4 W) => Acyclic_any n _ F W (I4.out.below hW))
  have CX : Hid (∀ W, Below w4.heap.size w4 W → W.cell? ⟨w.heap.size, 0, none⟩ = some (.int .i64 n) ∧ W.cell? ⟨w.heap.size, 1, none⟩ = some (.slice a F.length cap)) := fun W hW => by
    obtain ⟨y0, y1, -⟩ := two_cells (box_keepH X4.out hW)
    exact ⟨y0, y1⟩
  by_cases hg : graphR n F = 0
  rotate_left
  · obtain ⟨q, hq⟩ : ∃ q, graphR n F = q := ⟨_, rfl⟩
    rw [hq] at hg CH FL AC
    have hq1 : (q != 0) = true := by rw [bne_iff_ne]; exact hg
    have HG := hid hg
    clear hg
    go_wp2_with fail
    refine CH.out.mono ?_
    rintro e w5 ⟨hm, -, hb5⟩
    have h9 := hm HG.out
    subst h9
    obtain ⟨x0, x1⟩ := CX.out w5 hb5
    have B5 := hid hb5
    clear hm hb5 CH
    go_wp2_with fail
    refine (FL.out w5 B5.out).mono ?_
    rintro e w6 ⟨hm, -, hb6⟩
    have h9 := hm HG.out
    subst h9
    have B6 := hid (B5.out.trans (hb6.mono B5.out.size))
    obtain ⟨x0, x1⟩ := CX.out w6 B6.out
    clear hm hb6 FL
    go_wp2_with fail
    refine (AC.out w6 B6.out).mono ?_
    rintro e w7 ⟨hm, -, hb7⟩
    have h9 := hm HG.out
    subst h9
    have B7 := hid (B4.out.trans ((B6.out.trans (hb7.mono B6.out.size)).mono B4.out.size))
    clear hm hb7 AC
    go_wp2_with fail
    go_ret
    exact ⟨rfl, B7.out⟩
  obtain ⟨N, rfl, hN1, hN7, hEE, hG⟩ := graph_is hg
  have GG := hid hG
  have EE := hid hEE
  have HGZ := hid hg
  have hn : (N : Int).toNat = N := Int.toNat_natCast N
  rw [hn] at CH
  clear hg hEE hG hn
  go_wp2_with fail
  refine CH.out.mono ?_
  rintro e w5 ⟨-, hm, hb5⟩
  obtain ⟨cv, rfl, hcv⟩ := hm HGZ.out
  have CV5 := hid hcv
  obtain ⟨cb, co, cc, rfl, -, -⟩ := hcv
  obtain ⟨x0, x1⟩ := CX.out w5 hb5
  have B5 := hid hb5
  clear hm hb5 CH
  go_wp2_with fail
  refine (FL.out w5 B5.out).mono ?_
  rintro e w6 ⟨-, hm, hb6⟩
  obtain ⟨fv, rfl, hfv⟩ := hm HGZ.out
  have FV6 := hid hfv
  obtain ⟨fb, fo, fc, rfl, -, -⟩ := hfv
  have B6 := hid (B5.out.trans (hb6.mono B5.out.size))
  have CV6 := hid (CV5.out.below hb6)
  obtain ⟨x0, x1⟩ := CX.out w6 B6.out
  clear hm hb6 FL CV5
  go_wp2_with fail
  refine (AC.out w6 B6.out).mono ?_
  rintro e w7 ⟨-, hm, hb7⟩
  have h9 := hm HGZ.out
  subst h9
  have B7 := hid (B6.out.trans (hb7.mono B6.out.size))
  have CV7 := hid (CV6.out.below hb7)
  have FV7 := hid (FV6.out.below hb7)
  obtain ⟨x0, x1⟩ := CX.out w7 B7.out
  have GR := hid (Graphic_any N _ F w7 (I4.out.below B7.out))
  clear hm hb7 AC CV6 FV6
  go_wp2_with fail
  refine GR.out.mono ?_
  rintro e w8 ⟨hm, -⟩
  obtain ⟨r, rfl, ho, hb⟩ := hm HGZ.out
  change Own _ _ _ (gbL F) at ho
  obtain ⟨ra, rc, rfl⟩ := ownsRow_form' ho
  have hk := (Below.refl _ w8).alloc (Nat.le_refl _) (.cells #[.int .i64 F.length, .slice ra (gbL F).length rc] 36)
  have hT := hb.trans (hk.mono hb.size)
  have B8 := hid (B7.out.trans (hT.mono B7.out.size))
  have CV8 := hid (CV7.out.below hT)
  have FV8 := hid (FV7.out.below hT)
  have I8 := hid ((ho.ints (Nat.le_trans (fam_len GG.out.m8 GG.out.fam) (by decide))).below hk)
  have XM := World.alloc_heap_new w8 (.cells #[.int .i64 F.length, .slice ra (gbL F).length rc] 36)
  obtain ⟨W8, hW8⟩ : ∃ W8, w8.alloc (.cells #[.int .i64 F.length, .slice ra (gbL F).length rc] 36) = W8 := ⟨_, rfl⟩
  rw [hW8] at B8 CV8 FV8 I8 XM
  have M8 := hid XM
  obtain ⟨m0, m1, -, -⟩ := two_cells XM
  have CQ := hid (Characteristic_ok F.length _ (gbL F) W8 GG.out.m8 GG.out.fam GG.out.bas I8.out)
  clear ho hb hm hk hT GR CV7 FV7 XM
  go_wp2_with fail
  clear hW8
  refine CQ.out.mono ?_
  rintro e w9 ⟨xv, rfl, hz, hb⟩
  change RkZ w9 xv (gR F + 1) (chrS (rk (gbL F)) (gR F) (2 ^ F.length)) at hz
  have XV9 := hid hz
  obtain ⟨xb, xo, xc, rfl, -, -⟩ := hz
  have B9 := hid (B8.out.trans (hb.mono B8.out.size))
  have CV9 := hid (CV8.out.below hb)
  have FV9 := hid (FV8.out.below hb)
  have I9 := hid (I8.out.below hb)
  have M9 := hid (box_keepH M8.out hb)
  obtain ⟨m0, m1, -, -⟩ := two_cells M9.out
  have DU := hid (Dual_ok F.length _ (gbL F) w9 GG.out.m8 GG.out.fam GG.out.bas I9.out)
  clear hb CQ CV8 FV8 I8 M8
  go_wp2_with fail
  refine DU.out.mono ?_
  rintro e w10 ⟨r2, rfl, ho, hb⟩
  obtain ⟨da, dc, rfl⟩ := ownsRow_form' ho
  have hfc := cmp_fam GG.out.fam
  have hk := (Below.refl _ w10).alloc (Nat.le_refl _) (.cells #[.int .i64 F.length, .slice da (cmp F.length (gbL F)).length dc] 36)
  have hT := hb.trans (hk.mono hb.size)
  have B10 := hid (B9.out.trans (hT.mono B9.out.size))
  have CV10 := hid (CV9.out.below hT)
  have FV10 := hid (FV9.out.below hT)
  have XV10 := hid (XV9.out.below hT)
  have I10 := hid (I9.out.below hT)
  have M10 := hid (box_keepH M9.out hT)
  have D10 := hid ((ho.ints (Nat.le_trans (fam_len GG.out.m8 hfc) (by decide))).below hk)
  have XD := World.alloc_heap_new w10 (.cells #[.int .i64 F.length, .slice da (cmp F.length (gbL F)).length dc] 36)
  obtain ⟨W10, hW10⟩ : ∃ W10, w10.alloc (.cells #[.int .i64 F.length, .slice da (cmp F.length (gbL F)).length dc] 36) = W10 := ⟨_, rfl⟩
  rw [hW10] at B10 CV10 FV10 XV10 I10 M10 D10 XD
  obtain ⟨d0, d1, -, -⟩ := two_cells XD
  have CQ := hid (Characteristic_ok F.length _ (cmp F.length (gbL F)) W10 GG.out.m8 hfc (dual_bas GG.out.m8 GG.out.fam GG.out.bas) D10.out)
  clear ho hb hfc hk hT DU CV9 FV9 XV9 I9 M9 D10 XD
  go_wp2_with fail
  clear hW10
  refine CQ.out.mono ?_
  rintro e w11 ⟨yv, rfl, hz, hb⟩
  change RkZ w11 yv (flR F + 1) (flC F) at hz
  have YV11 := hid hz
  obtain ⟨yb, yo, yc, rfl, -, -⟩ := hz
  have B11 := hid (B10.out.trans (hb.mono B10.out.size))
  have CV11 := hid (CV10.out.below hb)
  have FV11 := hid (FV10.out.below hb)
  have XV11 := hid (XV10.out.below hb)
  have I11 := hid (I10.out.below hb)
  have M11 := hid (box_keepH M10.out hb)
  obtain ⟨m0, m1, -, -⟩ := two_cells M11.out
  have AT := hid (At_ok F.length _ (gbL F) 2 0 w11 GG.out.m8 GG.out.fam GG.out.bas (by omega) (by omega) (by omega) (by omega) I11.out)
  rw [pv_20 GG.out.fam GG.out.bas] at AT
  change Hid (Calls _ _ _ _ fun e w' => e = .returned (.tuple #[.string ⟨(decZ (acR F : Nat)).toArray⟩, .int .i64 0]) ∧ _) at AT
  have hal := acN_le (n := F.length) (l := gbL F) (by have := fam_lenT GG.out.m8 GG.out.fam; omega) (rk (gbL F) (2 ^ F.length - 1) + 1)
  have hRs := rk_small GG.out.m8 GG.out.fam (2 ^ F.length - 1)
  have HAR : Hid (acR F ≤ 131072) := by
    show acR F ≤ _
    have h1 : 2 ^ (rk (gbL F) (2 ^ F.length - 1) + 1) ≤ 512 := Nat.le_trans (Nat.pow_le_pow_right (by omega) (show _ ≤ 9 by omega)) (by decide)
    unfold acR
    omega
  obtain ⟨ac, hac⟩ : ∃ ac, acR F = ac := ⟨_, rfl⟩
  rw [hac] at AT HAR ⊢
  clear hb CQ CV10 FV10 XV10 I10 M10 hal hRs hac
  go_wp2_with fail
  refine AT.out.mono ?_
  rintro e w12 ⟨rfl, hb⟩
  have B12 := hid (B11.out.trans (hb.mono B11.out.size))
  have CV12 := hid (CV11.out.below hb)
  have FV12 := hid (FV11.out.below hb)
  have XV12 := hid (XV11.out.below hb)
  have YV12 := hid (YV11.out.below hb)
  have IT := hid (Itoa_ok ac w12 (by omega) (by have := HAR.out; omega) (HW0.out w12 (B4.out.trans (B12.out.mono B4.out.size))))
  generalize (decZ (ac : Nat)).toArray = tx at *
  clear hb AT CV11 FV11 XV11 YV11 I11 M11
  go_wp2_with fail
  refine IT.out.mono ?_
  rintro e w13 ⟨rfl, hb⟩
  have B13 := hid (B12.out.trans (hb.mono B12.out.size))
  have CV13 := hid (CV12.out.below hb)
  have FV13 := hid (FV12.out.below hb)
  have XV13 := hid (XV12.out.below hb)
  have YV13 := hid (YV12.out.below hb)
  clear hb IT CV12 FV12 XV12 YV12
  have hRN : gR F ≤ N := GG.out.rank_le (Nat.sub_lt (Nat.two_pow_pos _) (by decide))
  obtain ⟨D, hD, hD2⟩ : ∃ D : Nat, (N : Int) - (gR F : Int) = (D : Int) ∧ Hid (D = N - gR F) := ⟨N - gR F, by omega, rfl⟩
  have hDe : (N : Int) + 1 - ((gR F : Int) + 1) = (D : Int) := by omega
  have CXX : Hid (∀ p, p < N + 1 → (p < D → w13.cell? ⟨cb, co + p, none⟩ = some (.int .i64 0)) ∧ (D ≤ p → w13.cell? ⟨cb, co + p, none⟩ = some (.int .i64 (chrS (rk (gbL F)) (gR F) (2 ^ F.length) (p - D))) ∧ w13.cell? ⟨xb, xo + (p - D), none⟩ = some (.int .i64 (chrS (rk (gbL F)) (gR F) (2 ^ F.length) (p - D))) ∧ p - D < gR F + 1)) := fun p hp => by
    have h1 := CV13.out.cellAt (Below.refl _ _) hp
    have hd := hD2.out
    refine ⟨fun h => ?_, fun h => ?_⟩
    · rw [h1]
      unfold chF ccF
      rw [if_pos (by omega)]
    · have h2 : p - D < gR F + 1 := by omega
      refine ⟨?_, XV13.out.cellAt (Below.refl _ _) h2, h2⟩
      rw [h1]
      unfold chF ccF
      rw [if_neg (by omega), hd]
  go_wp2_with fail
  go_loopw [148] (fun i W => ∃ p : Nat, p ≤ N + 1 ∧ i = .int .i64 p ∧ W = w13) (fun i _ => N + 1 - (intOf i).toNat)
  case atStart => exact ⟨0, Nat.zero_le _, rfl, rfl⟩
  case round =>
    obtain ⟨p, hp, rfl, rfl⟩ := hrel
    by_cases hlt : p < N + 1
    · have hpi : (p : Int) < (N : Int) + 1 := by omega
      obtain ⟨q1, q2⟩ := CXX.out p hlt
      have HLT := hid hlt
      by_cases hpd : p < D
      · have c1 := q1 hpd
        have hge : ¬ (D : Int) ≤ (p : Int) := by omega
        clear q1 q2 hpd hlt
        go_wp2_with fail
        go_roundw
        case rel => exact ⟨p + 1, HLT.out, by go_num, trivial⟩
        case measure => have := HLT.out; simp [intOf]; omega
      · obtain ⟨c1, c2, c3⟩ := q2 (by omega)
        have hge : (D : Int) ≤ (p : Int) := by omega
        obtain ⟨e, he, he2⟩ : ∃ e : Nat, (p : Int) - (D : Int) = (e : Int) ∧ p - D = e := ⟨p - D, by omega, rfl⟩
        rw [he2] at c1 c2 c3
        have hei : (e : Int) < (gR F : Int) + 1 := by omega
        generalize chrS (rk (gbL F)) (gR F) (2 ^ F.length) e = z at c1 c2
        clear q1 q2 hpd hlt he2 c3
        go_wp2_with fail
        go_roundw
        case rel => exact ⟨p + 1, HLT.out, by go_num, trivial⟩
        case measure => have := HLT.out; simp [intOf]; omega
    · obtain rfl : p = N + 1 := by omega
      have hn : ¬ ((N + 1 : Nat) : Int) < (N : Int) + 1 := by omega
      have hfR : flR F ≤ 8 := rk_small GG.out.m8 (cmp_fam GG.out.fam) _
      have SM := hid (SameL_any _ _ _ _ wr (FV13.out.ints (by omega)) (YV13.out.ints (by omega)))
      rw [decide_eq_true rfl] at SM
      have P9 := hid (fun w => PickG_any k 3 w HK.out.1 HK.out.2 (by decide) (by decide))
      have hP := pickN_lt k (n := 3) (by decide)
      generalize (pickN k 3) = p at *
      clear hfR CXX XV13 hD hDe
      go_wp2_with fail
      refine SM.out.mono ?_
      rintro e w14 ⟨rfl, hb⟩
      have B14 := hid (B13.out.trans (hb.mono B13.out.size))
      have CV14 := hid (CV13.out.below hb)
      have P5 : Hid (Calls Tryz.prog 13 #[.int .i64 k, .int .i64 3] w14 fun e w' => e = .returned (.int .i64 (p : Nat)) ∧ w' = w14) := P9.out w14
      clear hb SM CV13 FV13 YV13 P9
      go_wp2_with fail
      refine P5.out.mono ?_
      rintro e w15 ⟨rfl, rfl⟩
      clear P5
      obtain ⟨q, hq, hq2⟩ : ∃ q : Nat, (1 : Int) + (p : Int) = (q : Int) ∧ Hid (q = p + 1) := ⟨p + 1, by omega, rfl⟩
      have hq3 : q ≤ 3 := by omega
      obtain ⟨y0, y1⟩ := CX.out w15 B14.out
      have PW : Hid (∀ (b : Nat) W, b ≤ 8 → Calls Tryz.prog 14 #[.int .i64 q, .int .i64 b] W fun e w' => e = .returned (.int .i64 (q ^ b : Nat)) ∧ w' = W) := fun b W hb => Power_ok q b W hq3 hb
      have PN := hid (PW.out N w15 (by omega))
      have hT := pow_le_3 (a := q) (k := N) hq3 (by omega)
      obtain ⟨T, hTT⟩ : ∃ T, q ^ N = T := ⟨_, rfl⟩
      rw [hTT] at hT PN
      have HT := hid hTT
      clear hTT
      go_wp2_with fail
      refine PN.out.mono ?_
      rintro e w16 ⟨rfl, rfl⟩
      clear PN
      go_wp2_with fail
      have HQ3 := hid hq3
      have HQ0 : Hid (0 < q) := by show 0 < q; have := hq2.out; omega
      go_loopw [26, 27] (fun z i W => ∃ c : Nat, c ≤ T ∧ i = .int .i64 c ∧ z = .int .i64 (fhC (natE F) N q c) ∧ Hid (Below w16.heap.size w16 W)) (fun _ i _ => T - (intOf i).toNat)
      case atStart => exact ⟨0, Nat.zero_le _, rfl, rfl, Below.refl _ _⟩
      case round =>
        obtain ⟨c, hc, rfl, rfl, HW⟩ := hrel
        obtain ⟨wq, hwq⟩ : ∃ wq : World, wq = wr := ⟨_, rfl⟩
        subst hwq
        have hcl := fhC_le (natE F) N q c
        by_cases hlt : c < T
        · have hci : (c : Int) < (T : Int) := by omega
          have ST := hid (fhC_step (natE F) N q c)
          obtain ⟨z, hz⟩ : ∃ z, fhC (natE F) N q c = z := ⟨_, rfl⟩
          rw [hz] at hcl ST ⊢
          have BQ := hid (B14.out.trans (HW.out.mono B14.out.size))
          obtain ⟨y0, y1⟩ := CX.out wq BQ.out
          have HC := hid hlt
          have HCL := hid hcl
          clear hz hlt hcl
          go_wp2_with fail
          go_loopw [29, 186] (fun u i W => ∃ j : Nat, j ≤ F.length ∧ i = .int .i64 j ∧ u = .bool (prT (natE F) (digF q N c) j) ∧ Hid (Below wq.heap.size wq W)) (fun _ i _ => F.length - (intOf i).toNat)
          case atStart => exact ⟨0, Nat.zero_le _, rfl, rfl, Below.refl _ _⟩
          case round =>
            obtain ⟨j, hj, rfl, rfl, HW2⟩ := hrel
            have BW := hid (BQ.out.trans (HW2.out.mono BQ.out.size))
            by_cases hlt : j < F.length
            · obtain ⟨aa, cc2, hv2, -, hcc⟩ := I4.out
              obtain ⟨b, off, ha, hb, hcell⟩ := hcc (by omega)
              injection hv2 with q1 q2 q3
              subst ha
              subst q1
              obtain ⟨c1, c2⟩ := hcell j hlt
              have c3 := (BW.out.cell (p := ⟨b, off + j * 2, none⟩) hb).trans c1
              have c4 := (BW.out.cell (p := ⟨b, off + j * 2 + 1, none⟩) hb).trans c2
              rw [(EE.out j hlt).1] at c3
              rw [(EE.out j hlt).2] at c4
              have hAB := GG.out.ends j hlt
              have PS := hid (prT_step (natE F) (digF q N c) j)
              obtain ⟨A, hA⟩ : ∃ A, ea (natE F) j = A := ⟨_, rfl⟩
              obtain ⟨B, hB⟩ : ∃ B, eb (natE F) j = B := ⟨_, rfl⟩
              rw [hA] at c3 hAB PS
              rw [hB] at c4 hAB PS
              have fA : digF q N c A = c / q ^ A % q := if_pos hAB.1
              have fB : digF q N c B = c / q ^ B % q := if_pos hAB.2
              rw [fA, fB] at PS
              have PA := hid (fun W => PW.out A W (by omega))
              have PB := hid (fun W => PW.out B W (by omega))
              have hq0 := HQ0.out
              have hA0 : 0 < q ^ A := Nat.pow_pos hq0
              have hB0 : 0 < q ^ B := Nat.pow_pos hq0
              generalize q ^ A = PA' at *
              generalize q ^ B = PB' at *
              obtain ⟨dA, hdA⟩ : ∃ d, c / PA' = d := ⟨_, rfl⟩
              obtain ⟨dB, hdB⟩ : ∃ d, c / PB' = d := ⟨_, rfl⟩
              rw [hdA, hdB] at PS
              obtain ⟨rA, hrA⟩ : ∃ d, dA % q = d := ⟨_, rfl⟩
              obtain ⟨rB, hrB⟩ : ∃ d, dB % q = d := ⟨_, rfl⟩
              rw [hrA, hrB] at PS
              have bA : dA ≤ c := by rw [← hdA]; exact Nat.div_le_self _ _
              have bB : dB ≤ c := by rw [← hdB]; exact Nat.div_le_self _ _
              have e1 : (c : Int) / (PA' : Int) = (dA : Int) := by rw [← hdA]; rfl
              have e2 : (c : Int).tdiv (PA' : Int) = (dA : Int) := by rw [← hdA]; rfl
              have e3 : (dA : Int) % (q : Int) = (rA : Int) := by rw [← hrA]; rfl
              have e4 : (dA : Int).tmod (q : Int) = (rA : Int) := by rw [← hrA]; rfl
              have e5 : (c : Int) / (PB' : Int) = (dB : Int) := by rw [← hdB]; rfl
              have e6 : (c : Int).tdiv (PB' : Int) = (dB : Int) := by rw [← hdB]; rfl
              have e7 : (dB : Int) % (q : Int) = (rB : Int) := by rw [← hrB]; rfl
              have e8 : (dB : Int).tmod (q : Int) = (rB : Int) := by rw [← hrB]; rfl
              have f1 : ((PA' : Int) == 0) = false := by rw [beq_eq_false_iff_ne]; omega
              have f2 : ((PB' : Int) == 0) = false := by rw [beq_eq_false_iff_ne]; omega
              have f3 : ((q : Int) == 0) = false := by rw [beq_eq_false_iff_ne]; omega
              have f4 : ¬ (PA' : Int) = 0 := by omega
              have f5 : ¬ (PB' : Int) = 0 := by omega
              have f6 : ¬ (q : Int) = 0 := by omega
              have g1 : IntKind.i64.wrap (q : Int) = (q : Int) := IntWalk.i64_in _ (by omega)
              have g2 : IntKind.i64.wrap (dA : Int) = (dA : Int) := IntWalk.i64_in _ (by omega)
              have g3 : IntKind.i64.wrap (dB : Int) = (dB : Int) := IntWalk.i64_in _ (by omega)
              obtain ⟨W2, hW2⟩ : ∃ W2, wr.alloc (.cells #[.int .i64 A, .int .i64 B] 30) = W2 := ⟨_, rfl⟩
              have H2 : Hid (Below wr.heap.size wr W2) := by rw [← hW2]; exact (Below.refl _ _).alloc (Nat.le_refl _) _
              have X2 : Hid (W2.heap[wr.heap.size]? = some (.cells #[.int .i64 A, .int .i64 B] 30 (0, 0))) := by rw [← hW2]; exact World.alloc_heap_new wr _
              obtain ⟨xe0, xe1, -, -⟩ := two_cells X2.out
              have hji : (j : Int) < (F.length : Int) := by omega
              have hF8 : F.length ≤ 8 := GG.out.m8
              have HJ := hid hlt
              clear hdA hdB hrA hrB hA hB c1 c2 hcell hcc q2 q3 hb fA fB hlt
              go_wp2_with fail
              clear hW2
              have W3 := hid (HW2.out.trans (H2.out.mono HW2.out.size))
              have W4 : Hid (∀ n, Below wq.heap.size wq (W2.drewN n)) := fun n => ⟨W3.out.os, W3.out.tape, W3.out.output, W3.out.size, W3.out.block⟩
              rcases hok : prT (natE F) (digF q N c) j with _ | _
              · rw [hok, Bool.false_and] at PS
                clear hok
                go_quiet (fail)
                go_wp2_with fail
                go_roundw
                case rel => exact ⟨j + 1, HJ.out, by go_num, by rw [PS.out], W4.out _⟩
                case measure => have := HJ.out; simp [intOf]; omega
              · rw [hok, Bool.true_and] at PS
                clear hok
                go_quiet (first
                  | (go_at_call 14; (with_reducible refine (PA.out _).mono ?_); rintro e w' ⟨rfl, rfl⟩; exact ⟨rfl, _, rfl⟩)
                  | (go_at_call 14; (with_reducible refine (PB.out _).mono ?_); rintro e w' ⟨rfl, rfl⟩; exact ⟨rfl, _, rfl⟩))
                go_wp2_with fail
                go_roundw
                case rel => exact ⟨j + 1, HJ.out, by go_num, by rw [PS.out, bne]; congr 2; rw [Bool.eq_iff_iff, beq_iff_eq, beq_iff_eq]; omega, W4.out _⟩
                case measure => have := HJ.out; simp [intOf]; omega
            · obtain rfl : j = F.length := by omega
              have hn : ¬ ((F.length : Nat) : Int) < (F.length : Int) := by omega
              have EP : prT (natE F) (digF q N c) F.length = proB (natE F) (digF q N c) := by unfold prT proB; rw [natE_len]
              have WO := hid (HW.out.trans (HW2.out.mono HW.out.size))
              have hz2 : -1 ≤ z ∧ z ≤ 7000 := by have := HCL.out; omega
              rw [EP]
              rcases hpb : proB (natE F) (digF q N c) with _ | _
              · rw [hpb] at ST
                have SS : Hid (fhC (natE F) N q (c + 1) = z) := by show _ = _; rw [ST.out]; simp
                clear hpb ST EP
                go_wp2_with fail
                go_roundw
                case rel => exact ⟨c + 1, HC.out, by go_num, by rw [SS.out], WO.out⟩
                case measure => have := HC.out; simp [intOf]; omega
              · rw [hpb] at ST
                have SS : Hid (fhC (natE F) N q (c + 1) = z + 1) := by show _ = _; rw [ST.out]; simp
                clear hpb ST EP
                go_wp2_with fail
                go_roundw
                case rel => exact ⟨c + 1, HC.out, by go_num, by rw [SS.out], WO.out⟩
                case measure => have := HC.out; simp [intOf]; omega
        · obtain rfl : c = T := by omega
          have hn : ¬ (c : Int) < (c : Int) := by omega
          have COL : fhC (natE F) N q c = horN (chF N F) q (N + 1) (N + 1) := by
            have h1 := GG.out.colours HQ0.out (fun s hs => GG.out.rank_le hs)
            unfold fhC
            rw [← HT.out]
            unfold chF gR
            exact h1
          have HCB : Hid (∀ j, -256 ≤ chF N F j ∧ chF N F j ≤ 256) := fun j => by
            unfold chF
            refine ccF_bound (fun j => ?_) j
            have := chr_bound (rk (gbL F)) (gR F) (2 ^ F.length) j
            have h2 : 2 ^ F.length ≤ 256 := Nat.le_trans (Nat.pow_le_pow_right (by omega) GG.out.m8) (by decide)
            omega
          have hq4 := HQ3.out
          have VA := hid (value_any (chF N F) q (N + 1) _ wq (CV14.out.below HW.out) (by omega) (fun j _ => HCB.out j) (by omega))
          rw [← COL] at VA
          obtain ⟨z, hz⟩ : ∃ z, fhC (natE F) N q c = z := ⟨_, rfl⟩
          rw [hz] at hcl VA ⊢
          have HCL := hid hcl
          have B15 := hid (B4.out.trans ((B14.out.trans (HW.out.mono B14.out.size)).mono B4.out.size))
          have HTC : Hid (c ≤ 6561) := hT
          clear hz COL hcl
          go_wp2_with fail
          refine VA.out.mono ?_
          rintro e w17 ⟨zb, rfl, hzb, hI, hb17⟩
          have ST := hid (String_s zb z w17 hI (by have := HCL.out; have := HTC.out; omega))
          have B17 := hid (B15.out.trans (hb17.mono B15.out.size))
          clear hI hb17 VA hzb
          go_wp2_with fail
          refine ST.out.mono ?_
          rintro e w18 ⟨rfl, hb18⟩
          have B18 := hid (B17.out.trans (hb18.mono B17.out.size))
          have IT := hid (Itoa_ok z w18 (by have := HCL.out; omega) (by have := HCL.out; have := HTC.out; omega) (HW0.out w18 B18.out))
          clear hb18 ST
          go_wp2_with fail
          refine IT.out.mono ?_
          rintro e w19 ⟨rfl, hb19⟩
          have B19 := hid (B18.out.trans (hb19.mono B18.out.size))
          clear hb19 IT
          go_wp2_with fail
          go_ret
          exact ⟨rfl, B19.out⟩
end Go.Proofs.YtkmpnaohdijpnaaGreatDoor
