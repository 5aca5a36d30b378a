/- rotalaw.FieldRows. -/
import Derived.Test.YteeliinmpbleoaaFdUQ
import Derived.Test.YteeliinmpbleoaaOpnQ
import Derived.Deep.RegionHeld3
namespace Go.Proofs.Yteeliinmpbleoaa
open Go.RowKit

set_option maxRecDepth 20000 in
set_option maxHeartbeats 16000000 in
theorem frows_law (p c : Int) (v : Value) (R : List (List Int)) (w : World) (h : RowsI w v R) :
    Calls Try.prog 3 #[.agg #[.int .i64 p, .int .i64 c, v]] w fun e w' => e = .returned (.bool true) ∧ Below w.heap.size w w' := by
  have B : Hid (Below w.heap.size w (w.alloc (.cells #[.int .i64 p, .int .i64 c, v] 24))) := (Below.refl _ _).alloc (Nat.le_refl _) _
  have X := hid (World.alloc_heap_new w (.cells #[.int .i64 p, .int .i64 c, v] 24))
  have RX := hid (h.below B.out)
  obtain ⟨a, cap, rfl⟩ := h.form
  clear h
  have hT0 : Hid (∀ W : World, Below W.heap.size W W) := fun W => Below.refl _ _
  rcases matR_01 p c R with hm | hm
  rotate_left
  · skip
    go_enter Try.func3, Try.ntmps3
    obtain ⟨Xc0, Xc1, Xc2⟩ := three_cells X.out
    have CC1 := hid (Reduced_bad p c _ R _ RX.out hm)
    go_wp2_with fail
    refine CC1.out.mono ?_
    rintro e w2 ⟨rfl, hb⟩
    clear Xc0 Xc1 Xc2
    have hk := (Below.refl _ w2).alloc (Nat.le_refl _) (.cells #[.int .i64 0, .int .i64 0, .slice none 0 0] 24)
    have hT := hb.trans (hk.mono hb.size)
    replace B := hid (B.out.trans (hT.mono B.out.size))
    replace X := hid (box_keep X.out hT)
    replace RX := hid (RX.out.below hT)
    have XA := hid (World.alloc_heap_new w2 (.cells #[.int .i64 0, .int .i64 0, .slice none 0 0] 24))
    clear hk hT hb CC1
    obtain ⟨Xc0, Xc1, Xc2⟩ := three_cells X.out
    have CC3 := hid (Rank_bad p c _ R _ RX.out hm)
    go_wp2_with fail
    refine CC3.out.mono ?_
    rintro e w4 ⟨rfl, hb⟩
    clear Xc0 Xc1 Xc2
    replace B := hid (B.out.trans (hb.mono B.out.size))
    replace X := hid (box_keep X.out hb)
    replace RX := hid (RX.out.below hb)
    replace XA := hid (box_keep XA.out hb)
    clear hb CC3
    obtain ⟨Xc0, Xc1, Xc2⟩ := three_cells X.out
    have CC5 := hid (Kernel_bad p c _ R _ RX.out hm)
    go_wp2_with fail
    refine CC5.out.mono ?_
    rintro e w6 ⟨rfl, hb⟩
    clear Xc0 Xc1 Xc2
    have hk := (Below.refl _ w6).alloc (Nat.le_refl _) (.cells #[.int .i64 0, .int .i64 0, .slice none 0 0] 24)
    have hT := hb.trans (hk.mono hb.size)
    replace B := hid (B.out.trans (hT.mono B.out.size))
    replace X := hid (box_keep X.out hT)
    replace RX := hid (RX.out.below hT)
    replace XA := hid (box_keep XA.out hT)
    have XK := hid (World.alloc_heap_new w6 (.cells #[.int .i64 0, .int .i64 0, .slice none 0 0] 24))
    clear hk hT hb CC5
    obtain ⟨Xc0, Xc1, Xc2⟩ := three_cells X.out
    have CC7 := hid (IsMatrix_any p c _ R _ RX.out)
    rw [okM_no hm] at CC7
    go_wp2_with fail
    refine CC7.out.mono ?_
    rintro e w8 ⟨rfl, hb⟩
    clear Xc0 Xc1 Xc2
    replace B := hid (B.out.trans (hb.mono B.out.size))
    replace X := hid (box_keep X.out hb)
    replace RX := hid (RX.out.below hb)
    replace XA := hid (box_keep XA.out hb)
    replace XK := hid (box_keep XK.out hb)
    clear hb CC7
    obtain ⟨XAc0, XAc1, XAc2⟩ := three_cells XA.out
    have CC9 := hid (gone_ok w8)
    go_wp2_with fail
    refine CC9.out.mono ?_
    rintro e w10 ⟨rfl, hb⟩
    clear XAc0 XAc1 XAc2
    replace B := hid (B.out.trans (hb.mono B.out.size))
    replace X := hid (box_keep X.out hb)
    replace RX := hid (RX.out.below hb)
    replace XA := hid (box_keep XA.out hb)
    replace XK := hid (box_keep XK.out hb)
    clear hb CC9
    obtain ⟨XKc0, XKc1, XKc2⟩ := three_cells XK.out
    have CC11 := hid (gone_ok w10)
    go_wp2_with fail
    refine CC11.out.mono ?_
    rintro e w12 ⟨rfl, hb⟩
    clear XKc0 XKc1 XKc2
    replace B := hid (B.out.trans (hb.mono B.out.size))
    replace X := hid (box_keep X.out hb)
    replace RX := hid (RX.out.below hb)
    replace XA := hid (box_keep XA.out hb)
    replace XK := hid (box_keep XK.out hb)
    clear hb CC11
    go_wp2_with fail
    go_ret
    exact ⟨rfl, B.out⟩
  have HM := hid (MatOK.of hm)
  obtain ⟨c, rfl⟩ : ∃ k : Nat, c = k := ⟨c.toNat, by have := HM.out.c0; omega⟩
  clear hm
  have hl6 : (redL p c R).length ≤ 6 := (redL_ok HM.out).rl
  have hc8 := HM.out.c8'
  go_enter Try.func3, Try.ntmps3
  obtain ⟨Xc0, Xc1, Xc2⟩ := three_cells X.out
  have CC13 := hid (Reduced_ok p c _ R _ RX.out HM.out)
  go_wp2_with fail
  refine CC13.out.mono ?_
  rintro e w14 ⟨u, rfl, hr, hb⟩
  obtain ⟨ua, uc, rfl⟩ := hr.form
  clear Xc0 Xc1 Xc2
  have hk := (Below.refl _ w14).alloc (Nat.le_refl _) (.cells #[.int .i64 p, .int .i64 c, .slice ua (redL p c R).length uc] 24)
  have hT := hb.trans (hk.mono hb.size)
  replace B := hid (B.out.trans (hT.mono B.out.size))
  replace X := hid (box_keep X.out hT)
  replace RX := hid (RX.out.below hT)
  have XA := hid (World.alloc_heap_new w14 (.cells #[.int .i64 p, .int .i64 c, .slice ua (redL p c R).length uc] 24))
  have RA := hid ((hr.rows).below hk)
  clear hk hT hb CC13 hr
  obtain ⟨Xc0, Xc1, Xc2⟩ := three_cells X.out
  have CC15 := hid (Rank_ok p c _ R _ RX.out HM.out)
  go_wp2_with fail
  refine CC15.out.mono ?_
  rintro e w16 ⟨rfl, hb⟩
  clear Xc0 Xc1 Xc2
  replace B := hid (B.out.trans (hb.mono B.out.size))
  replace X := hid (box_keep X.out hb)
  replace RX := hid (RX.out.below hb)
  replace XA := hid (box_keep XA.out hb)
  replace RA := hid (RA.out.below hb)
  clear hb CC15
  by_cases hk6 : c ≤ (redL p c R).length + 6
  · skip
    obtain ⟨Xc0, Xc1, Xc2⟩ := three_cells X.out
    have CC17 := hid (Kernel_ok p c _ R _ RX.out HM.out hk6)
    go_wp2_with fail
    refine CC17.out.mono ?_
    rintro e w18 ⟨u, rfl, hr, hb⟩
    obtain ⟨uka, ukc, rfl⟩ := hr.form
    clear Xc0 Xc1 Xc2
    have hk := (Below.refl _ w18).alloc (Nat.le_refl _) (.cells #[.int .i64 p, .int .i64 c, .slice uka (kerL p c R).length ukc] 24)
    have hT := hb.trans (hk.mono hb.size)
    replace B := hid (B.out.trans (hT.mono B.out.size))
    replace X := hid (box_keep X.out hT)
    replace RX := hid (RX.out.below hT)
    replace XA := hid (box_keep XA.out hT)
    replace RA := hid (RA.out.below hT)
    have XK := hid (World.alloc_heap_new w18 (.cells #[.int .i64 p, .int .i64 c, .slice uka (kerL p c R).length ukc] 24))
    have RK := hid ((hr.rows).below hk)
    clear hk hT hb CC17 hr
    obtain ⟨Xc0, Xc1, Xc2⟩ := three_cells X.out
    have CC19 := hid (IsMatrix_any p c _ R _ RX.out)
    rw [okM_ok HM.out] at CC19
    go_wp2_with fail
    refine CC19.out.mono ?_
    rintro e w20 ⟨rfl, hb⟩
    clear Xc0 Xc1 Xc2
    replace B := hid (B.out.trans (hb.mono B.out.size))
    replace X := hid (box_keep X.out hb)
    replace RX := hid (RX.out.below hb)
    replace XA := hid (box_keep XA.out hb)
    replace RA := hid (RA.out.below hb)
    replace XK := hid (box_keep XK.out hb)
    replace RK := hid (RK.out.below hb)
    clear hb CC19
    obtain ⟨Xc0, Xc1, Xc2⟩ := three_cells X.out
    have CC21 := hid (Hang_ok p c _ R _ RX.out HM.out.pr HM.out.c8' (by have := HM.out.rl; omega) HM.out.lens HM.out.rowc)
    rw [← redL_len] at CC21
    go_wp2_with fail
    refine CC21.out.mono ?_
    rintro e w22 ⟨rfl, hb⟩
    clear Xc0 Xc1 Xc2
    replace B := hid (B.out.trans (hb.mono B.out.size))
    replace X := hid (box_keep X.out hb)
    replace RX := hid (RX.out.below hb)
    replace XA := hid (box_keep XA.out hb)
    replace RA := hid (RA.out.below hb)
    replace XK := hid (box_keep XK.out hb)
    replace RK := hid (RK.out.below hb)
    clear hb CC21
    have IR : Hid (∀ wx, Below w22.heap.size w22 wx → Calls Try.prog 14 #[.agg #[.int .i64 p, .int .i64 c, .slice ua (redL p c R).length uc]] wx fun e w' => e = .returned (.bool true) ∧ Below w22.heap.size w22 w') := fun wx hb => (IsReduced_ok p c _ (redL p c R) wx _ (RA.out.below hb) (redL_ok HM.out) (red_rref HM.out)).mono fun e w' h9 => ⟨h9.1, hb.trans (h9.2.mono hb.size)⟩
    have HG : Hid (∀ wx v6, Below w22.heap.size w22 wx → RowsO w22 wx v6 (redL p c R ++ R) → Calls Try.prog 13 #[.int .i64 p, v6] wx fun e w' => e = .returned (.int .i64 ((redL p c R).length : Nat)) ∧ Below w22.heap.size w22 w') := fun wx v6 hb ho => by
      have hl : (redL p c R ++ R).length ≤ 16 := by
        rw [List.length_append]
        have := HM.out.rl
        omega
      have h9 := Hang_ok p c v6 (redL p c R ++ R) wx (ho.rows hb (by omega)) HM.out.pr HM.out.c8' hl (app_rows HM.out).1 (app_rows HM.out).2
      rw [rank_app HM.out] at h9
      exact h9.mono fun e w' h8 => ⟨h8.1, hb.trans (h8.2.mono hb.size)⟩
    have LL : Hid ((redL p c R).length ≤ 64 ∧ R.length ≤ 64) := ⟨by omega, by have := HM.out.rl; omega⟩
    obtain ⟨Xc0, Xc1, Xc2⟩ := three_cells X.out
    obtain ⟨XAc0, XAc1, XAc2⟩ := three_cells XA.out
    go_wp2_with fail
    go_region_held3 (fun w' => (w'.cell? ⟨w.heap.size, 0, none⟩ = some (.int .i64 p) ∧ w'.cell? ⟨w.heap.size, 1, none⟩ = some (.int .i64 c) ∧ w'.cell? ⟨w.heap.size, 2, none⟩ = some (.slice a R.length cap)) ∧ w'.cell? ⟨w14.heap.size, 0, none⟩ = some (.int .i64 p) ∧ w'.cell? ⟨w14.heap.size, 1, none⟩ = some (.int .i64 c) ∧ w'.cell? ⟨w14.heap.size, 2, none⟩ = some (.slice ua (redL p c R).length uc)) (go_keep) (first
      | (go_at_call 14; (refine (IR.out _ (by first | exact (Below.refl _ _).drew | exact Below.refl _ _)).mono ?_); rintro e w4 ⟨rfl, hb4⟩; have K4 := hid hb4; obtain ⟨k0, k1, k2⟩ := three_cells (box_keep X.out hb4); obtain ⟨j0, j1, j2⟩ := three_cells (box_keep XA.out hb4); clear hb4)
      | (refine step_appR (w0 := w22) (R := []) (R2 := redL p c R) (by first | rfl | kernel_rfl) (.const (.slice none 0 0)) (.tmp 98) rfl (by first | exact K4.out | exact K4.out.drew) (RowsO.nil _ _) RA.out (by simp) LL.out.1 ?_; intro v5 w5 ho5 hb5; have O5 := hid ho5; have K5 := hid hb5; obtain ⟨k0, k1, k2⟩ := three_cells (box_keep X.out hb5); obtain ⟨j0, j1, j2⟩ := three_cells (box_keep XA.out hb5); clear ho5 hb5)
      | (refine step_appR (w0 := w22) (R := [] ++ redL p c R) (R2 := R) (by first | rfl | kernel_rfl) (.tmp 99) (.tmp 101) rfl (by first | exact K5.out | exact K5.out.drew) O5.out RX.out (by simpa using LL.out.1) LL.out.2 ?_; intro v6 w6 ho6 hb6; have O6 := hid ho6; have K6 := hid hb6; obtain ⟨k0, k1, k2⟩ := three_cells (box_keep X.out hb6); obtain ⟨j0, j1, j2⟩ := three_cells (box_keep XA.out hb6); clear ho6 hb6)
      | (go_at_call 13; (refine (HG.out _ _ (by first | exact K6.out | exact K6.out.drew) (by first | exact O6.out)).mono ?_); rintro e w7 ⟨rfl, hb7⟩; have K7 := hid hb7; obtain ⟨k0, k1, k2⟩ := three_cells (box_keep X.out hb7); obtain ⟨j0, j1, j2⟩ := three_cells (box_keep XA.out hb7); clear hb7))
    replace B := hid (B.out.trans (K7.out.mono B.out.size))
    replace X := hid (box_keep X.out K7.out)
    replace RX := hid (RX.out.below K7.out)
    replace XA := hid (box_keep XA.out K7.out)
    replace RA := hid (RA.out.below K7.out)
    replace XK := hid (box_keep XK.out K7.out)
    replace RK := hid (RK.out.below K7.out)
    clear IR HG K4 K5 K6 K7 O5 O6 LL
    have hkl := kerL_len HM.out
    have hw1 : IntKind.i64.wrap ((c : Int) - ((redL p c R).length : Nat)) = ((kerL p c R).length : Nat) := by rw [IntWalk.i64_in _ (by omega)]; omega
    have hlt : ¬ (6 : Int) < ((kerL p c R).length : Nat) := by omega
    have HK6 := hid hk6
    clear hk6 hkl hl6 hc8
    obtain ⟨Xc0, Xc1, Xc2⟩ := three_cells X.out
    obtain ⟨XKc0, XKc1, XKc2⟩ := three_cells XK.out
    have CC23 := hid (IsReduced_ok p c _ (kerL p c R) w7 _ RK.out (kerL_ok HM.out HK6.out) (ker_rref' HM.out HK6.out))
    go_wp2_with fail
    refine CC23.out.mono ?_
    rintro e w24 ⟨rfl, hb⟩
    clear Xc0 Xc1 Xc2
    clear XKc0 XKc1 XKc2
    replace B := hid (B.out.trans (hb.mono B.out.size))
    replace X := hid (box_keep X.out hb)
    replace RX := hid (RX.out.below hb)
    replace XA := hid (box_keep XA.out hb)
    replace RA := hid (RA.out.below hb)
    replace XK := hid (box_keep XK.out hb)
    replace RK := hid (RK.out.below hb)
    clear hb CC23
    obtain ⟨Xc0, Xc1, Xc2⟩ := three_cells X.out
    obtain ⟨XKc0, XKc1, XKc2⟩ := three_cells XK.out
    have CC25 := hid (Nought_ok p c _ _ R (kerL p c R) _ RX.out RK.out HM.out (kerL_ok HM.out HK6.out) (ker_zero HM.out))
    go_wp2_with fail
    refine CC25.out.mono ?_
    rintro e w26 ⟨rfl, hb⟩
    clear Xc0 Xc1 Xc2 XKc0 XKc1 XKc2
    replace B := hid (B.out.trans (hb.mono B.out.size))
    replace X := hid (box_keep X.out hb)
    replace RX := hid (RX.out.below hb)
    replace XA := hid (box_keep XA.out hb)
    replace RA := hid (RA.out.below hb)
    replace XK := hid (box_keep XK.out hb)
    replace RK := hid (RK.out.below hb)
    clear hb CC25
    go_wp2_with fail
    go_ret
    exact ⟨rfl, B.out⟩
  · skip
    obtain ⟨Xc0, Xc1, Xc2⟩ := three_cells X.out
    have CC27 := hid (Kernel_large p c _ R _ RX.out HM.out (by omega))
    go_wp2_with fail
    refine CC27.out.mono ?_
    rintro e w28 ⟨rfl, hb⟩
    clear Xc0 Xc1 Xc2
    have hk := (Below.refl _ w28).alloc (Nat.le_refl _) (.cells #[.int .i64 0, .int .i64 0, .slice none 0 0] 24)
    have hT := hb.trans (hk.mono hb.size)
    replace B := hid (B.out.trans (hT.mono B.out.size))
    replace X := hid (box_keep X.out hT)
    replace RX := hid (RX.out.below hT)
    replace XA := hid (box_keep XA.out hT)
    replace RA := hid (RA.out.below hT)
    have XK := hid (World.alloc_heap_new w28 (.cells #[.int .i64 0, .int .i64 0, .slice none 0 0] 24))
    clear hk hT hb CC27
    obtain ⟨Xc0, Xc1, Xc2⟩ := three_cells X.out
    have CC29 := hid (IsMatrix_any p c _ R _ RX.out)
    rw [okM_ok HM.out] at CC29
    go_wp2_with fail
    refine CC29.out.mono ?_
    rintro e w30 ⟨rfl, hb⟩
    clear Xc0 Xc1 Xc2
    replace B := hid (B.out.trans (hb.mono B.out.size))
    replace X := hid (box_keep X.out hb)
    replace RX := hid (RX.out.below hb)
    replace XA := hid (box_keep XA.out hb)
    replace RA := hid (RA.out.below hb)
    replace XK := hid (box_keep XK.out hb)
    clear hb CC29
    obtain ⟨Xc0, Xc1, Xc2⟩ := three_cells X.out
    have CC31 := hid (Hang_ok p c _ R _ RX.out HM.out.pr HM.out.c8' (by have := HM.out.rl; omega) HM.out.lens HM.out.rowc)
    rw [← redL_len] at CC31
    go_wp2_with fail
    refine CC31.out.mono ?_
    rintro e w32 ⟨rfl, hb⟩
    clear Xc0 Xc1 Xc2
    replace B := hid (B.out.trans (hb.mono B.out.size))
    replace X := hid (box_keep X.out hb)
    replace RX := hid (RX.out.below hb)
    replace XA := hid (box_keep XA.out hb)
    replace RA := hid (RA.out.below hb)
    replace XK := hid (box_keep XK.out hb)
    clear hb CC31
    have IR : Hid (∀ wx, Below w32.heap.size w32 wx → Calls Try.prog 14 #[.agg #[.int .i64 p, .int .i64 c, .slice ua (redL p c R).length uc]] wx fun e w' => e = .returned (.bool true) ∧ Below w32.heap.size w32 w') := fun wx hb => (IsReduced_ok p c _ (redL p c R) wx _ (RA.out.below hb) (redL_ok HM.out) (red_rref HM.out)).mono fun e w' h9 => ⟨h9.1, hb.trans (h9.2.mono hb.size)⟩
    have HG : Hid (∀ wx v6, Below w32.heap.size w32 wx → RowsO w32 wx v6 (redL p c R ++ R) → Calls Try.prog 13 #[.int .i64 p, v6] wx fun e w' => e = .returned (.int .i64 ((redL p c R).length : Nat)) ∧ Below w32.heap.size w32 w') := fun wx v6 hb ho => by
      have hl : (redL p c R ++ R).length ≤ 16 := by
        rw [List.length_append]
        have := HM.out.rl
        omega
      have h9 := Hang_ok p c v6 (redL p c R ++ R) wx (ho.rows hb (by omega)) HM.out.pr HM.out.c8' hl (app_rows HM.out).1 (app_rows HM.out).2
      rw [rank_app HM.out] at h9
      exact h9.mono fun e w' h8 => ⟨h8.1, hb.trans (h8.2.mono hb.size)⟩
    have LL : Hid ((redL p c R).length ≤ 64 ∧ R.length ≤ 64) := ⟨by omega, by have := HM.out.rl; omega⟩
    obtain ⟨Xc0, Xc1, Xc2⟩ := three_cells X.out
    obtain ⟨XAc0, XAc1, XAc2⟩ := three_cells XA.out
    go_wp2_with fail
    go_region_held3 (fun w' => (w'.cell? ⟨w.heap.size, 0, none⟩ = some (.int .i64 p) ∧ w'.cell? ⟨w.heap.size, 1, none⟩ = some (.int .i64 c) ∧ w'.cell? ⟨w.heap.size, 2, none⟩ = some (.slice a R.length cap)) ∧ w'.cell? ⟨w14.heap.size, 0, none⟩ = some (.int .i64 p) ∧ w'.cell? ⟨w14.heap.size, 1, none⟩ = some (.int .i64 c) ∧ w'.cell? ⟨w14.heap.size, 2, none⟩ = some (.slice ua (redL p c R).length uc)) (go_keep) (first
      | (go_at_call 14; (refine (IR.out _ (by first | exact (Below.refl _ _).drew | exact Below.refl _ _)).mono ?_); rintro e w4 ⟨rfl, hb4⟩; have K4 := hid hb4; obtain ⟨k0, k1, k2⟩ := three_cells (box_keep X.out hb4); obtain ⟨j0, j1, j2⟩ := three_cells (box_keep XA.out hb4); clear hb4)
      | (refine step_appR (w0 := w32) (R := []) (R2 := redL p c R) (by first | rfl | kernel_rfl) (.const (.slice none 0 0)) (.tmp 98) rfl (by first | exact K4.out | exact K4.out.drew) (RowsO.nil _ _) RA.out (by simp) LL.out.1 ?_; intro v5 w5 ho5 hb5; have O5 := hid ho5; have K5 := hid hb5; obtain ⟨k0, k1, k2⟩ := three_cells (box_keep X.out hb5); obtain ⟨j0, j1, j2⟩ := three_cells (box_keep XA.out hb5); clear ho5 hb5)
      | (refine step_appR (w0 := w32) (R := [] ++ redL p c R) (R2 := R) (by first | rfl | kernel_rfl) (.tmp 99) (.tmp 101) rfl (by first | exact K5.out | exact K5.out.drew) O5.out RX.out (by simpa using LL.out.1) LL.out.2 ?_; intro v6 w6 ho6 hb6; have O6 := hid ho6; have K6 := hid hb6; obtain ⟨k0, k1, k2⟩ := three_cells (box_keep X.out hb6); obtain ⟨j0, j1, j2⟩ := three_cells (box_keep XA.out hb6); clear ho6 hb6)
      | (go_at_call 13; (refine (HG.out _ _ (by first | exact K6.out | exact K6.out.drew) (by first | exact O6.out)).mono ?_); rintro e w7 ⟨rfl, hb7⟩; have K7 := hid hb7; obtain ⟨k0, k1, k2⟩ := three_cells (box_keep X.out hb7); obtain ⟨j0, j1, j2⟩ := three_cells (box_keep XA.out hb7); clear hb7))
    replace B := hid (B.out.trans (K7.out.mono B.out.size))
    replace X := hid (box_keep X.out K7.out)
    replace RX := hid (RX.out.below K7.out)
    replace XA := hid (box_keep XA.out K7.out)
    replace RA := hid (RA.out.below K7.out)
    replace XK := hid (box_keep XK.out K7.out)
    clear IR HG K4 K5 K6 K7 O5 O6 LL
    have hkl := kerL_len HM.out
    have hw1 : IntKind.i64.wrap ((c : Int) - ((redL p c R).length : Nat)) = ((kerL p c R).length : Nat) := by rw [IntWalk.i64_in _ (by omega)]; omega
    have hlt : (6 : Int) < ((kerL p c R).length : Nat) := by omega
    clear hk6 hkl hl6 hc8
    obtain ⟨Xc0, Xc1, Xc2⟩ := three_cells X.out
    obtain ⟨XKc0, XKc1, XKc2⟩ := three_cells XK.out
    have CC33 := hid (gone_ok w7)
    go_wp2_with fail
    refine CC33.out.mono ?_
    rintro e w34 ⟨rfl, hb⟩
    clear Xc0 Xc1 Xc2
    clear XKc0 XKc1 XKc2
    replace B := hid (B.out.trans (hb.mono B.out.size))
    replace X := hid (box_keep X.out hb)
    replace RX := hid (RX.out.below hb)
    replace XA := hid (box_keep XA.out hb)
    replace RA := hid (RA.out.below hb)
    replace XK := hid (box_keep XK.out hb)
    clear hb CC33
    go_wp2_with fail
    go_ret
    exact ⟨rfl, B.out⟩
end Go.Proofs.Yteeliinmpbleoaa
