/- rotakeep.FieldKernel. -/
import Derived.Test.YteeliinmpbleoaaFdPQ
import Derived.Test.YteeliinmpbleoaaKLqQ
import Derived.Test.YteeliinmpbleoaaDualQ
import Derived.Test.YteeliinmpbleoaaEqQ
import Derived.Test.YteeliinmpbleoaaOpnQ
namespace Go.Proofs.Yteeliinmpbleoaa
open Go.RowKit

theorem RowsI.lit2 (w : World) (a b : Int) : RowsI ((w.alloc (.cells #[.int .i64 a, .int .i64 b] 3)).alloc (.cells #[.slice (some ⟨w.heap.size, 0, none⟩) 2 2] 37)) (.slice (some ⟨w.heap.size + 1, 0, none⟩) 1 1) [[a, b]] := by
  refine ⟨_, 1, rfl, by simp, fun _ => ⟨w.heap.size + 1, 0, rfl, by simp, fun i hi => ?_⟩⟩
  obtain rfl : i = 0 := by simp at hi; exact hi
  refine ⟨_, by rw [World.cell?_alloc_at _ _ _ _ (by simp)]; rfl, ?_⟩
  exact (Ints.lit2 w a b).below ((Below.refl _ _).alloc (Nat.le_refl _) _)
theorem Linear_ok (p : Int) (c : Nat) (v : Value) (R : List (List Int)) (w : World) (h : RowsI w v R) (hm : MatOK p c R) :
    Calls Try.prog 25 #[.agg #[.int .i64 p, .int .i64 c, v]] w (GivesO w c (bigL c fun s => linB p R c s)) := by
  have := Linear_any p c v R w h
  rw [Int.toNat_natCast] at this
  exact this.mono fun e w' hm' => hm'.1 (MatOK.iff.2 hm)
theorem lin_fam {p : Int} {c : Nat} {R : List (List Int)} (hm : MatOK p c R) : Fam c (bigL c fun s => linB p R c s) := by
  rw [lin_basR hm.pr hm.inF hm.c8']
  exact basR_fam _ _
theorem lin_len {p : Int} {c : Nat} {R : List (List Int)} (hm : MatOK p c R) : (bigL c fun s => linB p R c s).length ≤ 17592186044416 := Nat.le_trans (fam_len hm.c8' (lin_fam hm)) (by decide)
theorem two_mat : MatOK 2 (2 : Nat) [[1, 1]] := MatOK.iff.1 (by decide +kernel)
theorem two_rank : 2 ≤ (redL 2 2 [[1, 1]]).length + 6 := by decide +kernel
theorem two_ker : kerL 2 2 [[1, 1]] = [[1, 1]] := by decide +kernel
set_option maxRecDepth 20000 in
set_option maxHeartbeats 8000000 in
theorem fkernel_law (p c : Int) (v : Value) (R : List (List Int)) (w : World) (h : RowsI w v R) :
    Calls Try.prog 5 #[.agg #[.int .i64 p, .int .i64 c, v]] w fun e w' => e = .returned (.bool true) ∧ Below w.heap.size w w' := by
  have B : Hid (Below w.heap.size w (w.alloc (.cells #[.int .i64 p, .int .i64 c, v] 24))) := (Below.refl _ _).alloc (Nat.le_refl _) _
  have X := hid (World.alloc_heap_new w (.cells #[.int .i64 p, .int .i64 c, v] 24))
  have RX := hid (h.below B.out)
  have hL := RowsI.lit2 (w.alloc (.cells #[.int .i64 p, .int .i64 c, v] 24)) 1 1
  rw [World.size_alloc] at hL
  have CL := hid (Kernel_ok 2 2 _ [[1, 1]] _ hL two_mat two_rank)
  rw [two_ker] at CL
  have BL : Below (w.alloc (.cells #[.int .i64 p, .int .i64 c, v] 24)).heap.size (w.alloc (.cells #[.int .i64 p, .int .i64 c, v] 24)) (((w.alloc (.cells #[.int .i64 p, .int .i64 c, v] 24)).alloc (.cells #[.int .i64 1, .int .i64 1] 3)).alloc (.cells #[.slice (some ⟨w.heap.size + 1, 0, none⟩) 2 2] 37)) := ((Below.refl _ _).alloc (Nat.le_refl _) _).alloc (by simp) _
  clear hL
  have HBL := hid BL
  clear BL
  obtain ⟨a, cap, rfl⟩ := h.form
  clear h
  go_enter Try.func5, Try.ntmps5
  go_wp2_with fail
  refine CL.out.mono ?_
  rintro e w0 ⟨u, rfl, hr, hb0⟩
  obtain ⟨ua, uc, rfl⟩ := hr.form
  have hb1 := HBL.out.trans (hb0.mono HBL.out.size)
  have hk := (Below.refl _ w0).alloc (Nat.le_refl _) (.cells #[.int .i64 2, .int .i64 2, .slice ua [[(1 : Int), 1]].length uc] 24)
  have hb := hb1.trans (hk.mono hb1.size)
  replace B := hid (B.out.trans (hb.mono B.out.size))
  replace X := hid (box_keep X.out hb)
  replace RX := hid (RX.out.below hb)
  have Y := hid (World.alloc_heap_new w0 (.cells #[.int .i64 2, .int .i64 2, .slice ua [[(1 : Int), 1]].length uc] 24))
  have RY := hid (hr.rows.below hk)
  clear hb hb0 hb1 HBL CL hr hk
  have hL := RowsI.lit2 (w0.alloc (.cells #[.int .i64 2, .int .i64 2, .slice ua [[(1 : Int), 1]].length uc] 24)) 1 1
  rw [World.size_alloc] at hL
  have BL : Below (w0.alloc (.cells #[.int .i64 2, .int .i64 2, .slice ua [[(1 : Int), 1]].length uc] 24)).heap.size (w0.alloc (.cells #[.int .i64 2, .int .i64 2, .slice ua [[(1 : Int), 1]].length uc] 24)) (((w0.alloc (.cells #[.int .i64 2, .int .i64 2, .slice ua [[(1 : Int), 1]].length uc] 24)).alloc (.cells #[.int .i64 1, .int .i64 1] 3)).alloc (.cells #[.slice (some ⟨w0.heap.size + 1, 0, none⟩) 2 2] 37)) := ((Below.refl _ _).alloc (Nat.le_refl _) _).alloc (by simp) _
  have CS := hid (RowsI_same _ _ [[1, 1]] _ (RY.out.below BL) hL)
  have HBL := hid BL
  clear hL BL
  obtain ⟨y0, y1, y2⟩ := three_cells Y.out
  go_wp2_with fail
  refine CS.out.mono ?_
  rintro e w1 ⟨rfl, hb0⟩
  have hb := HBL.out.trans (hb0.mono HBL.out.size)
  clear y0 y1 y2
  replace B := hid (B.out.trans (hb.mono B.out.size))
  replace X := hid (box_keep X.out hb)
  replace RX := hid (RX.out.below hb)
  clear Y
  clear RY
  clear hb hb0 HBL CS
  rcases matR_01 p c R with hm | hm
  rotate_left
  · skip
    obtain ⟨Xc0, Xc1, Xc2⟩ := three_cells X.out
    have CC2 := hid (Kernel_bad p c _ R _ RX.out hm)
    go_wp2_with fail
    refine CC2.out.mono ?_
    rintro e w3 ⟨rfl, hb⟩
    clear Xc0 Xc1 Xc2
    have hk := (Below.refl _ w3).alloc (Nat.le_refl _) (.cells #[.int .i64 0, .int .i64 0, .slice none 0 0] 24)
    have hT := hb.trans (hk.mono hb.size)
    replace B := hid (B.out.trans (hT.mono B.out.size))
    replace X := hid (box_keep X.out hT)
    replace RX := hid (RX.out.below hT)
    have XK := hid (World.alloc_heap_new w3 (.cells #[.int .i64 0, .int .i64 0, .slice none 0 0] 24))
    clear hk hT hb CC2
    obtain ⟨XKc0, XKc1, XKc2⟩ := three_cells XK.out
    go_wp2_with fail
    go_ret
    exact ⟨rfl, B.out⟩
  have HM := hid (MatOK.of hm)
  obtain ⟨c, rfl⟩ : ∃ k : Nat, c = k := ⟨c.toNat, by have := HM.out.c0; omega⟩
  clear hm
  by_cases hk6 : c ≤ (redL p c R).length + 6
  rotate_left
  · skip
    obtain ⟨Xc0, Xc1, Xc2⟩ := three_cells X.out
    have CC4 := hid (Kernel_large p c _ R _ RX.out HM.out (by omega))
    go_wp2_with fail
    refine CC4.out.mono ?_
    rintro e w5 ⟨rfl, hb⟩
    clear Xc0 Xc1 Xc2
    have hk := (Below.refl _ w5).alloc (Nat.le_refl _) (.cells #[.int .i64 0, .int .i64 0, .slice none 0 0] 24)
    have hT := hb.trans (hk.mono hb.size)
    replace B := hid (B.out.trans (hT.mono B.out.size))
    replace X := hid (box_keep X.out hT)
    replace RX := hid (RX.out.below hT)
    have XK := hid (World.alloc_heap_new w5 (.cells #[.int .i64 0, .int .i64 0, .slice none 0 0] 24))
    clear hk hT hb CC4
    obtain ⟨XKc0, XKc1, XKc2⟩ := three_cells XK.out
    go_wp2_with fail
    go_ret
    exact ⟨rfl, B.out⟩
  have HK6 := hid hk6
  clear hk6
  obtain ⟨Xc0, Xc1, Xc2⟩ := three_cells X.out
  have CC6 := hid (Kernel_ok p c _ R _ RX.out HM.out HK6.out)
  go_wp2_with fail
  refine CC6.out.mono ?_
  rintro e w7 ⟨u, rfl, hr, hb⟩
  obtain ⟨uka, ukc, rfl⟩ := hr.form
  clear Xc0 Xc1 Xc2
  have hk := (Below.refl _ w7).alloc (Nat.le_refl _) (.cells #[.int .i64 p, .int .i64 c, .slice uka (kerL p c R).length ukc] 24)
  have hT := hb.trans (hk.mono hb.size)
  replace B := hid (B.out.trans (hT.mono B.out.size))
  replace X := hid (box_keep X.out hT)
  replace RX := hid (RX.out.below hT)
  have XK := hid (World.alloc_heap_new w7 (.cells #[.int .i64 p, .int .i64 c, .slice uka (kerL p c R).length ukc] 24))
  have RK := hid ((hr.rows).below hk)
  clear hk hT hb CC6 hr
  have HMK := hid (kerL_ok HM.out HK6.out)
  obtain ⟨XKc0, XKc1, XKc2⟩ := three_cells XK.out
  have CC8 := hid (Kernel_ok p c _ (kerL p c R) _ RK.out HMK.out (ker_rank HM.out HK6.out))
  rw [kerL_twice HM.out HK6.out] at CC8
  go_wp2_with fail
  refine CC8.out.mono ?_
  rintro e w9 ⟨u, rfl, hr, hb⟩
  obtain ⟨uba, ubc, rfl⟩ := hr.form
  clear XKc0 XKc1 XKc2
  have hk := (Below.refl _ w9).alloc (Nat.le_refl _) (.cells #[.int .i64 p, .int .i64 c, .slice uba (redL p c R).length ubc] 24)
  have hT := hb.trans (hk.mono hb.size)
  replace B := hid (B.out.trans (hT.mono B.out.size))
  replace X := hid (box_keep X.out hT)
  replace RX := hid (RX.out.below hT)
  replace XK := hid (box_keep XK.out hT)
  replace RK := hid (RK.out.below hT)
  have XB := hid (World.alloc_heap_new w9 (.cells #[.int .i64 p, .int .i64 c, .slice uba (redL p c R).length ubc] 24))
  have RB := hid ((hr.rows).below hk)
  clear hk hT hb CC8 hr
  obtain ⟨Xc0, Xc1, Xc2⟩ := three_cells X.out
  have CC10 := hid (Reduced_ok p c _ R _ RX.out HM.out)
  go_wp2_with fail
  refine CC10.out.mono ?_
  rintro e w11 ⟨u, rfl, hr, hb⟩
  obtain ⟨ura, urc, rfl⟩ := hr.form
  clear Xc0 Xc1 Xc2
  have hk := (Below.refl _ w11).alloc (Nat.le_refl _) (.cells #[.int .i64 p, .int .i64 c, .slice ura (redL p c R).length urc] 24)
  have hT := hb.trans (hk.mono hb.size)
  replace B := hid (B.out.trans (hT.mono B.out.size))
  replace X := hid (box_keep X.out hT)
  replace RX := hid (RX.out.below hT)
  replace XK := hid (box_keep XK.out hT)
  replace RK := hid (RK.out.below hT)
  replace XB := hid (box_keep XB.out hT)
  replace RB := hid (RB.out.below hT)
  have XR := hid (World.alloc_heap_new w11 (.cells #[.int .i64 p, .int .i64 c, .slice ura (redL p c R).length urc] 24))
  have RR := hid ((hr.rows).below hk)
  clear hk hT hb CC10 hr
  obtain ⟨Xc0, Xc1, Xc2⟩ := three_cells X.out
  have CC12 := hid (Linear_ok p c _ R _ RX.out HM.out)
  go_wp2_with fail
  refine CC12.out.mono ?_
  rintro e w13 ⟨u, rfl, hr, hb⟩
  obtain ⟨uma, umc, rfl⟩ := ownsRow_form' hr
  clear Xc0 Xc1 Xc2
  have hk := (Below.refl _ w13).alloc (Nat.le_refl _) (.cells #[.int .i64 c, .slice uma (bigL c fun s => linB p R c s).length umc] 42)
  have hT := hb.trans (hk.mono hb.size)
  replace B := hid (B.out.trans (hT.mono B.out.size))
  replace X := hid (box_keep X.out hT)
  replace RX := hid (RX.out.below hT)
  replace XK := hid (box_keep XK.out hT)
  replace RK := hid (RK.out.below hT)
  replace XB := hid (box_keep XB.out hT)
  replace RB := hid (RB.out.below hT)
  replace XR := hid (box_keep XR.out hT)
  replace RR := hid (RR.out.below hT)
  have XM := hid (World.alloc_heap_new w13 (.cells #[.int .i64 c, .slice uma (bigL c fun s => linB p R c s).length umc] 42))
  have IM := hid ((hr.ints (lin_len HM.out)).below hk)
  clear hk hT hb CC12 hr
  obtain ⟨XKc0, XKc1, XKc2⟩ := three_cells XK.out
  have CC14 := hid (Linear_ok p c _ (kerL p c R) _ RK.out HMK.out)
  go_wp2_with fail
  refine CC14.out.mono ?_
  rintro e w15 ⟨u, rfl, hr, hb⟩
  obtain ⟨uda, udc, rfl⟩ := ownsRow_form' hr
  clear XKc0 XKc1 XKc2
  have hk := (Below.refl _ w15).alloc (Nat.le_refl _) (.cells #[.int .i64 c, .slice uda (bigL c fun s => linB p (kerL p c R) c s).length udc] 42)
  have hT := hb.trans (hk.mono hb.size)
  replace B := hid (B.out.trans (hT.mono B.out.size))
  replace X := hid (box_keep X.out hT)
  replace RX := hid (RX.out.below hT)
  replace XK := hid (box_keep XK.out hT)
  replace RK := hid (RK.out.below hT)
  replace XB := hid (box_keep XB.out hT)
  replace RB := hid (RB.out.below hT)
  replace XR := hid (box_keep XR.out hT)
  replace RR := hid (RR.out.below hT)
  replace XM := hid (box_keep XM.out hT)
  replace IM := hid (IM.out.below hT)
  have XD := hid (World.alloc_heap_new w15 (.cells #[.int .i64 c, .slice uda (bigL c fun s => linB p (kerL p c R) c s).length udc] 42))
  have ID := hid ((hr.ints (lin_len HMK.out)).below hk)
  clear hk hT hb CC14 hr
  obtain ⟨XMc0, XMc1⟩ := two_cells XM.out
  have CC16 := hid (Dual_ok c _ (bigL c fun s => linB p R c s) _ HM.out.c8' (lin_fam HM.out) (lin_bas HM.out.pr HM.out.inF HM.out.c8') IM.out)
  rw [ker_dual HM.out HK6.out] at CC16
  go_wp2_with fail
  refine CC16.out.mono ?_
  rintro e w17 ⟨u, rfl, hr, hb⟩
  obtain ⟨uua, uuc, rfl⟩ := ownsRow_form' hr
  clear XMc0 XMc1
  have hk := (Below.refl _ w17).alloc (Nat.le_refl _) (.cells #[.int .i64 c, .slice uua (bigL c fun s => linB p (kerL p c R) c s).length uuc] 42)
  have hT := hb.trans (hk.mono hb.size)
  replace B := hid (B.out.trans (hT.mono B.out.size))
  replace X := hid (box_keep X.out hT)
  replace RX := hid (RX.out.below hT)
  replace XK := hid (box_keep XK.out hT)
  replace RK := hid (RK.out.below hT)
  replace XB := hid (box_keep XB.out hT)
  replace RB := hid (RB.out.below hT)
  replace XR := hid (box_keep XR.out hT)
  replace RR := hid (RR.out.below hT)
  replace XM := hid (box_keep XM.out hT)
  replace IM := hid (IM.out.below hT)
  replace XD := hid (box_keep XD.out hT)
  replace ID := hid (ID.out.below hT)
  have XU := hid (World.alloc_heap_new w17 (.cells #[.int .i64 c, .slice uua (bigL c fun s => linB p (kerL p c R) c s).length uuc] 42))
  have IU := hid ((hr.ints (lin_len HMK.out)).below hk)
  clear hk hT hb CC16 hr
  obtain ⟨XBc0, XBc1, XBc2⟩ := three_cells XB.out
  obtain ⟨XRc0, XRc1, XRc2⟩ := three_cells XR.out
  have CC18 := hid (RowsI_same _ _ (redL p c R) _ RB.out RR.out)
  go_wp2_with fail
  refine CC18.out.mono ?_
  rintro e w19 ⟨rfl, hb⟩
  clear XBc0 XBc1 XBc2 XRc0 XRc1 XRc2
  replace B := hid (B.out.trans (hb.mono B.out.size))
  replace X := hid (box_keep X.out hb)
  replace RX := hid (RX.out.below hb)
  clear XK
  clear RK
  clear XB
  clear RB
  clear XR
  clear RR
  clear XM
  clear IM
  replace XD := hid (box_keep XD.out hb)
  replace ID := hid (ID.out.below hb)
  replace XU := hid (box_keep XU.out hb)
  replace IU := hid (IU.out.below hb)
  clear hb CC18
  obtain ⟨XUc0, XUc1⟩ := two_cells XU.out
  obtain ⟨XDc0, XDc1⟩ := two_cells XD.out
  have CC20 := hid (SameMatroid_any c c _ _ (N (bigL c fun s => linB p (kerL p c R) c s)) (N (bigL c fun s => linB p (kerL p c R) c s)) _ IU.out ID.out)
  rw [show (decide ((c : Int) = (c : Int)) && decide (N (bigL c fun s => linB p (kerL p c R) c s) = N (bigL c fun s => linB p (kerL p c R) c s))) = true by simp] at CC20
  go_wp2_with fail
  refine CC20.out.mono ?_
  rintro e w21 ⟨rfl, hb⟩
  clear XUc0 XUc1 XDc0 XDc1
  replace B := hid (B.out.trans (hb.mono B.out.size))
  replace X := hid (box_keep X.out hb)
  replace RX := hid (RX.out.below hb)
  replace XD := hid (box_keep XD.out hb)
  replace ID := hid (ID.out.below hb)
  replace XU := hid (box_keep XU.out hb)
  replace IU := hid (IU.out.below hb)
  clear hb CC20
  go_wp2_with fail
  go_ret
  exact ⟨rfl, B.out⟩
end Go.Proofs.Yteeliinmpbleoaa
