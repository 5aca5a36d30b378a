/- rotakeep.FieldRing. -/
import Derived.Test.YteeliinmpbleoaaFdLQ
import Derived.Test.YteeliinmpbleoaaOpnQ
namespace Go.Proofs.Yteeliinmpbleoaa
open Go.RowKit

theorem one_mat : MatOK 7 (1 : Nat) [[4]] := MatOK.iff.1 (by decide +kernel)
theorem one_rank : (redL 7 1 [[4]]).length = 1 := by decide +kernel
set_option maxRecDepth 20000 in
set_option maxHeartbeats 8000000 in
theorem fring_law (p c : Int) (v : Value) (R : List (List Int)) (p2 c2 : Int) (v2 : Value) (R2 : List (List Int)) (p3 c3 : Int) (v3 : Value) (R3 : List (List Int)) (w : World) (h : RowsI w v R) (h2 : RowsI w v2 R2) (h3 : RowsI w v3 R3) :
    Calls Try.prog 7 #[.agg #[.int .i64 p, .int .i64 c, v], .agg #[.int .i64 p2, .int .i64 c2, v2], .agg #[.int .i64 p3, .int .i64 c3, v3]] w fun e w' => e = .returned (.bool true) ∧ Below w.heap.size w w' := by
  have b1 : Below w.heap.size w (w.alloc (.cells #[.int .i64 p, .int .i64 c, v] 24)) := (Below.refl _ _).alloc (Nat.le_refl _) _
  have b2 : Below w.heap.size w ((w.alloc (.cells #[.int .i64 p, .int .i64 c, v] 24)).alloc (.cells #[.int .i64 p2, .int .i64 c2, v2] 24)) := b1.alloc (by simp) _
  have b3 : Below w.heap.size w (((w.alloc (.cells #[.int .i64 p, .int .i64 c, v] 24)).alloc (.cells #[.int .i64 p2, .int .i64 c2, v2] 24)).alloc (.cells #[.int .i64 p3, .int .i64 c3, v3] 24)) := b2.alloc (by simp; omega) _
  have S0 : (((w.alloc (.cells #[.int .i64 p, .int .i64 c, v] 24)).alloc (.cells #[.int .i64 p2, .int .i64 c2, v2] 24)).alloc (.cells #[.int .i64 p3, .int .i64 c3, v3] 24)).heap.size = w.heap.size + 3 := by simp
  have B : Hid (Below w.heap.size w (((w.alloc (.cells #[.int .i64 p, .int .i64 c, v] 24)).alloc (.cells #[.int .i64 p2, .int .i64 c2, v2] 24)).alloc (.cells #[.int .i64 p3, .int .i64 c3, v3] 24))) := b3
  have X : Hid ((((w.alloc (.cells #[.int .i64 p, .int .i64 c, v] 24)).alloc (.cells #[.int .i64 p2, .int .i64 c2, v2] 24)).alloc (.cells #[.int .i64 p3, .int .i64 c3, v3] 24)).heap[w.heap.size]? = some (.cells #[.int .i64 p, .int .i64 c, v] 24 (0, 0))) := by
    show _ = _
    rw [Below.heap_alloc _ _ _ (by simp; omega), Below.heap_alloc _ _ _ (by simp)]
    exact World.alloc_heap_new w _
  have Y : Hid ((((w.alloc (.cells #[.int .i64 p, .int .i64 c, v] 24)).alloc (.cells #[.int .i64 p2, .int .i64 c2, v2] 24)).alloc (.cells #[.int .i64 p3, .int .i64 c3, v3] 24)).heap[w.heap.size + 1]? = some (.cells #[.int .i64 p2, .int .i64 c2, v2] 24 (0, 0))) := by
    show _ = _
    rw [Below.heap_alloc _ _ _ (by simp)]
    have := World.alloc_heap_new (w.alloc (.cells #[.int .i64 p, .int .i64 c, v] 24)) (.cells #[.int .i64 p2, .int .i64 c2, v2] 24)
    rwa [World.size_alloc] at this
  have Z : Hid ((((w.alloc (.cells #[.int .i64 p, .int .i64 c, v] 24)).alloc (.cells #[.int .i64 p2, .int .i64 c2, v2] 24)).alloc (.cells #[.int .i64 p3, .int .i64 c3, v3] 24)).heap[w.heap.size + 2]? = some (.cells #[.int .i64 p3, .int .i64 c3, v3] 24 (0, 0))) := by
    have := World.alloc_heap_new ((w.alloc (.cells #[.int .i64 p, .int .i64 c, v] 24)).alloc (.cells #[.int .i64 p2, .int .i64 c2, v2] 24)) (.cells #[.int .i64 p3, .int .i64 c3, v3] 24)
    rwa [World.size_alloc, World.size_alloc] at this
  have RX := hid (h.below b3)
  have RY := hid (h2.below b3)
  have RZ := hid (h3.below b3)
  have hL := RowsI.lit1 (((w.alloc (.cells #[.int .i64 p, .int .i64 c, v] 24)).alloc (.cells #[.int .i64 p2, .int .i64 c2, v2] 24)).alloc (.cells #[.int .i64 p3, .int .i64 c3, v3] 24)) 4
  rw [S0] at hL
  have CL := hid (Rank_ok 7 1 _ [[4]] (((((w.alloc (.cells #[.int .i64 p, .int .i64 c, v] 24)).alloc (.cells #[.int .i64 p2, .int .i64 c2, v2] 24)).alloc (.cells #[.int .i64 p3, .int .i64 c3, v3] 24)).alloc (.cells #[.int .i64 4] 3)).alloc (.cells #[.slice (some ⟨w.heap.size + 3, 0, none⟩) 1 1] 37)) hL one_mat)
  rw [one_rank] at CL
  have BL : Below (((w.alloc (.cells #[.int .i64 p, .int .i64 c, v] 24)).alloc (.cells #[.int .i64 p2, .int .i64 c2, v2] 24)).alloc (.cells #[.int .i64 p3, .int .i64 c3, v3] 24)).heap.size (((w.alloc (.cells #[.int .i64 p, .int .i64 c, v] 24)).alloc (.cells #[.int .i64 p2, .int .i64 c2, v2] 24)).alloc (.cells #[.int .i64 p3, .int .i64 c3, v3] 24)) (((((w.alloc (.cells #[.int .i64 p, .int .i64 c, v] 24)).alloc (.cells #[.int .i64 p2, .int .i64 c2, v2] 24)).alloc (.cells #[.int .i64 p3, .int .i64 c3, v3] 24)).alloc (.cells #[.int .i64 4] 3)).alloc (.cells #[.slice (some ⟨w.heap.size + 3, 0, none⟩) 1 1] 37)) := ((Below.refl _ _).alloc (Nat.le_refl _) _).alloc (by simp) _
  clear b1 b2 b3 hL
  have HBL := hid BL
  clear BL
  obtain ⟨a, cap, rfl⟩ := h.form
  obtain ⟨a2, cap2, rfl⟩ := h2.form
  obtain ⟨a3, cap3, rfl⟩ := h3.form
  clear h h2 h3
  go_enter Try.func7, Try.ntmps7
  go_wp2_with fail
  refine CL.out.mono ?_
  rintro e w0 ⟨rfl, hb0⟩
  have hb := HBL.out.trans (hb0.mono HBL.out.size)
  replace B := hid (B.out.trans (hb.mono B.out.size))
  replace X := hid (box_keep X.out hb)
  replace Y := hid (box_keep Y.out hb)
  replace Z := hid (box_keep Z.out hb)
  replace RX := hid (RX.out.below hb)
  replace RY := hid (RY.out.below hb)
  replace RZ := hid (RZ.out.below hb)
  clear hb hb0 HBL CL S0
  rcases matR_01 p c R with hm | hm
  rotate_left
  · skip
    obtain ⟨Xc0, Xc1, Xc2⟩ := three_cells X.out
    have CC1 := hid (Reduced_bad p c _ R _ RX.out hm)
    go_wp2_with fail
    refine CC1.out.mono ?_
    rintro e w2 ⟨rfl, hb⟩
    clear Xc0 Xc1 Xc2
    have hk := (Below.refl _ w2).alloc (Nat.le_refl _) (.cells #[.int .i64 0, .int .i64 0, .slice none 0 0] 24)
    have hT := hb.trans (hk.mono hb.size)
    replace B := hid (B.out.trans (hT.mono B.out.size))
    replace X := hid (box_keep X.out hT)
    replace Y := hid (box_keep Y.out hT)
    replace Z := hid (box_keep Z.out hT)
    replace RX := hid (RX.out.below hT)
    replace RY := hid (RY.out.below hT)
    replace RZ := hid (RZ.out.below hT)
    have XA := hid (World.alloc_heap_new w2 (.cells #[.int .i64 0, .int .i64 0, .slice none 0 0] 24))
    clear hk hT hb CC1
    obtain ⟨XAc0, XAc1, XAc2⟩ := three_cells XA.out
    go_wp2_with fail
    go_ret
    exact ⟨rfl, B.out⟩
  have HM := hid (MatOK.of hm)
  obtain ⟨c, rfl⟩ : ∃ k : Nat, c = k := ⟨c.toNat, by have := HM.out.c0; omega⟩
  clear hm
  obtain ⟨Xc0, Xc1, Xc2⟩ := three_cells X.out
  have CC3 := hid (Reduced_ok p c _ R _ RX.out HM.out)
  go_wp2_with fail
  refine CC3.out.mono ?_
  rintro e w4 ⟨u, rfl, hr, hb⟩
  obtain ⟨ua, uc, rfl⟩ := hr.form
  clear Xc0 Xc1 Xc2
  have hk := (Below.refl _ w4).alloc (Nat.le_refl _) (.cells #[.int .i64 p, .int .i64 c, .slice ua (redL p c R).length uc] 24)
  have hT := hb.trans (hk.mono hb.size)
  replace B := hid (B.out.trans (hT.mono B.out.size))
  replace X := hid (box_keep X.out hT)
  replace Y := hid (box_keep Y.out hT)
  replace Z := hid (box_keep Z.out hT)
  replace RX := hid (RX.out.below hT)
  replace RY := hid (RY.out.below hT)
  replace RZ := hid (RZ.out.below hT)
  have XA := hid (World.alloc_heap_new w4 (.cells #[.int .i64 p, .int .i64 c, .slice ua (redL p c R).length uc] 24))
  have RA := hid (hr.rows.below hk)
  clear hk hT hb CC3 hr
  obtain ⟨XAc0, XAc1, XAc2⟩ := three_cells XA.out
  have CC5 := hid (Reduced_ok p c _ (redL p c R) _ RA.out (redL_ok HM.out))
  rw [redL_twice HM.out] at CC5
  go_wp2_with fail
  refine CC5.out.mono ?_
  rintro e w6 ⟨u2, rfl, hr, hb⟩
  obtain ⟨uba, ubc, rfl⟩ := hr.form
  clear XAc0 XAc1 XAc2
  have hk := (Below.refl _ w6).alloc (Nat.le_refl _) (.cells #[.int .i64 p, .int .i64 c, .slice uba (redL p c R).length ubc] 24)
  have hT := hb.trans (hk.mono hb.size)
  replace B := hid (B.out.trans (hT.mono B.out.size))
  replace X := hid (box_keep X.out hT)
  replace Y := hid (box_keep Y.out hT)
  replace Z := hid (box_keep Z.out hT)
  replace RX := hid (RX.out.below hT)
  replace RY := hid (RY.out.below hT)
  replace RZ := hid (RZ.out.below hT)
  replace XA := hid (box_keep XA.out hT)
  replace RA := hid (RA.out.below hT)
  have XB := hid (World.alloc_heap_new w6 (.cells #[.int .i64 p, .int .i64 c, .slice uba (redL p c R).length ubc] 24))
  have RB := hid (hr.rows.below hk)
  clear hk hT hb CC5 hr
  obtain ⟨XAc0, XAc1, XAc2⟩ := three_cells XA.out
  obtain ⟨XBc0, XBc1, XBc2⟩ := three_cells XB.out
  have CC7 := hid (RowsI_same _ _ (redL p c R) _ RA.out RB.out)
  go_wp2_with fail
  refine CC7.out.mono ?_
  rintro e w8 ⟨rfl, hb⟩
  clear XAc0 XAc1 XAc2 XBc0 XBc1 XBc2
  replace B := hid (B.out.trans (hb.mono B.out.size))
  replace X := hid (box_keep X.out hb)
  replace Y := hid (box_keep Y.out hb)
  replace Z := hid (box_keep Z.out hb)
  replace RX := hid (RX.out.below hb)
  replace RY := hid (RY.out.below hb)
  replace RZ := hid (RZ.out.below hb)
  clear XA
  clear RA
  clear XB
  clear RB
  clear hb CC7
  by_cases hn : matR p2 c2 R2 = 0 ∧ p = p2 ∧ c = R2.length
  rotate_left
  · skip
    obtain ⟨Xc0, Xc1, Xc2⟩ := three_cells X.out
    obtain ⟨Yc0, Yc1, Yc2⟩ := three_cells Y.out
    have CC9 := hid (Times_no p c p2 c2 _ _ R R2 _ RX.out RY.out HM.out hn)
    go_wp2_with fail
    refine CC9.out.mono ?_
    rintro e w10 ⟨q, hq, rfl, hb⟩
    clear Xc0 Xc1 Xc2 Yc0 Yc1 Yc2
    have hk := (Below.refl _ w10).alloc (Nat.le_refl _) (.cells #[.int .i64 0, .int .i64 0, .slice none 0 0] 24)
    have hT := hb.trans (hk.mono hb.size)
    replace B := hid (B.out.trans (hT.mono B.out.size))
    replace X := hid (box_keep X.out hT)
    replace Y := hid (box_keep Y.out hT)
    replace Z := hid (box_keep Z.out hT)
    replace RX := hid (RX.out.below hT)
    replace RY := hid (RY.out.below hT)
    replace RZ := hid (RZ.out.below hT)
    have XP := hid (World.alloc_heap_new w10 (.cells #[.int .i64 0, .int .i64 0, .slice none 0 0] 24))
    clear hk hT hb CC9
    obtain ⟨XPc0, XPc1, XPc2⟩ := three_cells XP.out
    have hq' : (q != 0) = true := by rw [bne_iff_ne]; exact hq
    clear hq
    go_wp2_with fail
    go_ret
    exact ⟨rfl, B.out⟩
  obtain ⟨hm2, rfl, he2⟩ := hn
  have HM2 := hid (MatOK.of hm2)
  obtain ⟨c2, rfl⟩ : ∃ k : Nat, c2 = k := ⟨c2.toNat, by have := HM2.out.c0; omega⟩
  have HE2 := hid he2
  clear hm2 he2
  obtain ⟨Xc0, Xc1, Xc2⟩ := three_cells X.out
  obtain ⟨Yc0, Yc1, Yc2⟩ := three_cells Y.out
  have CC11 := hid (Times_ok p c p c2 _ _ R R2 _ RX.out RY.out HM.out HM2.out rfl HE2.out)
  go_wp2_with fail
  refine CC11.out.mono ?_
  rintro e w12 ⟨u, rfl, hr, hb⟩
  obtain ⟨upa, upc, rfl⟩ := hr.form
  clear Xc0 Xc1 Xc2 Yc0 Yc1 Yc2
  have hk := (Below.refl _ w12).alloc (Nat.le_refl _) (.cells #[.int .i64 p, .int .i64 c2, .slice upa (timL p c c2 R R2).length upc] 24)
  have hT := hb.trans (hk.mono hb.size)
  replace B := hid (B.out.trans (hT.mono B.out.size))
  replace X := hid (box_keep X.out hT)
  replace Y := hid (box_keep Y.out hT)
  replace Z := hid (box_keep Z.out hT)
  replace RX := hid (RX.out.below hT)
  replace RY := hid (RY.out.below hT)
  replace RZ := hid (RZ.out.below hT)
  have XP := hid (World.alloc_heap_new w12 (.cells #[.int .i64 p, .int .i64 c2, .slice upa (timL p c c2 R R2).length upc] 24))
  have RP := hid (hr.rows.below hk)
  clear hk hT hb CC11 hr
  have HMP := hid (timL_ok HM.out HM2.out)
  obtain ⟨Xc0, Xc1, Xc2⟩ := three_cells X.out
  have CC13 := hid (Rank_ok p c _ R _ RX.out HM.out)
  go_wp2_with fail
  refine CC13.out.mono ?_
  rintro e w14 ⟨rfl, hb⟩
  clear Xc0 Xc1 Xc2
  replace B := hid (B.out.trans (hb.mono B.out.size))
  replace X := hid (box_keep X.out hb)
  replace Y := hid (box_keep Y.out hb)
  replace Z := hid (box_keep Z.out hb)
  replace RX := hid (RX.out.below hb)
  replace RY := hid (RY.out.below hb)
  replace RZ := hid (RZ.out.below hb)
  replace XP := hid (box_keep XP.out hb)
  replace RP := hid (RP.out.below hb)
  clear hb CC13
  obtain ⟨Yc0, Yc1, Yc2⟩ := three_cells Y.out
  have CC15 := hid (Rank_ok p c2 _ R2 _ RY.out HM2.out)
  go_wp2_with fail
  refine CC15.out.mono ?_
  rintro e w16 ⟨rfl, hb⟩
  clear Yc0 Yc1 Yc2
  replace B := hid (B.out.trans (hb.mono B.out.size))
  replace X := hid (box_keep X.out hb)
  replace Y := hid (box_keep Y.out hb)
  replace Z := hid (box_keep Z.out hb)
  replace RX := hid (RX.out.below hb)
  replace RY := hid (RY.out.below hb)
  replace RZ := hid (RZ.out.below hb)
  replace XP := hid (box_keep XP.out hb)
  replace RP := hid (RP.out.below hb)
  clear hb CC15
  obtain ⟨XPc0, XPc1, XPc2⟩ := three_cells XP.out
  have CC17 := hid (Rank_ok p c2 _ (timL p c c2 R R2) _ RP.out HMP.out)
  go_wp2_with fail
  refine CC17.out.mono ?_
  rintro e w18 ⟨rfl, hb⟩
  clear XPc0 XPc1 XPc2
  replace B := hid (B.out.trans (hb.mono B.out.size))
  replace X := hid (box_keep X.out hb)
  replace Y := hid (box_keep Y.out hb)
  replace Z := hid (box_keep Z.out hb)
  replace RX := hid (RX.out.below hb)
  replace RY := hid (RY.out.below hb)
  replace RZ := hid (RZ.out.below hb)
  replace XP := hid (box_keep XP.out hb)
  replace RP := hid (RP.out.below hb)
  clear hb CC17
  obtain ⟨rk1, rk2⟩ := rank_mul HM.out HM2.out HE2.out
  have c6 : c ≤ 6 := by have := HM2.out.rl; have := HE2.out; omega
  generalize (redL p c R).length = n1 at *
  generalize (redL p c2 R2).length = n2 at *
  generalize (redL p c2 (timL p c c2 R R2)).length = n3 at *
  obtain ⟨mn, rk3, rk4⟩ : ∃ mn : Int, (if n2 < n1 then (n2 : Int) else (n1 : Int)) = mn ∧ ¬ mn < (n3 : Int) := ⟨_, rfl, by split <;> omega⟩
  clear rk1 rk2
  obtain ⟨Xc0, Xc1, Xc2⟩ := three_cells X.out
  have CC19 := hid (Turned_ok p c _ R _ RX.out HM.out c6)
  go_wp2_with fail
  refine CC19.out.mono ?_
  rintro e w20 ⟨u, rfl, hr, hb⟩
  obtain ⟨usa, usc, rfl⟩ := hr.form
  clear rk3 rk4
  clear Xc0 Xc1 Xc2
  have hk := (Below.refl _ w20).alloc (Nat.le_refl _) (.cells #[.int .i64 p, .int .i64 (R.length : Nat), .slice usa (turL c R).length usc] 24)
  have hT := hb.trans (hk.mono hb.size)
  replace B := hid (B.out.trans (hT.mono B.out.size))
  replace X := hid (box_keep X.out hT)
  replace Y := hid (box_keep Y.out hT)
  replace Z := hid (box_keep Z.out hT)
  replace RX := hid (RX.out.below hT)
  replace RY := hid (RY.out.below hT)
  replace RZ := hid (RZ.out.below hT)
  replace XP := hid (box_keep XP.out hT)
  replace RP := hid (RP.out.below hT)
  have XS := hid (World.alloc_heap_new w20 (.cells #[.int .i64 p, .int .i64 (R.length : Nat), .slice usa (turL c R).length usc] 24))
  have RS := hid (hr.rows.below hk)
  clear hk hT hb CC19 hr
  have HMS := hid (turL_ok HM.out c6)
  by_cases c26 : c2 ≤ 6
  · skip
    obtain ⟨Yc0, Yc1, Yc2⟩ := three_cells Y.out
    have CC21 := hid (Turned_ok p c2 _ R2 _ RY.out HM2.out c26)
    go_wp2_with fail
    refine CC21.out.mono ?_
    rintro e w22 ⟨u, rfl, hr, hb⟩
    obtain ⟨uta, utc, rfl⟩ := hr.form
    clear Yc0 Yc1 Yc2
    have hk := (Below.refl _ w22).alloc (Nat.le_refl _) (.cells #[.int .i64 p, .int .i64 (R2.length : Nat), .slice uta (turL c2 R2).length utc] 24)
    have hT := hb.trans (hk.mono hb.size)
    replace B := hid (B.out.trans (hT.mono B.out.size))
    replace X := hid (box_keep X.out hT)
    replace Y := hid (box_keep Y.out hT)
    replace Z := hid (box_keep Z.out hT)
    replace RX := hid (RX.out.below hT)
    replace RY := hid (RY.out.below hT)
    replace RZ := hid (RZ.out.below hT)
    replace XP := hid (box_keep XP.out hT)
    replace RP := hid (RP.out.below hT)
    replace XS := hid (box_keep XS.out hT)
    replace RS := hid (RS.out.below hT)
    have XT := hid (World.alloc_heap_new w22 (.cells #[.int .i64 p, .int .i64 (R2.length : Nat), .slice uta (turL c2 R2).length utc] 24))
    have RT := hid (hr.rows.below hk)
    clear hk hT hb CC21 hr
    have HMT := hid (turL_ok HM2.out c26)
    obtain ⟨XTc0, XTc1, XTc2⟩ := three_cells XT.out
    obtain ⟨XSc0, XSc1, XSc2⟩ := three_cells XS.out
    have CC23 := hid (Times_ok p R2.length p R.length _ _ (turL c2 R2) (turL c R) _ RT.out RS.out HMT.out HMS.out rfl (HE2.out.symm.trans (turL_len _ _).symm))
    rw [show (timL p R2.length R.length (turL c2 R2) (turL c R)) = (turL c2 (timL p c c2 R R2)) from tur_mul HM.out HE2.out] at CC23
    go_wp2_with fail
    refine CC23.out.mono ?_
    rintro e w24 ⟨u, rfl, hr, hb⟩
    obtain ⟨uua, uuc, rfl⟩ := hr.form
    clear XTc0 XTc1 XTc2 XSc0 XSc1 XSc2
    have hk := (Below.refl _ w24).alloc (Nat.le_refl _) (.cells #[.int .i64 p, .int .i64 (R.length : Nat), .slice uua (turL c2 (timL p c c2 R R2)).length uuc] 24)
    have hT := hb.trans (hk.mono hb.size)
    replace B := hid (B.out.trans (hT.mono B.out.size))
    replace X := hid (box_keep X.out hT)
    replace Y := hid (box_keep Y.out hT)
    replace Z := hid (box_keep Z.out hT)
    replace RX := hid (RX.out.below hT)
    replace RY := hid (RY.out.below hT)
    replace RZ := hid (RZ.out.below hT)
    replace XP := hid (box_keep XP.out hT)
    replace RP := hid (RP.out.below hT)
    replace XS := hid (box_keep XS.out hT)
    replace RS := hid (RS.out.below hT)
    replace XT := hid (box_keep XT.out hT)
    replace RT := hid (RT.out.below hT)
    have XU := hid (World.alloc_heap_new w24 (.cells #[.int .i64 p, .int .i64 (R.length : Nat), .slice uua (turL c2 (timL p c c2 R R2)).length uuc] 24))
    have RU := hid (hr.rows.below hk)
    clear hk hT hb CC23 hr
    obtain ⟨XPc0, XPc1, XPc2⟩ := three_cells XP.out
    have CC25 := hid (Turned_ok p c2 _ (timL p c c2 R R2) _ RP.out HMP.out c26)
    go_wp2_with fail
    refine CC25.out.mono ?_
    rintro e w26 ⟨u, rfl, hr, hb⟩
    obtain ⟨uva, uvc, rfl⟩ := hr.form
    clear XPc0 XPc1 XPc2
    have hk := (Below.refl _ w26).alloc (Nat.le_refl _) (.cells #[.int .i64 p, .int .i64 ((timL p c c2 R R2).length : Nat), .slice uva (turL c2 (timL p c c2 R R2)).length uvc] 24)
    have hT := hb.trans (hk.mono hb.size)
    replace B := hid (B.out.trans (hT.mono B.out.size))
    replace X := hid (box_keep X.out hT)
    replace Y := hid (box_keep Y.out hT)
    replace Z := hid (box_keep Z.out hT)
    replace RX := hid (RX.out.below hT)
    replace RY := hid (RY.out.below hT)
    replace RZ := hid (RZ.out.below hT)
    replace XP := hid (box_keep XP.out hT)
    replace RP := hid (RP.out.below hT)
    replace XS := hid (box_keep XS.out hT)
    replace RS := hid (RS.out.below hT)
    replace XT := hid (box_keep XT.out hT)
    replace RT := hid (RT.out.below hT)
    replace XU := hid (box_keep XU.out hT)
    replace RU := hid (RU.out.below hT)
    have XV := hid (World.alloc_heap_new w26 (.cells #[.int .i64 p, .int .i64 ((timL p c c2 R R2).length : Nat), .slice uva (turL c2 (timL p c c2 R R2)).length uvc] 24))
    have RV := hid (hr.rows.below hk)
    clear hk hT hb CC25 hr
    obtain ⟨XUc0, XUc1, XUc2⟩ := three_cells XU.out
    obtain ⟨XVc0, XVc1, XVc2⟩ := three_cells XV.out
    have CC27 := hid (RowsI_same _ _ (turL c2 (timL p c c2 R R2)) _ RU.out RV.out)
    go_wp2_with fail
    refine CC27.out.mono ?_
    rintro e w28 ⟨rfl, hb⟩
    clear XUc0 XUc1 XUc2 XVc0 XVc1 XVc2
    replace B := hid (B.out.trans (hb.mono B.out.size))
    replace X := hid (box_keep X.out hb)
    replace Y := hid (box_keep Y.out hb)
    replace Z := hid (box_keep Z.out hb)
    replace RX := hid (RX.out.below hb)
    replace RY := hid (RY.out.below hb)
    replace RZ := hid (RZ.out.below hb)
    replace XP := hid (box_keep XP.out hb)
    replace RP := hid (RP.out.below hb)
    clear XS
    clear RS
    clear XT
    clear RT
    clear XU
    clear RU
    clear XV
    clear RV
    clear hb CC27
    by_cases hn : matR p3 c3 R3 = 0 ∧ p = p3 ∧ c2 = R3.length
    rotate_left
    · skip
      obtain ⟨Yc0, Yc1, Yc2⟩ := three_cells Y.out
      obtain ⟨Zc0, Zc1, Zc2⟩ := three_cells Z.out
      have CC29 := hid (Times_no p c2 p3 c3 _ _ R2 R3 _ RY.out RZ.out HM2.out hn)
      go_wp2_with fail
      refine CC29.out.mono ?_
      rintro e w30 ⟨q, hq, rfl, hb⟩
      clear Yc0 Yc1 Yc2 Zc0 Zc1 Zc2
      have hk := (Below.refl _ w30).alloc (Nat.le_refl _) (.cells #[.int .i64 0, .int .i64 0, .slice none 0 0] 24)
      have hT := hb.trans (hk.mono hb.size)
      replace B := hid (B.out.trans (hT.mono B.out.size))
      replace X := hid (box_keep X.out hT)
      replace Y := hid (box_keep Y.out hT)
      replace Z := hid (box_keep Z.out hT)
      replace RX := hid (RX.out.below hT)
      replace RY := hid (RY.out.below hT)
      replace RZ := hid (RZ.out.below hT)
      replace XP := hid (box_keep XP.out hT)
      replace RP := hid (RP.out.below hT)
      have XQ := hid (World.alloc_heap_new w30 (.cells #[.int .i64 0, .int .i64 0, .slice none 0 0] 24))
      clear hk hT hb CC29
      have hq' : (q != 0) = true := by rw [bne_iff_ne]; exact hq
      clear hq
      go_wp2_with fail
      go_ret
      exact ⟨rfl, B.out⟩
    obtain ⟨hm3, rfl, he3⟩ := hn
    have HM3 := hid (MatOK.of hm3)
    obtain ⟨c3, rfl⟩ : ∃ k : Nat, c3 = k := ⟨c3.toNat, by have := HM3.out.c0; omega⟩
    have HE3 := hid he3
    clear hm3 he3
    obtain ⟨Yc0, Yc1, Yc2⟩ := three_cells Y.out
    obtain ⟨Zc0, Zc1, Zc2⟩ := three_cells Z.out
    have CC31 := hid (Times_ok p c2 p c3 _ _ R2 R3 _ RY.out RZ.out HM2.out HM3.out rfl HE3.out)
    go_wp2_with fail
    refine CC31.out.mono ?_
    rintro e w32 ⟨u, rfl, hr, hb⟩
    obtain ⟨uqa, uqc, rfl⟩ := hr.form
    clear Yc0 Yc1 Yc2 Zc0 Zc1 Zc2
    have hk := (Below.refl _ w32).alloc (Nat.le_refl _) (.cells #[.int .i64 p, .int .i64 c3, .slice uqa (timL p c2 c3 R2 R3).length uqc] 24)
    have hT := hb.trans (hk.mono hb.size)
    replace B := hid (B.out.trans (hT.mono B.out.size))
    replace X := hid (box_keep X.out hT)
    replace Y := hid (box_keep Y.out hT)
    replace Z := hid (box_keep Z.out hT)
    replace RX := hid (RX.out.below hT)
    replace RY := hid (RY.out.below hT)
    replace RZ := hid (RZ.out.below hT)
    replace XP := hid (box_keep XP.out hT)
    replace RP := hid (RP.out.below hT)
    have XQ := hid (World.alloc_heap_new w32 (.cells #[.int .i64 p, .int .i64 c3, .slice uqa (timL p c2 c3 R2 R3).length uqc] 24))
    have RQ := hid (hr.rows.below hk)
    clear hk hT hb CC31 hr
    have HMQ := hid (timL_ok HM2.out HM3.out)
    obtain ⟨XPc0, XPc1, XPc2⟩ := three_cells XP.out
    obtain ⟨Zc0, Zc1, Zc2⟩ := three_cells Z.out
    have CC33 := hid (Times_ok p c2 p c3 _ _ (timL p c c2 R R2) R3 _ RP.out RZ.out HMP.out HM3.out rfl HE3.out)
    go_wp2_with fail
    refine CC33.out.mono ?_
    rintro e w34 ⟨u, rfl, hr, hb⟩
    obtain ⟨uua, uuc, rfl⟩ := hr.form
    clear XPc0 XPc1 XPc2 Zc0 Zc1 Zc2
    have hk := (Below.refl _ w34).alloc (Nat.le_refl _) (.cells #[.int .i64 p, .int .i64 c3, .slice uua (timL p c2 c3 (timL p c c2 R R2) R3).length uuc] 24)
    have hT := hb.trans (hk.mono hb.size)
    replace B := hid (B.out.trans (hT.mono B.out.size))
    replace X := hid (box_keep X.out hT)
    replace Y := hid (box_keep Y.out hT)
    replace Z := hid (box_keep Z.out hT)
    replace RX := hid (RX.out.below hT)
    replace RY := hid (RY.out.below hT)
    replace RZ := hid (RZ.out.below hT)
    replace XP := hid (box_keep XP.out hT)
    replace RP := hid (RP.out.below hT)
    replace XQ := hid (box_keep XQ.out hT)
    replace RQ := hid (RQ.out.below hT)
    have XU := hid (World.alloc_heap_new w34 (.cells #[.int .i64 p, .int .i64 c3, .slice uua (timL p c2 c3 (timL p c c2 R R2) R3).length uuc] 24))
    have RU := hid (hr.rows.below hk)
    clear hk hT hb CC33 hr
    obtain ⟨Xc0, Xc1, Xc2⟩ := three_cells X.out
    obtain ⟨XQc0, XQc1, XQc2⟩ := three_cells XQ.out
    have CC35 := hid (Times_ok p c p c3 _ _ R (timL p c2 c3 R2 R3) _ RX.out RQ.out HM.out HMQ.out rfl (HE2.out.trans (timL_len _ _ _ _ _).symm))
    rw [show (timL p c c3 R (timL p c2 c3 R2 R3)) = (timL p c2 c3 (timL p c c2 R R2) R3) from (mul_assoc' HM.out HE2.out).symm] at CC35
    go_wp2_with fail
    refine CC35.out.mono ?_
    rintro e w36 ⟨u, rfl, hr, hb⟩
    obtain ⟨uva, uvc, rfl⟩ := hr.form
    clear Xc0 Xc1 Xc2 XQc0 XQc1 XQc2
    have hk := (Below.refl _ w36).alloc (Nat.le_refl _) (.cells #[.int .i64 p, .int .i64 c3, .slice uva (timL p c2 c3 (timL p c c2 R R2) R3).length uvc] 24)
    have hT := hb.trans (hk.mono hb.size)
    replace B := hid (B.out.trans (hT.mono B.out.size))
    replace X := hid (box_keep X.out hT)
    replace Y := hid (box_keep Y.out hT)
    replace Z := hid (box_keep Z.out hT)
    replace RX := hid (RX.out.below hT)
    replace RY := hid (RY.out.below hT)
    replace RZ := hid (RZ.out.below hT)
    replace XP := hid (box_keep XP.out hT)
    replace RP := hid (RP.out.below hT)
    replace XQ := hid (box_keep XQ.out hT)
    replace RQ := hid (RQ.out.below hT)
    replace XU := hid (box_keep XU.out hT)
    replace RU := hid (RU.out.below hT)
    have XV := hid (World.alloc_heap_new w36 (.cells #[.int .i64 p, .int .i64 c3, .slice uva (timL p c2 c3 (timL p c c2 R R2) R3).length uvc] 24))
    have RV := hid (hr.rows.below hk)
    clear hk hT hb CC35 hr
    obtain ⟨XUc0, XUc1, XUc2⟩ := three_cells XU.out
    obtain ⟨XVc0, XVc1, XVc2⟩ := three_cells XV.out
    have CC37 := hid (RowsI_same _ _ (timL p c2 c3 (timL p c c2 R R2) R3) _ RU.out RV.out)
    go_wp2_with fail
    refine CC37.out.mono ?_
    rintro e w38 ⟨rfl, hb⟩
    clear XUc0 XUc1 XUc2 XVc0 XVc1 XVc2
    replace B := hid (B.out.trans (hb.mono B.out.size))
    replace X := hid (box_keep X.out hb)
    replace Y := hid (box_keep Y.out hb)
    replace Z := hid (box_keep Z.out hb)
    replace RX := hid (RX.out.below hb)
    replace RY := hid (RY.out.below hb)
    replace RZ := hid (RZ.out.below hb)
    replace XP := hid (box_keep XP.out hb)
    replace RP := hid (RP.out.below hb)
    replace XQ := hid (box_keep XQ.out hb)
    replace RQ := hid (RQ.out.below hb)
    clear XU
    clear RU
    clear XV
    clear RV
    clear hb CC37
    go_wp2_with fail
    go_ret
    exact ⟨rfl, B.out⟩
  · skip
    obtain ⟨Yc0, Yc1, Yc2⟩ := three_cells Y.out
    have CC39 := hid (Turned_large p c2 _ R2 _ RY.out HM2.out (by omega))
    go_wp2_with fail
    refine CC39.out.mono ?_
    rintro e w40 ⟨rfl, hb⟩
    clear Yc0 Yc1 Yc2
    have hk := (Below.refl _ w40).alloc (Nat.le_refl _) (.cells #[.int .i64 0, .int .i64 0, .slice none 0 0] 24)
    have hT := hb.trans (hk.mono hb.size)
    replace B := hid (B.out.trans (hT.mono B.out.size))
    replace X := hid (box_keep X.out hT)
    replace Y := hid (box_keep Y.out hT)
    replace Z := hid (box_keep Z.out hT)
    replace RX := hid (RX.out.below hT)
    replace RY := hid (RY.out.below hT)
    replace RZ := hid (RZ.out.below hT)
    replace XP := hid (box_keep XP.out hT)
    replace RP := hid (RP.out.below hT)
    clear XS
    clear RS
    have XT := hid (World.alloc_heap_new w40 (.cells #[.int .i64 0, .int .i64 0, .slice none 0 0] 24))
    clear hk hT hb CC39
    by_cases hn : matR p3 c3 R3 = 0 ∧ p = p3 ∧ c2 = R3.length
    rotate_left
    · skip
      obtain ⟨Yc0, Yc1, Yc2⟩ := three_cells Y.out
      obtain ⟨Zc0, Zc1, Zc2⟩ := three_cells Z.out
      have CC41 := hid (Times_no p c2 p3 c3 _ _ R2 R3 _ RY.out RZ.out HM2.out hn)
      go_wp2_with fail
      refine CC41.out.mono ?_
      rintro e w42 ⟨q, hq, rfl, hb⟩
      clear Yc0 Yc1 Yc2 Zc0 Zc1 Zc2
      have hk := (Below.refl _ w42).alloc (Nat.le_refl _) (.cells #[.int .i64 0, .int .i64 0, .slice none 0 0] 24)
      have hT := hb.trans (hk.mono hb.size)
      replace B := hid (B.out.trans (hT.mono B.out.size))
      replace X := hid (box_keep X.out hT)
      replace Y := hid (box_keep Y.out hT)
      replace Z := hid (box_keep Z.out hT)
      replace RX := hid (RX.out.below hT)
      replace RY := hid (RY.out.below hT)
      replace RZ := hid (RZ.out.below hT)
      replace XP := hid (box_keep XP.out hT)
      replace RP := hid (RP.out.below hT)
      replace XT := hid (box_keep XT.out hT)
      have XQ := hid (World.alloc_heap_new w42 (.cells #[.int .i64 0, .int .i64 0, .slice none 0 0] 24))
      clear hk hT hb CC41
      have hq' : (q != 0) = true := by rw [bne_iff_ne]; exact hq
      clear hq
      go_wp2_with fail
      go_ret
      exact ⟨rfl, B.out⟩
    obtain ⟨hm3, rfl, he3⟩ := hn
    have HM3 := hid (MatOK.of hm3)
    obtain ⟨c3, rfl⟩ : ∃ k : Nat, c3 = k := ⟨c3.toNat, by have := HM3.out.c0; omega⟩
    have HE3 := hid he3
    clear hm3 he3
    obtain ⟨Yc0, Yc1, Yc2⟩ := three_cells Y.out
    obtain ⟨Zc0, Zc1, Zc2⟩ := three_cells Z.out
    have CC43 := hid (Times_ok p c2 p c3 _ _ R2 R3 _ RY.out RZ.out HM2.out HM3.out rfl HE3.out)
    go_wp2_with fail
    refine CC43.out.mono ?_
    rintro e w44 ⟨u, rfl, hr, hb⟩
    obtain ⟨uqa, uqc, rfl⟩ := hr.form
    clear Yc0 Yc1 Yc2 Zc0 Zc1 Zc2
    have hk := (Below.refl _ w44).alloc (Nat.le_refl _) (.cells #[.int .i64 p, .int .i64 c3, .slice uqa (timL p c2 c3 R2 R3).length uqc] 24)
    have hT := hb.trans (hk.mono hb.size)
    replace B := hid (B.out.trans (hT.mono B.out.size))
    replace X := hid (box_keep X.out hT)
    replace Y := hid (box_keep Y.out hT)
    replace Z := hid (box_keep Z.out hT)
    replace RX := hid (RX.out.below hT)
    replace RY := hid (RY.out.below hT)
    replace RZ := hid (RZ.out.below hT)
    replace XP := hid (box_keep XP.out hT)
    replace RP := hid (RP.out.below hT)
    replace XT := hid (box_keep XT.out hT)
    have XQ := hid (World.alloc_heap_new w44 (.cells #[.int .i64 p, .int .i64 c3, .slice uqa (timL p c2 c3 R2 R3).length uqc] 24))
    have RQ := hid (hr.rows.below hk)
    clear hk hT hb CC43 hr
    have HMQ := hid (timL_ok HM2.out HM3.out)
    obtain ⟨XPc0, XPc1, XPc2⟩ := three_cells XP.out
    obtain ⟨Zc0, Zc1, Zc2⟩ := three_cells Z.out
    have CC45 := hid (Times_ok p c2 p c3 _ _ (timL p c c2 R R2) R3 _ RP.out RZ.out HMP.out HM3.out rfl HE3.out)
    go_wp2_with fail
    refine CC45.out.mono ?_
    rintro e w46 ⟨u, rfl, hr, hb⟩
    obtain ⟨uua, uuc, rfl⟩ := hr.form
    clear XPc0 XPc1 XPc2 Zc0 Zc1 Zc2
    have hk := (Below.refl _ w46).alloc (Nat.le_refl _) (.cells #[.int .i64 p, .int .i64 c3, .slice uua (timL p c2 c3 (timL p c c2 R R2) R3).length uuc] 24)
    have hT := hb.trans (hk.mono hb.size)
    replace B := hid (B.out.trans (hT.mono B.out.size))
    replace X := hid (box_keep X.out hT)
    replace Y := hid (box_keep Y.out hT)
    replace Z := hid (box_keep Z.out hT)
    replace RX := hid (RX.out.below hT)
    replace RY := hid (RY.out.below hT)
    replace RZ := hid (RZ.out.below hT)
    replace XP := hid (box_keep XP.out hT)
    replace RP := hid (RP.out.below hT)
    replace XT := hid (box_keep XT.out hT)
    replace XQ := hid (box_keep XQ.out hT)
    replace RQ := hid (RQ.out.below hT)
    have XU := hid (World.alloc_heap_new w46 (.cells #[.int .i64 p, .int .i64 c3, .slice uua (timL p c2 c3 (timL p c c2 R R2) R3).length uuc] 24))
    have RU := hid (hr.rows.below hk)
    clear hk hT hb CC45 hr
    obtain ⟨Xc0, Xc1, Xc2⟩ := three_cells X.out
    obtain ⟨XQc0, XQc1, XQc2⟩ := three_cells XQ.out
    have CC47 := hid (Times_ok p c p c3 _ _ R (timL p c2 c3 R2 R3) _ RX.out RQ.out HM.out HMQ.out rfl (HE2.out.trans (timL_len _ _ _ _ _).symm))
    rw [show (timL p c c3 R (timL p c2 c3 R2 R3)) = (timL p c2 c3 (timL p c c2 R R2) R3) from (mul_assoc' HM.out HE2.out).symm] at CC47
    go_wp2_with fail
    refine CC47.out.mono ?_
    rintro e w48 ⟨u, rfl, hr, hb⟩
    obtain ⟨uva, uvc, rfl⟩ := hr.form
    clear Xc0 Xc1 Xc2 XQc0 XQc1 XQc2
    have hk := (Below.refl _ w48).alloc (Nat.le_refl _) (.cells #[.int .i64 p, .int .i64 c3, .slice uva (timL p c2 c3 (timL p c c2 R R2) R3).length uvc] 24)
    have hT := hb.trans (hk.mono hb.size)
    replace B := hid (B.out.trans (hT.mono B.out.size))
    replace X := hid (box_keep X.out hT)
    replace Y := hid (box_keep Y.out hT)
    replace Z := hid (box_keep Z.out hT)
    replace RX := hid (RX.out.below hT)
    replace RY := hid (RY.out.below hT)
    replace RZ := hid (RZ.out.below hT)
    replace XP := hid (box_keep XP.out hT)
    replace RP := hid (RP.out.below hT)
    replace XT := hid (box_keep XT.out hT)
    replace XQ := hid (box_keep XQ.out hT)
    replace RQ := hid (RQ.out.below hT)
    replace XU := hid (box_keep XU.out hT)
    replace RU := hid (RU.out.below hT)
    have XV := hid (World.alloc_heap_new w48 (.cells #[.int .i64 p, .int .i64 c3, .slice uva (timL p c2 c3 (timL p c c2 R R2) R3).length uvc] 24))
    have RV := hid (hr.rows.below hk)
    clear hk hT hb CC47 hr
    obtain ⟨XUc0, XUc1, XUc2⟩ := three_cells XU.out
    obtain ⟨XVc0, XVc1, XVc2⟩ := three_cells XV.out
    have CC49 := hid (RowsI_same _ _ (timL p c2 c3 (timL p c c2 R R2) R3) _ RU.out RV.out)
    go_wp2_with fail
    refine CC49.out.mono ?_
    rintro e w50 ⟨rfl, hb⟩
    clear XUc0 XUc1 XUc2 XVc0 XVc1 XVc2
    replace B := hid (B.out.trans (hb.mono B.out.size))
    replace X := hid (box_keep X.out hb)
    replace Y := hid (box_keep Y.out hb)
    replace Z := hid (box_keep Z.out hb)
    replace RX := hid (RX.out.below hb)
    replace RY := hid (RY.out.below hb)
    replace RZ := hid (RZ.out.below hb)
    replace XP := hid (box_keep XP.out hb)
    replace RP := hid (RP.out.below hb)
    replace XT := hid (box_keep XT.out hb)
    replace XQ := hid (box_keep XQ.out hb)
    replace RQ := hid (RQ.out.below hb)
    clear XU
    clear RU
    clear XV
    clear RV
    clear hb CC49
    go_wp2_with fail
    go_ret
    exact ⟨rfl, B.out⟩
end Go.Proofs.Yteeliinmpbleoaa
