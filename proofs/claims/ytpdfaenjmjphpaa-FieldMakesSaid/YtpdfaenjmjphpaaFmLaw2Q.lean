/- rotalaw.FieldMakes. -/
import Derived.Test.YtpdfaenjmjphpaaFmUQ
import Derived.Test.YtpdfaenjmjphpaaOpnQ
import Derived.Deep.RegionHeld3
import Derived.Deep.CutRange
import Derived.Deep.RegionLaw
namespace Go.Proofs.Ytpdfaenjmjphpaa
open Go.RowKit

theorem tim_at {p : Int} {c c2 : Nat} {R R2 : List (List Int)} (hp : isP p) {r j : Nat} (hr : r < R.length) (hj : j < c2) : rowF (timL p c c2 R R2) r j = (sm c fun l => rowF R r l * rowF R2 l j) % p := by
  have hp2 := isP_pos hp
  show ((timL p c c2 R R2).getD r []).getD j 0 = _
  unfold timL
  rw [matL_at hr hj]
  have h1 := timF_em (p := p) (rowF R) (rowF R2) r j c
  have h2 := timF_in hp (rowF R) (rowF R2) c r j
  obtain ⟨q, hq⟩ : p ∣ timF p (rowF R) (rowF R2) c r j - (sm c fun l => rowF R r l * rowF R2 l j) := h1
  rw [show (sm c fun l => rowF R r l * rowF R2 l j) = timF p (rowF R) (rowF R2) c r j + p * (-q) by rw [Int.mul_neg]; omega, Int.add_mul_emod_self_left]
  exact (Int.emod_eq_of_lt h2.1 h2.2).symm
theorem sm_49 {f : Nat → Int} {n : Nat} (h : ∀ j, j < n → 0 ≤ f j ∧ f j ≤ 49) : ∀ m, m ≤ n → 0 ≤ sm m f ∧ sm m f ≤ 49 * (m : Int)
  | 0, _ => ⟨Int.le_refl 0, Int.le_refl 0⟩
  | m + 1, hm => by
    have := sm_49 h m (by omega)
    have := h m (by omega)
    show 0 ≤ sm m f + f m ∧ sm m f + f m ≤ _
    omega
set_option maxRecDepth 20000 in
set_option maxHeartbeats 16000000 in
theorem fmakes_law (p c : Int) (v : Value) (R : List (List Int)) (p2 c2 : Int) (v2 : Value) (R2 : List (List Int)) (w : World) (h : RowsI w v R) (h2 : RowsI w v2 R2) (hcp : ∀ a L c, v = .slice a L c → L ≤ c) :
    Calls Try.prog 3 #[.agg #[.int .i64 p, .int .i64 c, v], .agg #[.int .i64 p2, .int .i64 c2, v2]] w fun e w' => e = .returned (.bool true) ∧ Below w.heap.size w w' := by
  have b1 : Below w.heap.size w (w.alloc (.cells #[.int .i64 p, .int .i64 c, v] 24)) := (Below.refl _ _).alloc (Nat.le_refl _) _
  have b2 : Below (w.alloc (.cells #[.int .i64 p, .int .i64 c, v] 24)).heap.size (w.alloc (.cells #[.int .i64 p, .int .i64 c, v] 24)) ((w.alloc (.cells #[.int .i64 p, .int .i64 c, v] 24)).alloc (.cells #[.int .i64 p2, .int .i64 c2, v2] 24)) := (Below.refl _ _).alloc (Nat.le_refl _) _
  have B : Hid (Below w.heap.size w ((w.alloc (.cells #[.int .i64 p, .int .i64 c, v] 24)).alloc (.cells #[.int .i64 p2, .int .i64 c2, v2] 24))) := b1.trans (b2.mono b1.size)
  have X : Hid (((w.alloc (.cells #[.int .i64 p, .int .i64 c, v] 24)).alloc (.cells #[.int .i64 p2, .int .i64 c2, v2] 24)).heap[w.heap.size]? = _) := box_keep (World.alloc_heap_new w (.cells #[.int .i64 p, .int .i64 c, v] 24)) b2
  have Y : Hid (((w.alloc (.cells #[.int .i64 p, .int .i64 c, v] 24)).alloc (.cells #[.int .i64 p2, .int .i64 c2, v2] 24)).heap[(w.alloc (.cells #[.int .i64 p, .int .i64 c, v] 24)).heap.size]? = _) := World.alloc_heap_new (w.alloc (.cells #[.int .i64 p, .int .i64 c, v] 24)) (.cells #[.int .i64 p2, .int .i64 c2, v2] 24)
  rw [World.size_alloc] at Y
  have RX := hid (h.below B.out)
  have RY := hid (h2.below B.out)
  obtain ⟨a, cap, rfl⟩ := h.form
  obtain ⟨a2, cap2, rfl⟩ := h2.form
  have HCP := hid hcp
  clear h h2 hcp b1 b2
  rcases matR_01 p c R with hm | hm
  rotate_left
  · skip
    go_enter Try.func3, Try.ntmps3
    obtain ⟨Xc0, Xc1, Xc2⟩ := three_cells X.out
    have CC1 := hid (Determinant_bad p c _ R _ RX.out hm)
    go_wp2_with fail
    refine CC1.out.mono ?_
    rintro e w2 ⟨rfl, hb⟩
    clear Xc0 Xc1 Xc2
    replace B := hid (B.out.trans (hb.mono B.out.size))
    replace X := hid (box_keep X.out hb)
    replace Y := hid (box_keep Y.out hb)
    replace RX := hid (RX.out.below hb)
    replace RY := hid (RY.out.below hb)
    clear hb CC1
    obtain ⟨Xc0, Xc1, Xc2⟩ := three_cells X.out
    obtain ⟨Yc0, Yc1, Yc2⟩ := three_cells Y.out
    have CC3 := hid (Times_bad1 p c p2 c2 _ _ R R2 _ RX.out RY.out hm)
    go_wp2_with fail
    refine CC3.out.mono ?_
    rintro e w4 ⟨rfl, hb⟩
    clear Xc0 Xc1 Xc2 Yc0 Yc1 Yc2
    have hk := (Below.refl _ w4).alloc (Nat.le_refl _) (.cells #[.int .i64 0, .int .i64 0, .slice none 0 0] 24)
    have hT := hb.trans (hk.mono hb.size)
    replace B := hid (B.out.trans (hT.mono B.out.size))
    replace X := hid (box_keep X.out hT)
    replace Y := hid (box_keep Y.out hT)
    replace RX := hid (RX.out.below hT)
    replace RY := hid (RY.out.below hT)
    have XA := hid (World.alloc_heap_new w4 (.cells #[.int .i64 0, .int .i64 0, .slice none 0 0] 24))
    clear hk hT hb CC3
    obtain ⟨Xc0, Xc1, Xc2⟩ := three_cells X.out
    have CC5 := hid (Turned_bad p c _ R _ RX.out hm)
    go_wp2_with fail
    refine CC5.out.mono ?_
    rintro e w6 ⟨rfl, hb⟩
    clear Xc0 Xc1 Xc2
    have hk := (Below.refl _ w6).alloc (Nat.le_refl _) (.cells #[.int .i64 0, .int .i64 0, .slice none 0 0] 24)
    have hT := hb.trans (hk.mono hb.size)
    replace B := hid (B.out.trans (hT.mono B.out.size))
    replace X := hid (box_keep X.out hT)
    replace Y := hid (box_keep Y.out hT)
    replace RX := hid (RX.out.below hT)
    replace RY := hid (RY.out.below hT)
    replace XA := hid (box_keep XA.out hT)
    have XK := hid (World.alloc_heap_new w6 (.cells #[.int .i64 0, .int .i64 0, .slice none 0 0] 24))
    clear hk hT hb CC5
    obtain ⟨Xc0, Xc1, Xc2⟩ := three_cells X.out
    have CC7 := hid (IsMatrix_any p c _ R _ RX.out)
    rw [okM_no hm] at CC7
    go_wp2_with fail
    refine CC7.out.mono ?_
    rintro e w8 ⟨rfl, hb⟩
    clear Xc0 Xc1 Xc2
    replace B := hid (B.out.trans (hb.mono B.out.size))
    replace X := hid (box_keep X.out hb)
    replace Y := hid (box_keep Y.out hb)
    replace RX := hid (RX.out.below hb)
    replace RY := hid (RY.out.below hb)
    replace XA := hid (box_keep XA.out hb)
    replace XK := hid (box_keep XK.out hb)
    clear hb CC7
    have OS := hid (fun W => one_same 0 1 W (fun _ => rfl))
    have BD := hid (fun W => bad_f 1 W)
    have GN := hid (fun W => gone_ok W)
    obtain ⟨x0, x1, x2⟩ := three_cells XA.out
    obtain ⟨y0, y1, y2⟩ := three_cells XK.out
    go_wp2_with fail
    refine (BD.out _).mono ?_
    rintro e wb ⟨rfl, h9⟩
    obtain rfl := h9.symm
    clear BD
    go_wp2_with fail
    refine (OS.out _).mono ?_
    rintro e wb ⟨rfl, h9⟩
    obtain rfl := h9.symm
    clear OS
    go_wp2_with fail
    refine (GN.out _).mono ?_
    rintro e w8 ⟨rfl, hb⟩
    clear x0 x1 x2 y0 y1 y2
    replace B := hid (B.out.trans (hb.mono B.out.size))
    replace XK := hid (box_keep XK.out hb)
    obtain ⟨y0, y1, y2⟩ := three_cells XK.out
    clear hb XA
    go_wp2_with fail
    refine (GN.out _).mono ?_
    rintro e w9 ⟨rfl, hb⟩
    replace B := hid (B.out.trans (hb.mono B.out.size))
    clear y0 y1 y2
    go_wp2_with fail
    go_ret
    exact ⟨rfl, B.out⟩
  have HM := hid (MatOK.of hm)
  obtain ⟨c, rfl⟩ : ∃ k : Nat, c = k := ⟨c.toNat, by have := HM.out.c0; omega⟩
  clear hm
  have hl6 : R.length ≤ 6 := HM.out.rl
  have hc8 := HM.out.c8'
  go_enter Try.func3, Try.ntmps3
  obtain ⟨Xc0, Xc1, Xc2⟩ := three_cells X.out
  have CC9 := hid (Det_u p c _ R _ RX.out HCP.out HM.out)
  go_wp2_with fail
  refine CC9.out.mono ?_
  rintro e w10 ⟨rfl, hb⟩
  clear Xc0 Xc1 Xc2
  replace B := hid (B.out.trans (hb.mono B.out.size))
  replace X := hid (box_keep X.out hb)
  replace Y := hid (box_keep Y.out hb)
  replace RX := hid (RX.out.below hb)
  replace RY := hid (RY.out.below hb)
  clear hb CC9
  obtain ⟨Xc0, Xc1, Xc2⟩ := three_cells X.out
  obtain ⟨Yc0, Yc1, Yc2⟩ := three_cells Y.out
  have CC11 := hid (Times_u p c p2 c2 _ _ R R2 _ RX.out RY.out HM.out)
  go_wp2_with fail
  refine CC11.out.mono ?_
  rintro e w12 ⟨tp, tc, tu, rfl, hu, hb⟩
  obtain ⟨ta, tn, tz, rfl⟩ := hu.fm
  have UA := hid hu
  clear hu
  clear Xc0 Xc1 Xc2 Yc0 Yc1 Yc2
  have hk := (Below.refl _ w12).alloc (Nat.le_refl _) (.cells #[.int .i64 tp, .int .i64 tc, .slice ta tn tz] 24)
  have hT := hb.trans (hk.mono hb.size)
  replace B := hid (B.out.trans (hT.mono B.out.size))
  replace X := hid (box_keep X.out hT)
  replace Y := hid (box_keep Y.out hT)
  replace RX := hid (RX.out.below hT)
  replace RY := hid (RY.out.below hT)
  have XA := hid (World.alloc_heap_new w12 (.cells #[.int .i64 tp, .int .i64 tc, .slice ta tn tz] 24))
  clear hk hT hb CC11
  replace UA := hid (UA.out.below ((Below.refl _ _).alloc (Nat.le_refl _) (.cells #[.int .i64 tp, .int .i64 tc, .slice ta tn tz] 24)))
  obtain ⟨Xc0, Xc1, Xc2⟩ := three_cells X.out
  have CC13 := hid (Turned_u p c _ R _ RX.out HM.out)
  go_wp2_with fail
  refine CC13.out.mono ?_
  rintro e w14 ⟨sp, sc, su, rfl, hu, hb⟩
  obtain ⟨sa, sn, sz, rfl⟩ := hu.fm
  have UK := hid hu
  replace UA := hid (UA.out.below hb)
  clear hu
  clear Xc0 Xc1 Xc2
  have hk := (Below.refl _ w14).alloc (Nat.le_refl _) (.cells #[.int .i64 sp, .int .i64 sc, .slice sa sn sz] 24)
  have hT := hb.trans (hk.mono hb.size)
  replace B := hid (B.out.trans (hT.mono B.out.size))
  replace X := hid (box_keep X.out hT)
  replace Y := hid (box_keep Y.out hT)
  replace RX := hid (RX.out.below hT)
  replace RY := hid (RY.out.below hT)
  replace XA := hid (box_keep XA.out hT)
  have XK := hid (World.alloc_heap_new w14 (.cells #[.int .i64 sp, .int .i64 sc, .slice sa sn sz] 24))
  clear hk hT hb CC13
  replace UK := hid (UK.out.below ((Below.refl _ _).alloc (Nat.le_refl _) (.cells #[.int .i64 sp, .int .i64 sc, .slice sa sn sz] 24)))
  replace UA := hid (UA.out.below ((Below.refl _ _).alloc (Nat.le_refl _) (.cells #[.int .i64 sp, .int .i64 sc, .slice sa sn sz] 24)))
  go_upto_region 4 with fail
  obtain ⟨W3, hW3⟩ : ∃ W3, (w14.alloc (.cells #[.int .i64 sp, .int .i64 sc, .slice sa sn sz] 24)) = W3 := ⟨_, rfl⟩
  rw [hW3] at B X Y RX RY XA XK UA UK ⊢
  clear hW3
  obtain ⟨dE, HDE⟩ : ∃ dE, Hid (dtE c R = dE) := ⟨_, rfl⟩
  obtain ⟨dN, HDN⟩ : ∃ dN, Hid (dtN p c R = dN) := ⟨_, rfl⟩
  obtain ⟨tE, HTE⟩ : ∃ tE, Hid (tmE p c p2 c2 R2 = tE) := ⟨_, rfl⟩
  obtain ⟨kE, HKE⟩ : ∃ kE, Hid (trE c = kE) := ⟨_, rfl⟩
  obtain ⟨jE, HJE⟩ : ∃ jE : Int, Hid ((if okM p2 c2 R2 = true then 0 else 1) = jE) := ⟨_, rfl⟩
  rw [HDE.out, HDN.out, HTE.out, HKE.out]
  rw [HTE.out] at UA
  rw [HKE.out] at UK
  have KX := hid (fun W (hW : Below W3.heap.size W3 W) => three_cells (box_keep X.out hW))
  have KY := hid (fun W (hW : Below W3.heap.size W3 W) => three_cells (box_keep Y.out hW))
  have KA := hid (fun W (hW : Below W3.heap.size W3 W) => three_cells (box_keep XA.out hW))
  have KK := hid (fun W (hW : Below W3.heap.size W3 W) => three_cells (box_keep XK.out hW))
  have IMX : Hid (∀ W, Below W3.heap.size W3 W → Calls Try.prog 9 #[.agg #[.int .i64 p, .int .i64 c, .slice a R.length cap]] W fun e w' => e = .returned (.bool true) ∧ Below W3.heap.size W3 w') := fun W hW => (IsMatrix_any p c _ R W (RX.out.below hW)).mono fun e w' h9 => ⟨by rw [h9.1, okM_ok HM.out], hW.trans (h9.2.mono hW.size)⟩
  have IMY : Hid (∀ W, Below W3.heap.size W3 W → Calls Try.prog 9 #[.agg #[.int .i64 p2, .int .i64 c2, .slice a2 R2.length cap2]] W fun e w' => e = .returned (.bool (okM p2 c2 R2)) ∧ Below W3.heap.size W3 w') := fun W hW => (IsMatrix_any p2 c2 _ R2 W (RY.out.below hW)).mono fun e w' h9 => ⟨h9.1, hW.trans (h9.2.mono hW.size)⟩
  have BT := hid (fun q W => bad_t q W)
  have BF := hid (fun q W => bad_f q W)
  have BD1 : Hid (∀ W, Calls Try.prog 8 #[.bool ((R.length : Int) == (c : Int)), .int .i64 3] W fun e w' => e = .returned (.int .i64 dE) ∧ w' = W) := fun W => (bad_any _ 3 W).mono fun e w' h9 => ⟨by
    rw [h9.1, ← HDE.out]
    unfold dtE
    by_cases hl : R.length = c
    · rw [if_pos hl, if_pos (by rw [beq_iff_eq]; omega)]
    · rw [if_neg hl, if_neg (by rw [beq_iff_eq]; omega)], h9.2⟩
  have BD2 : Hid (∀ W, Calls Try.prog 8 #[.bool (okM p2 c2 R2), .int .i64 1] W fun e w' => e = .returned (.int .i64 jE) ∧ w' = W) := fun W => (bad_any _ 1 W).mono fun e w' h9 => ⟨by rw [h9.1, ← HJE.out], h9.2⟩
  have BD3 : Hid (∀ W, Calls Try.prog 8 #[.bool (decide ((c : Int) ≤ 6)), .int .i64 2] W fun e w' => e = .returned (.int .i64 kE) ∧ w' = W) := fun W => (bad_any _ 2 W).mono fun e w' h9 => ⟨by
    rw [h9.1, ← HKE.out]
    unfold trE
    by_cases hl : c ≤ 6
    · rw [if_pos hl, if_pos (by rw [decide_eq_true_eq]; omega)]
    · rw [if_neg hl, if_neg (by rw [decide_eq_true_eq]; omega)], h9.2⟩
  have HDET : Hid (dE = 0 → ∀ W, Below W3.heap.size W3 W → Calls Try.prog 10 #[.agg #[.int .i64 p, .int .i64 c, .slice a R.length cap]] W fun e w' => e = .returned (.int .i64 dN) ∧ Below W3.heap.size W3 w') := fun h0 W hW => by
    have hl : R.length = c := by
      have := HDE.out
      unfold dtE at this
      by_cases hl : R.length = c
      · exact hl
      · rw [if_neg hl] at this; omega
    refine (Det_ok p c _ R W (RX.out.below hW) HM.out hl).mono fun e w' h9 => ⟨?_, hW.trans (h9.2.mono hW.size)⟩
    rw [h9.1, ← HDN.out]
    unfold dtN
    rw [if_pos hl]
  have HDN0 : Hid (dE ≠ 0 → dN = 0) := fun h0 => by
    rw [← HDN.out]
    unfold dtN
    by_cases hl : R.length = c
    · exact absurd (by rw [← HDE.out]; unfold dtE; rw [if_pos hl]) h0
    · rw [if_neg hl]
  have ONE := hid (fun W => one_same dN dE W HDN0.out)
  have GN : Hid (∀ W, Below W3.heap.size W3 W → Calls Try.prog 12 #[.agg #[.int .i64 0, .int .i64 0, .slice none 0 0]] W fun e w' => e = .returned (.bool true) ∧ Below W3.heap.size W3 w') := fun W hW => (gone_ok W).mono fun e w' h9 => ⟨h9.1, hW.trans (h9.2.mono hW.size)⟩
  have HL2 : Hid (jE = 0 → okM p2 c2 R2 = true) := fun h0 => by
    have := HJE.out
    by_cases hk : okM p2 c2 R2 = true
    · exact hk
    · rw [if_neg hk] at this; omega
  have HTJ : Hid (jE ≠ 0 → tE = jE) := fun h0 => by
    have h1 : okM p2 c2 R2 ≠ true := fun hk => by
      have := HJE.out
      rw [if_pos hk] at this
      omega
    rw [← HJE.out, if_neg h1, ← HTE.out]
    unfold tmE
    rw [if_neg fun h => h1 (okM_ok (MatOK.of h))]
  have HTS : Hid (jE = 0 → tE = if p = p2 ∧ c = R2.length then 0 else 3) := fun h0 => by
    have h1 := HL2.out h0
    rw [← HTE.out]
    unfold tmE
    rw [if_pos]
    rcases matR_01 p2 c2 R2 with h | h
    · exact h
    · rw [okM_no h] at h1; cases h1
  have HT0 : Hid (tE = 0 → matR p2 c2 R2 = 0 ∧ p = p2 ∧ c = R2.length) := fun h0 => by
    have := HTE.out
    unfold tmE at this
    by_cases h1 : matR p2 c2 R2 = 0
    · rw [if_pos h1] at this
      by_cases h3 : p = p2 ∧ c = R2.length
      · exact ⟨h1, h3⟩
      · rw [if_neg h3] at this; omega
    · rw [if_neg h1] at this; omega
  have HK6 : Hid (kE = 0 → c ≤ 6) := fun h0 => by
    have := HKE.out
    unfold trE at this
    by_cases h1 : c ≤ 6
    · exact h1
    · rw [if_neg h1] at this; omega
  have BB := hid (Below.refl W3.heap.size W3)
  clear X Y XA XK HDE HDN HTE HKE HJE HCP
  obtain ⟨x0, x1, x2⟩ := KX.out _ BB.out
  go_wp2_with fail
  refine (IMX.out _ BB.out).mono ?_
  rintro e w10 ⟨rfl, hb⟩
  have B10 := hid hb
  clear hb IMX x0 x1 x2
  obtain ⟨x0, x1, x2⟩ := KX.out _ B10.out
  obtain ⟨y0, y1, y2⟩ := KY.out _ B10.out
  go_wp2_with fail
  refine (BT.out _ _).mono ?_
  rintro e wb ⟨rfl, h9⟩
  obtain rfl := h9.symm
  go_wp2_with fail
  refine (BD1.out _).mono ?_
  rintro e wb ⟨rfl, h9⟩
  obtain rfl := h9.symm
  clear BD1
  go_wp2_with fail
  refine (IMY.out _ B10.out).mono ?_
  rintro e w11 ⟨rfl, hb⟩
  have B11 := hid hb
  clear hb IMY x0 x1 x2 y0 y1 y2 B10
  obtain ⟨x0, x1, x2⟩ := KX.out _ B11.out
  obtain ⟨y0, y1, y2⟩ := KY.out _ B11.out
  go_wp2_with fail
  refine (BD2.out _).mono ?_
  rintro e wb ⟨rfl, h9⟩
  obtain rfl := h9.symm
  clear BD2
  go_wp2_with fail
  refine (BD3.out _).mono ?_
  rintro e wb ⟨rfl, h9⟩
  obtain rfl := h9.symm
  clear BD3
  go_upto_if 60 with fail
  go_cut [15] from 60 to 62 (fun x W => x = .int .i64 dN ∧ Hid (Below W3.heap.size W3 W))
  case first =>
    by_cases h0 : dE = 0
    · have ht : (dE == 0) = true := by rw [h0]; rfl
      have C := hid (HDET.out h0 _ B11.out)
      clear h0
      go_wp2_with fail
      refine C.out.mono ?_
      rintro e w12 ⟨rfl, hb⟩
      have B12 := hid hb
      clear hb
      go_wp2_with fail
      go_meet
      exact ⟨rfl, B12⟩
    · have ht : (dE == 0) = false := by rw [beq_eq_false_iff_ne]; exact h0
      have e0 := hid (HDN0.out h0)
      clear h0
      go_wp2_with fail
      go_meet
      exact ⟨by rw [e0.out], B11⟩
  case rest =>
  obtain ⟨rfl, B12⟩ := hcut
  clear HDET HDN0 B11 x0 x1 x2 y0 y1 y2
  obtain ⟨x0, x1, x2⟩ := KX.out _ B12.out
  obtain ⟨y0, y1, y2⟩ := KY.out _ B12.out
  go_upto_if 64 with fail
  go_cut [13] from 64 to 78 (fun x W => x = .int .i64 tE ∧ Hid (Below W3.heap.size W3 W))
  case first =>
    by_cases h0 : jE = 0
    · have ht : (jE == 0) = true := by rw [h0]; rfl
      have HE := hid (HTS.out h0)
      clear h0
      by_cases hp : p = p2
      · have hp1 : (p == p2) = true := by rw [beq_iff_eq]; exact hp
        by_cases hc : c = R2.length
        · have hc1 : ((c : Int) == (R2.length : Int)) = true := by rw [beq_iff_eq, hc]
          rw [if_pos ⟨hp, hc⟩] at HE
          clear hp hc
          go_wp2_with fail
          refine (BT.out _ _).mono ?_
          rintro e wb ⟨rfl, h9⟩
          obtain rfl := h9.symm
          go_wp2_with fail
          go_meet
          exact ⟨by rw [HE.out], B12⟩
        · have hc1 : ((c : Int) == (R2.length : Int)) = false := by rw [beq_eq_false_iff_ne]; omega
          rw [if_neg fun h => hc h.2] at HE
          clear hp hc
          go_wp2_with fail
          refine (BF.out _ _).mono ?_
          rintro e wb ⟨rfl, h9⟩
          obtain rfl := h9.symm
          go_wp2_with fail
          go_meet
          exact ⟨by rw [HE.out], B12⟩
      · have hp1 : (p == p2) = false := by rw [beq_eq_false_iff_ne]; exact hp
        rw [if_neg fun h => hp h.1] at HE
        clear hp
        go_wp2_with fail
        refine (BF.out _ _).mono ?_
        rintro e wb ⟨rfl, h9⟩
        obtain rfl := h9.symm
        go_wp2_with fail
        go_meet
        exact ⟨by rw [HE.out], B12⟩
    · have ht : (jE == 0) = false := by rw [beq_eq_false_iff_ne]; exact h0
      have HE := hid (HTJ.out h0)
      clear h0
      go_wp2_with fail
      go_meet
      exact ⟨by rw [HE.out], B12⟩
  case rest =>
  obtain ⟨rfl, B13⟩ := hcut
  clear HTS HTJ HL2 BT BF B12 x0 x1 x2 y0 y1 y2
  have htt : (tE != tE) = false := by simp
  have hkk : (kE != kE) = false := by simp
  go_upto_region 15 with fail
  go_cut [112] from 79 to 111 (fun x W => x = .bool false ∧ Hid (Below W3.heap.size W3 W))
  case first =>
    go_wp2_with fail
    refine (ONE.out _).mono ?_
    rintro e wb ⟨rfl, h9⟩
    obtain rfl := h9.symm
    clear ONE
    by_cases ht : tE = 0
    · have ht1 : (tE != 0) = false := by rw [ht]; rfl
      clear ht
      by_cases hk : kE = 0
      · have hk1 : (kE != 0) = false := by rw [hk]; rfl
        clear hk
        go_wp2_with fail
        go_meet
        exact ⟨rfl, B13⟩
      · have hk1 : (kE != 0) = true := by rw [bne_iff_ne]; exact hk
        obtain ⟨e1, e2, e3⟩ := UK.out.no hk
        cases e1
        cases e2
        cases e3
        obtain ⟨z0, z1, z2⟩ := KK.out _ B13.out
        clear hk
        go_wp2_with fail
        refine (GN.out _ B13.out).mono ?_
        rintro e w14 ⟨rfl, hb⟩
        have B14 := hid hb
        clear hb
        go_wp2_with fail
        go_meet
        exact ⟨rfl, B14⟩
    · have ht1 : (tE != 0) = true := by rw [bne_iff_ne]; exact ht
      obtain ⟨e1, e2, e3⟩ := UA.out.no ht
      cases e1
      cases e2
      cases e3
      obtain ⟨z0, z1, z2⟩ := KA.out _ B13.out
      clear ht
      by_cases hk : kE = 0
      · have hk1 : (kE != 0) = false := by rw [hk]; rfl
        clear hk
        go_wp2_with fail
        refine (GN.out _ B13.out).mono ?_
        rintro e w14 ⟨rfl, hb⟩
        have B14 := hid hb
        clear hb
        go_wp2_with fail
        go_meet
        exact ⟨rfl, B14⟩
      · have hk1 : (kE != 0) = true := by rw [bne_iff_ne]; exact hk
        obtain ⟨e1, e2, e3⟩ := UK.out.no hk
        cases e1
        cases e2
        cases e3
        clear hk
        go_wp2_with fail
        refine (GN.out _ B13.out).mono ?_
        rintro e w14 ⟨rfl, hb⟩
        have B14 := hid hb
        clear hb z0 z1 z2
        obtain ⟨z0, z1, z2⟩ := KK.out _ B14.out
        go_wp2_with fail
        refine (GN.out _ B14.out).mono ?_
        rintro e w15 ⟨rfl, hb⟩
        have B15 := hid hb
        clear hb
        go_wp2_with fail
        go_meet
        exact ⟨rfl, B15⟩
  case rest =>
  obtain ⟨rfl, B15⟩ := hcut
  clear ONE GN B13 htt hkk
  go_upto_if 114 with fail
  go_cut [16, 17, 18, 19] from 114 to 196 (fun _ _ _ _ W => Hid (Below W3.heap.size W3 W))
  case first =>
    by_cases ht : tE = 0
    · have ht1 : (tE == 0) = true := by rw [ht]; rfl
      rw [ht1]
      clear ht1
      obtain ⟨hm2, hpp, hcc⟩ := HT0.out ht
      have HM2 := hid (MatOK.of hm2)
      obtain ⟨k2, hk2⟩ : ∃ k : Nat, c2 = k := ⟨c2.toNat, by have := HM2.out.c0; omega⟩
      subst hk2
      subst hpp
      obtain ⟨e1, e2, RT⟩ := UA.out.ok ht
      subst e1
      subst e2
      rw [Int.toNat_natCast] at RT
      have hk28 := HM2.out.c8'
      have hp2 := isP_pos HM.out.pr
      obtain ⟨q1, q2, q3, q4⟩ := RX.out.reads HM.out.lens
      cases q3
      have XR := hid q4
      clear q4
      obtain ⟨q1, q2, q3, q4⟩ := RY.out.reads HM2.out.lens
      cases q3
      have YR := hid q4
      clear q4
      obtain ⟨q1, q2, q3, q4⟩ := RT.reads (c := k2) (fun i hi => by rw [timL, matL_len] at hi; rw [timL, matL_row hi, List.length_map, List.length_range])
      have hTl : (timL tp c k2 R R2).length = R.length := matL_len _ _ _
      rw [hTl] at q3 q4
      cases q3
      have TR := hid q4
      clear q4 hTl RT
      have HTA := hid (fun r j hr hj => tim_at (p := tp) (c := c) (c2 := k2) (R := R) (R2 := R2) HM.out.pr (r := r) (j := j) hr hj)
      have HCC := hid hcc
      have HRR := hid (fun r hr l hl => HM.out.rowc r hr l hl)
      have HRS := hid (fun r hr l hl => HM2.out.rowc r hr l hl)
      have hr26 := HM2.out.rl
      have hn1 : (tp != tp) = false := by simp
      have hn2 : ((k2 : Int) != (k2 : Int)) = false := by simp
      have hn3 : ((R.length : Int) != (R.length : Int)) = false := by simp
      obtain ⟨x0, x1, x2⟩ := KX.out _ B15.out
      obtain ⟨y0, y1, y2⟩ := KY.out _ B15.out
      obtain ⟨z0, z1, z2⟩ := KA.out _ B15.out
      have hp0 : (tp == 0) = false := by rw [beq_eq_false_iff_ne]; omega
      clear ht hm2 hcc UA UK RX RY HT0 HK6 HM HM2
      go_wp2_with fail
      clear hn1 hn3
      go_loopw [16, 17, 18, 19, 139, 153, 159] (fun _ _ _ _ i _ _ W => ∃ r : Nat, r ≤ R.length ∧ i = .int .i64 r ∧ Hid (Below W3.heap.size W3 W)) (fun _ _ _ _ i _ _ _ => R.length - (intOf i).toNat)
      case atStart => exact ⟨0, Nat.zero_le _, rfl, B15⟩
      case round =>
        obtain ⟨r, hr, rfl, BR⟩ := hrel
        clear B15 x0 x1 x2 y0 y1 y2 z0 z1 z2
        by_cases hlt : r < R.length
        · have hri : (r : Int) < (R.length : Int) := by omega
          have hmr : R.length - (r + 1) < R.length - r := by omega
          obtain ⟨xb, xo, rfl, xra, xrc, xh⟩ := XR.out r hlt
          obtain ⟨tb, tf, rfl, tra, trc, th⟩ := TR.out r hlt
          have XH : Hid (∀ wr, Below W3.heap.size W3 wr → wr.cell? ⟨xb, xo + r, none⟩ = some (.slice xra c xrc) ∧ ∀ m, m < c → ∃ rb ro, xra = some ⟨rb, ro, none⟩ ∧ wr.cell? ⟨rb, ro + m, none⟩ = some (.int .i64 (rowF R r m))) := fun wr hw => ⟨(xh wr hw).1, (xh wr hw).2.2⟩
          have TH : Hid (∀ wr, Below W3.heap.size W3 wr → wr.cell? ⟨tb, tf + r, none⟩ = some (.slice tra k2 trc) ∧ ∀ m, m < k2 → ∃ rb ro, tra = some ⟨rb, ro, none⟩ ∧ wr.cell? ⟨rb, ro + m, none⟩ = some (.int .i64 (rowF (timL tp c k2 R R2) r m))) := fun wr hw => ⟨(th wr hw).1, (th wr hw).2.2⟩
          clear xh th
          obtain ⟨t0, -⟩ := TH.out _ BR.out
          obtain ⟨y0, y1, y2⟩ := KY.out _ BR.out
          obtain ⟨z0, z1, z2⟩ := KA.out _ BR.out
          go_upto_region 23 with fail
          go_cut [150] from 142 to 149 (fun x W => x = .bool false ∧ Hid (Below W3.heap.size W3 W))
          case first =>
            go_wp2_with fail
            go_quiet (fail)
            have BQ := hid (BR.out.trans ((drewN_below _ _ nq).mono BR.out.size))
            go_wp2_with fail
            go_meet
            exact ⟨rfl, BQ⟩
          case rest =>
          obtain ⟨rfl, BQ⟩ := hcut
          clear t0 y0 y1 y2 z0 z1 z2
          obtain ⟨y0, y1, y2⟩ := KY.out _ BQ.out
          go_wp2_with fail
          go_loopw [17, 18, 19, 153, 159] (fun _ _ _ i _ W => ∃ j : Nat, j ≤ k2 ∧ i = .int .i64 j ∧ Hid (Below W3.heap.size W3 W)) (fun _ _ _ i _ _ => k2 - (intOf i).toNat)
          case atStart => exact ⟨0, Nat.zero_le _, rfl, BQ⟩
          case round =>
            obtain ⟨j, hj, rfl, BJ⟩ := hrel
            clear BQ y0 y1 y2
            by_cases hjlt : j < k2
            · have hji : (j : Int) < (k2 : Int) := by omega
              have hmj : k2 - (j + 1) < k2 - j := by omega
              obtain ⟨f, hf⟩ : ∃ f : Nat → Int, ∀ l, f l = rowF R r l * rowF R2 l j := ⟨_, fun _ => rfl⟩
              have HF : Hid (∀ l, l < R2.length → f l = rowF R r l * rowF R2 l j ∧ 0 ≤ f l ∧ f l ≤ 49) := fun l hl => by
                have g1 := HRR.out r hlt l (by rw [HCC.out]; exact hl)
                have g2 := HRS.out l hl j hjlt
                refine ⟨hf l, ?_⟩
                rw [hf]
                have h2 : 0 ≤ rowF R r l * rowF R2 l j := Int.mul_nonneg g1.1 g2.1
                have h3 := Int.mul_le_mul (show rowF R r l ≤ 7 by omega) (show rowF R2 l j ≤ 7 by omega) (by omega) (by omega)
                omega
              have HSM := hid (fun m hm => sm_49 (f := f) (n := R2.length) (fun l hl => (HF.out l hl).2) m hm)
              have HTJ : Hid (rowF (timL tp c k2 R R2) r j = sm R2.length f % tp) := by
                show _ = _
                rw [HTA.out r j hlt hjlt, HCC.out, sm_congr fun l _ => (hf l).symm]
              clear hf
              obtain ⟨y0, y1, y2⟩ := KY.out _ BJ.out
              go_wp2_with fail
              go_loopw [18, 19, 159] (fun su _ i W => ∃ l : Nat, l ≤ R2.length ∧ i = .int .i64 l ∧ su = .int .i64 (sm l f) ∧ Hid (Below W3.heap.size W3 W)) (fun _ _ i _ => R2.length - (intOf i).toNat)
              case atStart => exact ⟨0, Nat.zero_le _, rfl, rfl, BJ⟩
              case round =>
                obtain ⟨l, hl, rfl, rfl, BL⟩ := hrel
                clear BJ y0 y1 y2
                have hsm := HSM.out l hl
                obtain ⟨x0, x1, x2⟩ := KX.out _ BL.out
                by_cases hllt : l < R2.length
                · have hli : (l : Int) < (R2.length : Int) := by omega
                  have hml : R2.length - (l + 1) < R2.length - l := by omega
                  have hlc : l < c := by rw [HCC.out]; exact hllt
                  obtain ⟨c1, xh⟩ := XH.out _ BL.out
                  obtain ⟨rb, ro, rfl, c2'⟩ := xh l hlc
                  obtain ⟨yb, yo, rfl, yra, yrc, yh⟩ := YR.out l hllt
                  obtain ⟨c3, -, yh2⟩ := yh _ BL.out
                  obtain ⟨sb, so, rfl, c4⟩ := yh2 j hjlt
                  obtain ⟨y0, y1, y2⟩ := KY.out _ BL.out
                  obtain ⟨g1, g2, g3⟩ := HF.out l hllt
                  have HS1 : Hid (sm (l + 1) f = sm l f + f l) := rfl
                  obtain ⟨S0, hS0⟩ : ∃ S0, sm l f = S0 := ⟨_, rfl⟩
                  rw [hS0] at hsm HS1 ⊢
                  obtain ⟨u1, hu1⟩ : ∃ u1, rowF R r l = u1 := ⟨_, rfl⟩
                  obtain ⟨u2, hu2⟩ : ∃ u2, rowF R2 l j = u2 := ⟨_, rfl⟩
                  rw [hu1, hu2] at g1
                  rw [hu1] at c2'
                  rw [hu2] at c4
                  obtain ⟨m1, hm1⟩ : ∃ m1, f l = m1 := ⟨_, rfl⟩
                  rw [hm1] at g1 g2 g3 HS1
                  have hmul := g1.symm
                  have hw1 : IntKind.i64.wrap m1 = m1 := IntWalk.i64_in _ (by omega)
                  have hlc' : (l : Int) < (c : Int) := by omega
                  clear xh yh yh2 hS0 hu1 hu2 hm1 g1
                  clear HSM HF HTJ HTA HRR HRS XR YR TR XH TH KA KX KY KK HCC hr
                  go_wp2_with fail
                  go_quiet (fail)
                  have BQ := hid (BL.out.trans ((drewN_below _ _ nq).mono BL.out.size))
                  go_wp2_with fail
                  go_roundw
                  case rel => exact ⟨l + 1, hllt, by go_num, by rw [HS1.out], BQ⟩
                  case measure => exact hml
                · obtain rfl : l = R2.length := by omega
                  have hnl : ¬ (R2.length : Int) < (R2.length : Int) := by omega
                  obtain ⟨t0, th⟩ := TH.out _ BL.out
                  obtain ⟨rb, ro, rfl, t1⟩ := th j hjlt
                  obtain ⟨z0, z1, z2⟩ := KA.out _ BL.out
                  rw [HTJ.out] at t1
                  obtain ⟨S0, hS0⟩ : ∃ S0, sm R2.length f = S0 := ⟨_, rfl⟩
                  rw [hS0] at hsm t1 ⊢
                  obtain ⟨m2, hm2⟩ : ∃ m2, S0 % tp = m2 := ⟨_, rfl⟩
                  have hm3 : Int.tmod S0 tp = m2 := by rw [Int.tmod_eq_emod_of_nonneg hsm.1, hm2]
                  have b2 : 0 ≤ m2 ∧ m2 < 7 := by
                    rw [← hm2]
                    have := Int.emod_nonneg S0 (show tp ≠ 0 by omega)
                    have := Int.emod_lt_of_pos S0 (show 0 < tp by omega)
                    omega
                  have hw2 : IntKind.i64.wrap m2 = m2 := IntWalk.i64_in _ (by omega)
                  have hn9 : (m2 != m2) = false := by simp
                  rw [hm2] at t1
                  clear th hS0 hm2
                  go_upto_region 34 with fail
                  go_cut [194] from 182 to 193 (fun x W => x = .bool false ∧ Hid (Below W3.heap.size W3 W))
                  case first =>
                    clear hmj hjlt
                    go_wp2_with fail
                    go_quiet (fail)
                    have BQ := hid (BL.out.trans ((drewN_below _ _ nq).mono BL.out.size))
                    go_wp2_with fail
                    go_meet
                    exact ⟨rfl, BQ⟩
                  case rest =>
                  obtain ⟨rfl, BQ⟩ := hcut
                  go_wp2_with fail
                  go_roundw
                  case rel => exact ⟨j + 1, hjlt, by go_num, BQ⟩
                  case measure => exact hmj
            · obtain rfl : j = k2 := by omega
              have hnj : ¬ (j : Int) < (j : Int) := by omega
              go_wp2_with fail
              go_roundw
              case rel => exact ⟨r + 1, hlt, by go_num, BJ⟩
              case measure => exact hmr
        · obtain rfl : r = R.length := by omega
          have hnr : ¬ (R.length : Int) < (R.length : Int) := by omega
          go_wp2_with fail
          go_meet
          exact BR
    · have ht1 : (tE == 0) = false := by rw [beq_eq_false_iff_ne]; exact ht
      clear ht
      go_wp2_with fail
      go_meet
      exact B15
  case rest =>
  have B16 := hcut
  clear hcut B15 UA HT0 KA KY RY
  by_cases hk : kE = 0
  · have hk1 : (kE == 0) = true := by rw [hk]; rfl
    have hc6 := HK6.out hk
    obtain ⟨e1, e2, RT⟩ := UK.out.ok hk
    subst e1
    subst e2
    obtain ⟨q1, q2, q3, q4⟩ := RT.reads (c := R.length) (fun i hi => by rw [turL, matL_len] at hi; rw [turL, matL_row hi, List.length_map, List.length_range])
    rw [turL_len] at q3 q4
    cases q3
    have TR := hid q4
    clear q4
    have COL : Hid (∀ j W, j < c → Below W3.heap.size W3 W → Calls Try.prog 14 #[.agg #[.int .i64 sp, .int .i64 c, .slice a R.length cap], .int .i64 j] W fun e w' => ∃ r, e = .returned r ∧ Ints w' r ((List.range R.length).map fun i => rowF R i j) ∧ Below W3.heap.size W3 w') := fun j W hj hW => (Column_ok sp c _ R j W (RX.out.below hW) HM.out hj).mono fun e w' ⟨r, h7, h8, h9⟩ => ⟨r, h7, h8, hW.trans (h9.mono hW.size)⟩
    have hn1 : (sp != sp) = false := by simp
    have hn2 : ((R.length : Int) != (R.length : Int)) = false := by simp
    have hn3 : ((c : Int) != (c : Int)) = false := by simp
    obtain ⟨x0, x1, x2⟩ := KX.out _ B16.out
    obtain ⟨z0, z1, z2⟩ := KK.out _ B16.out
    clear hk RT UK HK6 RX HM
    go_wp2_with fail
    clear hn1 hn2 hn3
    go_loopw [20, 222] (fun _ i W => ∃ j : Nat, j ≤ c ∧ i = .int .i64 j ∧ Hid (Below W3.heap.size W3 W)) (fun _ i _ => c - (intOf i).toNat)
    case atStart => exact ⟨0, Nat.zero_le _, rfl, B16⟩
    case round =>
      obtain ⟨j, hj, rfl, BJ⟩ := hrel
      clear B16 x0 x1 x2 z0 z1 z2
      by_cases hlt : j < c
      · have hji : (j : Int) < (c : Int) := by omega
        have hmj : c - (j + 1) < c - j := by omega
        obtain ⟨tb, tf, rfl, tra, trc, th⟩ := TR.out j hlt
        have TH : Hid (∀ wr, Below W3.heap.size W3 wr → wr.cell? ⟨tb, tf + j, none⟩ = some (.slice tra R.length trc) ∧ Ints wr (.slice tra R.length trc) ((List.range R.length).map (rowF (turL c R) j))) := fun wr hw => ⟨(th wr hw).1, (th wr hw).2.1⟩
        clear th
        have HTR : Hid ((List.range R.length).map (rowF (turL c R) j) = (List.range R.length).map fun i => rowF R i j) := List.map_congr_left fun i hi => turL_rowF hlt (List.mem_range.1 hi)
        have SM : Hid (∀ (r : Value) (W : World), Below W3.heap.size W3 W → Ints W r ((List.range R.length).map fun i => rowF R i j) → Calls Try.prog 13 #[.slice tra R.length trc, r] W fun e w' => e = .returned (.bool true) ∧ Hid (Below W3.heap.size W3 w')) := fun r W hW hI => (Same_any _ _ _ _ W (TH.out W hW).2 hI).mono fun e w' h9 => ⟨by rw [h9.1, HTR.out]; simp, hW.trans (h9.2.mono hW.size)⟩
        obtain ⟨t0, -⟩ := TH.out _ BJ.out
        obtain ⟨x0, x1, x2⟩ := KX.out _ BJ.out
        obtain ⟨z0, z1, z2⟩ := KK.out _ BJ.out
        have CL : Hid (∀ W, Below W3.heap.size W3 W → Calls Try.prog 14 #[.agg #[.int .i64 sp, .int .i64 c, .slice a R.length cap], .int .i64 j] W fun e w' => ∃ ra rc, e = .returned (.slice ra R.length rc) ∧ Hid (Ints w' (.slice ra R.length rc) ((List.range R.length).map fun i => rowF R i j)) ∧ Hid (Below W3.heap.size W3 w')) := fun W hW => (COL.out j W hlt hW).mono fun e w' ⟨r, h7, h8, h9⟩ => by
          have h6 := h8
          obtain ⟨ra, rc, e4, -, -⟩ := h6
          rw [List.length_map, List.length_range] at e4
          subst e4
          exact ⟨ra, rc, h7, h8, h9⟩
        have KS : Hid (∀ W, Below W3.heap.size W3 W → (W.cell? ⟨tb, tf + j, none⟩ = some (.slice tra R.length trc) ∧ W.cell? ⟨w.heap.size, 0, none⟩ = some (.int .i64 sp) ∧ W.cell? ⟨w.heap.size, 1, none⟩ = some (.int .i64 c) ∧ W.cell? ⟨w.heap.size, 2, none⟩ = some (.slice a R.length cap) ∧ W.cell? ⟨w14.heap.size, 2, none⟩ = some (.slice (some ⟨tb, tf, none⟩) c sz))) := fun W hW => by
          obtain ⟨a1, a2, a3⟩ := KX.out _ hW
          obtain ⟨a4, a5, a6⟩ := KK.out _ hW
          exact ⟨(TH.out _ hW).1, a1, a2, a3, a6⟩
        clear COL TR HTR
        go_upto_region 44 with fail
        go_cut [234] from 225 to 233 (fun x W => x = .bool false ∧ Hid (Below W3.heap.size W3 W))
        case first =>
          clear hmj hji hj
          go_wp2_with fail
          go_region_held3 (fun W => W.cell? ⟨tb, tf + j, none⟩ = some (.slice tra R.length trc) ∧ W.cell? ⟨w.heap.size, 0, none⟩ = some (.int .i64 sp) ∧ W.cell? ⟨w.heap.size, 1, none⟩ = some (.int .i64 c) ∧ W.cell? ⟨w.heap.size, 2, none⟩ = some (.slice a R.length cap) ∧ W.cell? ⟨w14.heap.size, 2, none⟩ = some (.slice (some ⟨tb, tf, none⟩) c sz)) (go_keep) (first
            | (go_at_call 14; (refine (CL.out _ (by first | exact BJ.out.drew | exact BJ.out)).mono ?_); rintro e w4 ⟨ra4, rc4, rfl, I4, K4⟩; obtain ⟨k0, k1, k2, k3, k4⟩ := KS.out _ K4.out)
            | (go_at_call 13; (refine (SM.out _ _ K4.out I4.out).mono ?_); rintro e w5 ⟨rfl, K5⟩; obtain ⟨k0, k1, k2, k3, k4⟩ := KS.out _ K5.out))
          all_goals go_wp2_with fail
          all_goals go_meet
          all_goals exact ⟨rfl, K5⟩
        case rest =>
        obtain ⟨rfl, K5⟩ := hcut
        go_wp2_with fail
        go_roundw
        case rel => exact ⟨j + 1, hlt, by go_num, K5⟩
        case measure => exact hmj
      · obtain rfl : j = c := by omega
        have hnj : ¬ (j : Int) < (j : Int) := by omega
        go_wp2_with fail
        go_ret
        exact ⟨rfl, B.out.trans (BJ.out.mono B.out.size)⟩
  · have hk1 : (kE == 0) = false := by rw [beq_eq_false_iff_ne]; exact hk
    clear hk
    go_wp2_with fail
    go_ret
    exact ⟨rfl, B.out.trans (B16.out.mono B.out.size)⟩
end Go.Proofs.Ytpdfaenjmjphpaa
