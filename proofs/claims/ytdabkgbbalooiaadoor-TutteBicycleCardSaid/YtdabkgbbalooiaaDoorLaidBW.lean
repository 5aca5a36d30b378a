/- rotakeep.TutteBicycle. -/
import Derived.Test.YtdabkgbbalooiaaDoorTbAW
import Derived.Test.YtdabkgbbalooiaaDoorTMW
import Derived.Test.YtdabkgbbalooiaaDoorTvCW
import Derived.Test.YtdabkgbbalooiaaDoorFdRQ
import Derived.Test.YtdabkgbbalooiaaDoorOpnQ
import Derived.Test.YtdabkgbbalooiaaDoorTZW
import Derived.Lib.AppendIntMem
import Derived.Deep.RegionHeld3
namespace Go.Proofs.YtdabkgbbalooiaaDoor
open Go.RowKit

theorem tb_fam : Fam 1 [1] := ⟨by decide, by decide⟩
theorem tb_bas : Bas [1] := (bas_iff (by decide)).2 ⟨by decide, by decide +kernel, by decide +kernel⟩
theorem tb_one : (decZ (pvZ 1 [1] (-1) (-1))).toArray = #[45, 49] := by decide +kernel
theorem tbLinear_ok (p : Int) (c : Nat) (v : Value) (R : List (List Int)) (w : World) (h : RowsI w v R) (hm : MatOK p c R) :
    Calls Tryd.prog 5 #[.agg #[.int .i64 p, .int .i64 c, v]] w (GivesO w c (bigL c fun s => linB p R c s)) := by
  have := Linear_any p c v R w h
  rw [Int.toNat_natCast] at this
  exact this.mono fun e w' hm' => hm'.1 (MatOK.iff.2 hm)
theorem tbLinear_bad (p c : Int) (v : Value) (R : List (List Int)) (w : World) (h : RowsI w v R) (hm : matR p c R = 1) :
    Calls Tryd.prog 5 #[.agg #[.int .i64 p, .int .i64 c, v]] w (BadM w 1) := by
  have := Linear_any p c v R w h
  rw [hm] at this
  exact this.mono fun e w' hm' => hm'.2 (by decide)
theorem tb_lfam {p : Int} {c : Nat} {R : List (List Int)} (hm : MatOK p c R) : Fam c (bigL c fun s => linB p R c s) := by
  rw [lin_basR hm.pr hm.inF hm.c8']
  exact basR_fam _ _
theorem tb_llen {p : Int} {c : Nat} {R : List (List Int)} (hm : MatOK p c R) : (bigL c fun s => linB p R c s).length ≤ 17592186044416 := Nat.le_trans (fam_len hm.c8' (tb_lfam hm)) (by decide)
set_option maxRecDepth 20000 in
set_option maxHeartbeats 8000000 in
theorem tbic_law (p c : Int) (v : Value) (R : List (List Int)) (w : World) (h : RowsI w v R) (hw : Pow10 w) :
    Calls Tryd.prog 3 #[.agg #[.int .i64 p, .int .i64 c, v]] w fun e w' => e = .returned (.bool true) ∧ Below w.heap.size w w' := by
  have HW := hid (Lib.tabBelow_of_tabIs hw)
  have B : Hid (Below w.heap.size w (w.alloc (.cells #[.int .i64 p, .int .i64 c, v] 24))) := (Below.refl _ _).alloc (Nat.le_refl _) _
  have X := hid (World.alloc_heap_new w (.cells #[.int .i64 p, .int .i64 c, v] 24))
  have RX := hid (h.below B.out)
  have hi1 := Ints.lit1 (w.alloc (.cells #[.int .i64 p, .int .i64 c, v] 24)) 1
  rw [World.size_alloc] at hi1
  have C1 := hid (At_ok 1 _ [1] (-1) (-1) _ (by omega) tb_fam tb_bas (by omega) (by omega) (by omega) (by omega) hi1)
  rw [tb_one] at C1
  have HBL : Hid (Below (w.alloc (.cells #[.int .i64 p, .int .i64 c, v] 24)).heap.size (w.alloc (.cells #[.int .i64 p, .int .i64 c, v] 24)) ((w.alloc (.cells #[.int .i64 p, .int .i64 c, v] 24)).alloc (.cells #[.int .i64 1] 3))) := (Below.refl _ _).alloc (Nat.le_refl _) _
  obtain ⟨a, cap, rfl⟩ := h.form
  clear h hi1 hw
  go_enter Tryd.func3, Tryd.ntmps3
  go_wp2_with fail
  refine C1.out.mono ?_
  rintro e w1 ⟨rfl, hb0⟩
  have hb := HBL.out.trans (hb0.mono HBL.out.size)
  replace B := hid (B.out.trans (hb.mono B.out.size))
  replace X := hid (box_keep X.out hb)
  replace RX := hid (RX.out.below hb)
  clear hb hb0 HBL C1
  by_cases hp : p = 2
  rotate_left
  · have hp1 : (p != 2) = true := by rw [bne_iff_ne]; exact hp
    obtain ⟨Xc0, Xc1, Xc2⟩ := three_cells X.out
    go_wp2_with fail
    go_ret
    exact ⟨rfl, B.out⟩
  subst hp
  rcases matR_01 2 c R with hm | hm
  rotate_left
  · skip
    obtain ⟨Xc0, Xc1, Xc2⟩ := three_cells X.out
    have CC2 := hid (tbLinear_bad 2 c _ R _ RX.out hm)
    go_wp2_with fail
    refine CC2.out.mono ?_
    rintro e w3 ⟨rfl, hb⟩
    clear Xc0 Xc1 Xc2
    have hk := (Below.refl _ w3).alloc (Nat.le_refl _) (.cells #[.int .i64 0, .slice none 0 0] 30)
    have hT := hb.trans (hk.mono hb.size)
    replace B := hid (B.out.trans (hT.mono B.out.size))
    replace X := hid (box_keep X.out hT)
    replace RX := hid (RX.out.below hT)
    have XM := hid (World.alloc_heap_new w3 (.cells #[.int .i64 0, .slice none 0 0] 30))
    clear hk hT hb CC2
    obtain ⟨Xc0, Xc1, Xc2⟩ := three_cells X.out
    have CC4 := hid (Kernel_bad 2 c _ R _ RX.out hm)
    go_wp2_with fail
    refine CC4.out.mono ?_
    rintro e w5 ⟨rfl, hb⟩
    clear Xc0 Xc1 Xc2
    have hk := (Below.refl _ w5).alloc (Nat.le_refl _) (.cells #[.int .i64 0, .int .i64 0, .slice none 0 0] 24)
    have hT := hb.trans (hk.mono hb.size)
    replace B := hid (B.out.trans (hT.mono B.out.size))
    replace X := hid (box_keep X.out hT)
    replace RX := hid (RX.out.below hT)
    replace XM := hid (box_keep XM.out hT)
    have XK := hid (World.alloc_heap_new w5 (.cells #[.int .i64 0, .int .i64 0, .slice none 0 0] 24))
    clear hk hT hb CC4
    go_wp2_with fail
    go_ret
    exact ⟨rfl, B.out⟩
  have HM := hid (MatOK.of hm)
  obtain ⟨c, rfl⟩ : ∃ k : Nat, c = k := ⟨c.toNat, by have := HM.out.c0; omega⟩
  clear hm
  obtain ⟨Xc0, Xc1, Xc2⟩ := three_cells X.out
  have CC6 := hid (tbLinear_ok 2 c _ R _ RX.out HM.out)
  go_wp2_with fail
  refine CC6.out.mono ?_
  rintro e w7 ⟨u, rfl, hr, hb⟩
  obtain ⟨uma, umc, rfl⟩ := ownsRow_form' hr
  clear Xc0 Xc1 Xc2
  have hk := (Below.refl _ w7).alloc (Nat.le_refl _) (.cells #[.int .i64 c, .slice uma (bigL c fun s => linB 2 R c s).length umc] 30)
  have hT := hb.trans (hk.mono hb.size)
  replace B := hid (B.out.trans (hT.mono B.out.size))
  replace X := hid (box_keep X.out hT)
  replace RX := hid (RX.out.below hT)
  have XM := hid (World.alloc_heap_new w7 (.cells #[.int .i64 c, .slice uma (bigL c fun s => linB 2 R c s).length umc] 30))
  have IM := hid ((hr.ints (tb_llen HM.out)).below hk)
  clear hk hT hb CC6 hr
  by_cases hk6 : c ≤ (redL 2 c R).length + 6
  rotate_left
  · skip
    obtain ⟨Xc0, Xc1, Xc2⟩ := three_cells X.out
    have CC8 := hid (Kernel_large 2 c _ R _ RX.out HM.out (by omega))
    go_wp2_with fail
    refine CC8.out.mono ?_
    rintro e w9 ⟨rfl, hb⟩
    clear Xc0 Xc1 Xc2
    have hk := (Below.refl _ w9).alloc (Nat.le_refl _) (.cells #[.int .i64 0, .int .i64 0, .slice none 0 0] 24)
    have hT := hb.trans (hk.mono hb.size)
    replace B := hid (B.out.trans (hT.mono B.out.size))
    replace X := hid (box_keep X.out hT)
    replace RX := hid (RX.out.below hT)
    replace XM := hid (box_keep XM.out hT)
    replace IM := hid (IM.out.below hT)
    have XK := hid (World.alloc_heap_new w9 (.cells #[.int .i64 0, .int .i64 0, .slice none 0 0] 24))
    clear hk hT hb CC8
    go_wp2_with fail
    go_ret
    exact ⟨rfl, B.out⟩
  have HK6 := hid hk6
  clear hk6
  obtain ⟨Xc0, Xc1, Xc2⟩ := three_cells X.out
  have CC10 := hid (Kernel_ok 2 c _ R _ RX.out HM.out HK6.out)
  go_wp2_with fail
  refine CC10.out.mono ?_
  rintro e w11 ⟨u, rfl, hr, hb⟩
  obtain ⟨uka, ukc, rfl⟩ := hr.form
  clear Xc0 Xc1 Xc2
  have hk := (Below.refl _ w11).alloc (Nat.le_refl _) (.cells #[.int .i64 2, .int .i64 c, .slice uka (kerL 2 c R).length ukc] 24)
  have hT := hb.trans (hk.mono hb.size)
  replace B := hid (B.out.trans (hT.mono B.out.size))
  replace X := hid (box_keep X.out hT)
  replace RX := hid (RX.out.below hT)
  replace XM := hid (box_keep XM.out hT)
  replace IM := hid (IM.out.below hT)
  have XK := hid (World.alloc_heap_new w11 (.cells #[.int .i64 2, .int .i64 c, .slice uka (kerL 2 c R).length ukc] 24))
  have RK := hid ((hr.rows).below hk)
  clear hk hT hb CC10 hr
  have HMK := hid (kerL_ok HM.out HK6.out)
  obtain ⟨XMc0, XMc1⟩ := two_cells XM.out
  have CC12 := hid (At_ok c _ (bigL c fun s => linB 2 R c s) (-1) (-1) _ HM.out.c8' (tb_lfam HM.out) (lin_bas HM.out.pr HM.out.inF HM.out.c8') (by omega) (by omega) (by omega) (by omega) IM.out)
  rw [bic_is HM.out HK6.out] at CC12
  go_wp2_with fail
  refine CC12.out.mono ?_
  rintro e w13 ⟨rfl, hb⟩
  clear XMc0 XMc1
  replace B := hid (B.out.trans (hb.mono B.out.size))
  replace X := hid (box_keep X.out hb)
  replace RX := hid (RX.out.below hb)
  replace XM := hid (box_keep XM.out hb)
  replace IM := hid (IM.out.below hb)
  replace XK := hid (box_keep XK.out hb)
  replace RK := hid (RK.out.below hb)
  clear hb CC12
  obtain ⟨Xc0, Xc1, Xc2⟩ := three_cells X.out
  have CC14 := hid (Rank_ok 2 c _ R _ RX.out HM.out)
  go_wp2_with fail
  refine CC14.out.mono ?_
  rintro e w15 ⟨rfl, hb⟩
  clear Xc0 Xc1 Xc2
  replace B := hid (B.out.trans (hb.mono B.out.size))
  replace X := hid (box_keep X.out hb)
  replace RX := hid (RX.out.below hb)
  replace XM := hid (box_keep XM.out hb)
  replace IM := hid (IM.out.below hb)
  replace XK := hid (box_keep XK.out hb)
  replace RK := hid (RK.out.below hb)
  clear hb CC14
  have hRl := HM.out.rl
  have hKl := HMK.out.rl
  have hkl := kerL_len HM.out
  have hc8 := HM.out.c8'
  have hle := bic_rank HM.out HK6.out
  rw [List.length_append] at hle
  obtain ⟨hh, HH⟩ : ∃ hh, Hid (redN 2 c (R.length + (kerL 2 c R).length) (rowF (R ++ kerL 2 c R)) = hh) := ⟨_, rfl⟩
  have HG : Hid (∀ W u, Below w15.heap.size w15 W → RowsO w15 W u (R ++ kerL 2 c R) → Calls Tryd.prog 8 #[.int .i64 2, u] W fun e w' => e = .returned (.int .i64 (hh : Nat)) ∧ Below w15.heap.size w15 w') := fun W u hW hu => by
    have := Hang_ok 2 c u (R ++ kerL 2 c R) W (hu.rows hW (by rw [List.length_append]; omega)) HM.out.pr hc8 (by rw [List.length_append]; omega) (both_rows HM.out HMK.out).1 (both_rows HM.out HMK.out).2
    rw [List.length_append, HH.out] at this
    exact this.mono fun e w' h9 => ⟨h9.1, hW.trans (h9.2.mono hW.size)⟩
  have CR : Hid (∀ W, Below w15.heap.size w15 W → Calls Tryd.prog 9 #[.slice a R.length cap] W fun e w' => ∃ u, e = .returned u ∧ RowsO w15 w' u R ∧ Below w15.heap.size w15 w') := fun W hW => CloneRows_ok R _ _ W hW RX.out (by omega)
  rw [HH.out] at hle
  obtain ⟨d, HD⟩ : ∃ d, Hid (c - hh = d) := ⟨_, rfl⟩
  rw [HH.out, HD.out]
  have hd8 : d ≤ 8 := by rw [← HD.out]; omega
  have hs1 : IntKind.i64.wrap (((redL 2 c R).length : Nat) + ((kerL 2 c R).length : Nat) : Int) = (c : Int) := by rw [IntWalk.i64_in _ (by omega)]; omega
  have hs2 : IntKind.i64.wrap ((c : Int) - (hh : Nat)) = (d : Nat) := by rw [IntWalk.i64_in _ (by omega), ← HD.out]; omega
  obtain ⟨rl, HRL⟩ : ∃ rl, Hid ((redL 2 c R).length = rl) := ⟨_, rfl⟩
  rw [HRL.out] at hs1 ⊢
  obtain ⟨Xc0, Xc1, Xc2⟩ := three_cells X.out
  obtain ⟨XKc0, XKc1, XKc2⟩ := three_cells XK.out
  go_wp2_with fail
  have LL : Hid (R.length ≤ 64 ∧ (kerL 2 c R).length ≤ 64) := ⟨by omega, by omega⟩
  go_region_held3 (fun w' => (w'.cell? ⟨w.heap.size, 0, none⟩ = some (.int .i64 2) ∧ w'.cell? ⟨w.heap.size, 1, none⟩ = some (.int .i64 c) ∧ w'.cell? ⟨w.heap.size, 2, none⟩ = some (.slice a R.length cap)) ∧ w'.cell? ⟨w11.heap.size, 0, none⟩ = some (.int .i64 2) ∧ w'.cell? ⟨w11.heap.size, 1, none⟩ = some (.int .i64 c) ∧ w'.cell? ⟨w11.heap.size, 2, none⟩ = some (.slice uka (kerL 2 c R).length ukc)) (go_keep) (first
    | (go_at_call 9; (refine (CR.out _ (by first | exact (Below.refl _ _).drew | exact Below.refl _ _)).mono ?_); rintro e w4 ⟨u4, rfl, ho4, hb4⟩; have O4 := hid ho4; have K4 := hid hb4; obtain ⟨k0, k1, k2⟩ := three_cells (box_keep X.out hb4); obtain ⟨j0, j1, j2⟩ := three_cells (box_keep XK.out hb4); clear ho4 hb4)
    | (refine step_appR (w0 := w15) (R := R) (R2 := kerL 2 c R) (by first | rfl | kernel_rfl) (.tmp 61) (.tmp 63) rfl (by first | exact K4.out | exact K4.out.drew) O4.out RK.out LL.out.1 LL.out.2 ?_; intro v6 w6 ho6 hb6; have O6 := hid ho6; have K6 := hid hb6; obtain ⟨k0, k1, k2⟩ := three_cells (box_keep X.out hb6); obtain ⟨j0, j1, j2⟩ := three_cells (box_keep XK.out hb6); clear ho6 hb6)
    | (go_at_call 8; (refine (HG.out _ _ (by first | exact K6.out | exact K6.out.drew) (by first | exact O6.out)).mono ?_); rintro e wg ⟨rfl, hb7⟩; have K7 := hid hb7; obtain ⟨k0, k1, k2⟩ := three_cells (box_keep X.out hb7); obtain ⟨j0, j1, j2⟩ := three_cells (box_keep XK.out hb7); clear hb7))
  replace B := hid (B.out.trans (K7.out.mono B.out.size))
  replace X := hid (box_keep X.out K7.out)
  replace RX := hid (RX.out.below K7.out)
  replace XM := hid (box_keep XM.out K7.out)
  replace IM := hid (IM.out.below K7.out)
  replace XK := hid (box_keep XK.out K7.out)
  replace RK := hid (RK.out.below K7.out)
  clear CR HG K4 K6 K7 O4 O6 LL
  go_wp2_with fail
  go_loopw [12, 68, 69, 70, 71, 72] (fun z i _ _ _ _ W => ∃ k : Nat, k ≤ d ∧ z = .int .i64 ((-2) ^ k) ∧ i = .int .i64 k ∧ W = wg) (fun _ i _ _ _ _ _ => d - (intOf i).toNat)
  case atStart => exact ⟨0, by omega, rfl, rfl, rfl⟩
  case round =>
    obtain ⟨k, hk, rfl, rfl, rfl⟩ := hrel
    have hz := pow_small (d := k) (by omega)
    by_cases hlt : k < d
    · have hi : (k : Int) < (d : Int) := by omega
      have hz2 := pow_small (d := k + 1) (by omega)
      have hmk : d - (k + 1) < d - k := by omega
      have hw3 : IntKind.i64.wrap ((-2 : Int) ^ k * -2) = (-2) ^ (k + 1) := by rw [Int.pow_succ] at hz2 ⊢; exact IntWalk.i64_in _ (by omega)
      obtain ⟨z1, hz1⟩ : ∃ z1, (-2 : Int) ^ (k + 1) = z1 := ⟨_, rfl⟩
      obtain ⟨z0, hz0⟩ : ∃ z0, (-2 : Int) ^ k = z0 := ⟨_, rfl⟩
      rw [hz0, hz1] at hw3
      rw [hz0] at hz ⊢
      rw [hz1] at hz2
      have HZ := hid hz1
      clear hz1 hz0
      go_wp2_with fail
      go_roundw
      case rel => exact ⟨k + 1, by omega, by rw [HZ.out], by go_num, trivial⟩
      case measure => simp [intOf]; omega
    · obtain rfl : k = d := by omega
      have hn : ¬ (k : Int) < (k : Int) := by omega
      have EN := hid (bic_neg hd8 hc8)
      obtain ⟨z0, hz0⟩ : ∃ z0, (-2 : Int) ^ k = z0 := ⟨_, rfl⟩
      rw [hz0] at hz EN ⊢
      obtain ⟨y0, hy0⟩ : ∃ y0, (-1 : Int) ^ c * z0 = y0 := ⟨_, rfl⟩
      rw [hy0] at EN ⊢
      clear hz0 hy0
      obtain ⟨m0, m1⟩ := two_cells XM.out
      have IT : Hid (∀ (n : Int), -512 ≤ n → n ≤ 512 → Calls Tryd.prog 10 #[.int .i64 n] wr fun e w' => e = .returned (.string ⟨(decZ n).toArray⟩) ∧ Below wr.heap.size wr w') := fun n h1 h2 => Itoa_ok n wr (by omega) (by omega) (HW.out wr B.out)
      have IT := hid (IT.out y0 (by have := EN.out; split at this <;> omega) (by have := EN.out; split at this <;> omega))
      rcases Nat.mod_two_eq_zero_or_one c with hc2 | hc2
      · have hc3 : (c : Int) % 2 = 0 := by omega
        obtain rfl : z0 = y0 := by have := EN.out; rw [if_neg (by omega)] at this; exact this
        clear EN hz
        go_wp2_with fail
        refine IT.out.mono ?_
        rintro e w18 ⟨rfl, hb⟩
        have BB := hid (B.out.trans (hb.mono B.out.size))
        clear hb
        go_wp2_with fail
        go_ret
        exact ⟨rfl, BB.out⟩
      · have hc3 : (c : Int) % 2 = 1 := by omega
        have hy : -z0 = y0 := by have := EN.out; rw [if_pos hc2] at this; exact this
        clear EN
        go_wp2_with fail
        refine IT.out.mono ?_
        rintro e w18 ⟨rfl, hb⟩
        have BB := hid (B.out.trans (hb.mono B.out.size))
        clear hb
        go_wp2_with fail
        go_ret
        exact ⟨rfl, BB.out⟩
end Go.Proofs.YtdabkgbbalooiaaDoor

namespace Go.Proofs.YtdabkgbbalooiaaDoor
open Go.RowKit
/-- The law, as a row asks for it. -/
theorem tbic_row (p c : Int) (v : Value) (R : List (List Int)) (w : World) (_ : Tabbed w) (h : RowsI w v R) (hw : Pow10 w) :
    Calls Tryd.prog 3 #[.agg #[.int .i64 p, .int .i64 c, v]] w fun e w' => e = .returned (.bool true) ∧ Below w.heap.size w w' := tbic_law p c v R w h hw
end Go.Proofs.YtdabkgbbalooiaaDoor
