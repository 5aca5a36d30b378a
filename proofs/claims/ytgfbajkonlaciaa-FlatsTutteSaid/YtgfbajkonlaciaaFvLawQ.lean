/- rotakeep.FlatsTutte. -/
import Derived.Test.YtgfbajkonlaciaaFlEW
import Derived.Test.YtgfbajkonlaciaaTvCQ
import Derived.Test.YtgfbajkonlaciaaPickNW
namespace Go.Proofs.Ytgfbajkonlaciaa
open Go.RowKit Go.Lib

theorem Ints.lit2f (w : World) (a b : Int) (t : TypeId) : Ints (w.alloc (.cells #[.int .i64 a, .int .i64 b] t)) (.slice (some ⟨w.heap.size, 0, none⟩) 2 2) [a, b] :=
  ⟨_, 2, rfl, by simp, fun _ => ⟨w.heap.size, 0, rfl, by simp, fun i hi => by
    rw [World.cell?_alloc_at _ _ _ _ rfl]
    match i, hi with
    | 0, _ => rfl
    | 1, _ => rfl⟩⟩
theorem fv_fam : Fam 1 [1] := ⟨by decide, by decide⟩
theorem fv_bas : Bas [1] := (bas_iff (by decide)).2 ⟨by decide, by decide +kernel, by decide +kernel⟩
theorem fv_len : (fltL 1 (rk [1])).length = 2 := by decide +kernel
theorem fv_mob : (List.range 2).map (mobF (rk [1]) 1) = [1, -1] := by decide +kernel
set_option maxRecDepth 20000 in
set_option maxHeartbeats 8000000 in
theorem ftutte_law (n : Int) (v : Value) (zs : List Int) (k : Int) (w : World) (h : Ints w v zs) (hk : -9223372036854775808 ≤ k ∧ k ≤ 9223372036854775807) :
    Calls Try.prog 3 #[.agg #[.int .i64 n, v], .int .i64 k] w fun e w' => e = .returned (.bool true) ∧ Below w.heap.size w w' := by
  have HI := hid h
  obtain ⟨a, cap, rfl, -, -⟩ := h
  have hB0 := below_box w #[.int .i64 n, .slice a zs.length cap]
  have HB0 := hid hB0
  have HI0 := hid (HI.out.below hB0)
  have HX : Hid (∀ w2, Below (w.alloc (.cells #[.int .i64 n, .slice a zs.length cap] 24)).heap.size (w.alloc (.cells #[.int .i64 n, .slice a zs.length cap] 24)) w2 → _) := fun w2 hb => box_cells hb
  have hi1 := Ints.lit1 (w.alloc (.cells #[.int .i64 n, .slice a zs.length cap] 24)) 1
  rw [World.size_alloc] at hi1
  have C1 := hid (Mobius_ok 1 _ [1] _ (by omega) fv_fam fv_bas hi1)
  rw [fv_len] at C1
  have HBL : Hid (Below (w.alloc (.cells #[.int .i64 n, .slice a zs.length cap] 24)).heap.size (w.alloc (.cells #[.int .i64 n, .slice a zs.length cap] 24)) ((w.alloc (.cells #[.int .i64 n, .slice a zs.length cap] 24)).alloc (.cells #[.int .i64 1] 3))) := (Below.refl _ _).alloc (Nat.le_refl _) _
  have HK := hid hk
  clear hB0 HI hi1 hk
  go_enter Try.func3, Try.ntmps3
  go_wp2_with fail
  refine C1.out.mono ?_
  rintro e w2 ⟨u2, rfl, hu2, hb2⟩
  have hi2 := hu2.ints (by decide)
  rw [fv_mob] at hi2
  have hb3 : Below w2.heap.size w2 (w2.alloc (.cells #[.int .i64 1, .int .i64 (-1)] 2)) := (Below.refl _ _).alloc (Nat.le_refl _) _
  have S1 := hid (SameL_any _ _ _ _ _ (hi2.below hb3) (Ints.lit2f w2 1 (-1) 2))
  rw [show decide (([1, -1] : List Int) = [1, -1]) = true by decide] at S1
  obtain ⟨ua, ucap, hu, -, -⟩ := hi2
  subst hu
  have hb13 := HBL.out.trans ((hb2.trans (hb3.mono hb2.size)).mono HBL.out.size)
  have H13 := hid hb13
  clear hb2 hb3 hb13 hu2 C1 HBL
  go_wp2_with fail
  refine S1.out.mono ?_
  rintro e w4 ⟨rfl, hb4⟩
  have hb14 := H13.out.trans (hb4.mono H13.out.size)
  obtain ⟨x0, x1⟩ := HX.out w4 hb14
  have hs4 : w.heap.size + 1 ≤ w4.heap.size := by have := hb14.size; simpa using this
  have HB4 := hid (HB0.out.trans (hb14.mono HB0.out.size))
  have HI4 := hid (HI0.out.below hb14)
  clear hb4 hb14 H13 S1 HX HB0 HI0
  by_cases hq : chkR n zs = 0
  rotate_left
  · have CB := hid (Characteristic_bad n _ zs w4 HI4.out hq)
    have hq1 : (chkR n zs != 0) = true := by rw [bne_iff_ne]; exact hq
    generalize chkR n zs = q at *
    clear hq
    go_wp2_with fail
    refine CB.out.mono ?_
    rintro e w5 ⟨rfl, hb5⟩
    have HB5 := hid (HB4.out.trans (hb5.mono HB4.out.size))
    clear hb5 CB
    go_wp2_with fail
    go_ret
    exact ⟨rfl, HB5.out⟩
  obtain ⟨m, l, rfl, hm, rfl, hf, hb⟩ := chk_of hq
  rw [N_len] at x1 HI4 ⊢
  have C1 := hid (Characteristic_ok m _ l w4 hm hf hb HI4.out)
  have PK := hid (fun w => PickG_any k 9 w HK.out.1 HK.out.2 (by decide) (by decide))
  have hP := pickN_lt k (n := 9) (by decide)
  have HP := hid hP
  have AT : Hid (∀ W, Below w4.heap.size w4 W → Calls Try.prog 8 #[.agg #[.int .i64 m, .slice a l.length cap], .int .i64 (1 - ((pickN k 9 : Int) - 4)), .int .i64 0] W fun e w' => e = .returned (.tuple #[.string ⟨(decZ (pvZ m l (1 - ((pickN k 9 : Int) - 4)) 0)).toArray⟩, .int .i64 0]) ∧ Below W.heap.size W w') := fun W hW => At_ok m _ l _ 0 W hm hf hb (by omega) (by omega) (by omega) (by omega) (HI4.out.below hW)
  rw [crapo_rota hm hf hb] at AT
  have hR8 := rk_small hm hf (2 ^ m - 1)
  have HCB : Hid (∀ j, -256 ≤ chrS (rk l) (rk l (2 ^ m - 1)) (2 ^ m) j ∧ chrS (rk l) (rk l (2 ^ m - 1)) (2 ^ m) j ≤ 256) := fun j => by
    have := chr_bound (rk l) (rk l (2 ^ m - 1)) (2 ^ m) j
    have h2 : 2 ^ m ≤ 256 := Nat.pow_le_pow_right (by omega) hm
    omega
  clear hq HI4 hf hb
  generalize chrS (rk l) (rk l (2 ^ m - 1)) (2 ^ m) = cf at *
  generalize rk l (2 ^ m - 1) = R at *
  generalize (pickN k 9) = p at *
  go_wp2_with fail
  refine C1.out.mono ?_
  rintro e w5 ⟨cv, rfl, hcv, hb5⟩
  obtain ⟨y, hy, hy2⟩ : ∃ y : Int, (p : Int) - 4 = y ∧ Hid (-4 ≤ y ∧ y ≤ 4) := ⟨_, rfl, by show _ ∧ _; omega⟩
  rw [hy] at AT
  have VA := hid (fun W (hW : Below w5.heap.size w5 W) => value_any cf y (R + 1) cv W (hcv.below hW) (by omega) (fun j _ => HCB.out j) hy2.out)
  have HB5 := hid hb5
  have y0 := (hb5.cell (p := ⟨w.heap.size, 0, none⟩) (by show w.heap.size < _; omega)).trans x0
  have y1 := (hb5.cell (p := ⟨w.heap.size, 1, none⟩) (by show w.heap.size < _; omega)).trans x1
  obtain ⟨cb, co, cc, rfl, -, -⟩ := hcv
  clear hb5 C1 x0 x1
  have P9 : Hid (Calls Try.prog 7 #[.int .i64 k, .int .i64 9] w5 fun e w' => e = .returned (.int .i64 (p : Nat)) ∧ w' = w5) := PK.out w5
  have hpy : Hid ((p : Int) - 4 = y) := hy
  clear hy PK
  go_wp2_with fail
  refine P9.out.mono ?_
  rintro e w' ⟨rfl, rfl⟩
  have hpy' := hpy.out
  have hyb := hy2.out
  have HHB := hid (hor_bound (c := cf) (N := R + 1) (fun j _ => HCB.out j) hyb (R + 1) (Nat.le_refl _))
  have HPW : Hid (4 ^ (R + 1) ≤ 262144) := Nat.le_trans (Nat.pow_le_pow_right (by omega) (show R + 1 ≤ 9 by omega)) (by decide)
  have OPM := hid (one_pow_mod R)
  have A1 := hid (AT.out w' HB5.out)
  clear P9 AT
  go_wp2_with fail
  refine A1.out.mono ?_
  rintro e w6 ⟨rfl, hb6⟩
  have B6 := hid (HB5.out.trans (hb6.mono HB5.out.size))
  have VA6 := hid (VA.out w6 hb6)
  clear hb6 A1 VA
  obtain ⟨H, hH⟩ : ∃ H, horN cf y (R + 1) (R + 1) = H := ⟨_, rfl⟩
  rw [hH] at HHB VA6 ⊢
  have hHH : H.natAbs < 4294967296 := by have := HHB.out; have := HPW.out; omega
  have ER : Hid ((-1 : Int) ^ R * H = if R % 2 = 1 then -H else H) := by
    show _ = _
    rw [OPM.out]
    split <;> omega
  rw [ER.out]
  obtain ⟨t0, HT0⟩ : ∃ t0, Hid ((if R % 2 = 1 then -H else H) = t0) := ⟨_, rfl⟩
  rw [HT0.out]
  clear hH HHB OPM HCB ER
  go_wp2_with fail
  refine VA6.out.mono ?_
  rintro e w7 ⟨zb, rfl, hzb, hI, hb7⟩
  have I7 := hid hI
  have B7 := hid (B6.out.trans (hb7.mono B6.out.size))
  have hzw : w.heap.size ≤ zb := Nat.le_trans (Nat.le_of_succ_le hs4) (Nat.le_trans B6.out.size hzb)
  have HZ := hid hzw
  have HZ4 : Hid (w4.heap.size ≤ zb) := Nat.le_trans B6.out.size hzb
  have HH := hid hHH
  clear hzb hI hb7 VA6 hzw
  rcases Nat.mod_two_eq_zero_or_one R with hR2 | hR2
  · obtain rfl : H = t0 := by rw [← HT0.out, if_neg (by omega)]
    have hr3 : (R : Int) % 2 = 0 := by omega
    have ST := hid (String_s zb H w7 I7.out HH.out)
    generalize (decZ H).toArray = txt at *
    clear hR2 HH HT0
    go_wp2_with fail
    refine ST.out.mono ?_
    rintro e w8 ⟨rfl, hb8⟩
    have B8 := hid (HB4.out.trans ((B7.out.trans (hb8.mono B7.out.size)).mono HB4.out.size))
    clear hb8 ST
    go_wp2_with fail
    go_ret
    exact ⟨rfl, B8.out⟩
  · obtain rfl : -H = t0 := by rw [← HT0.out, if_pos hR2]
    have hr3 : (R : Int) % 2 = 1 := by omega
    have NG := hid (Neg_s zb zb H H w7 I7.out I7.out)
    have HN : Hid ((-H).natAbs < 4294967296) := by show _ < _; rw [Int.natAbs_neg]; exact HH.out
    clear hR2 HH HT0
    go_wp2_with fail
    refine NG.out.mono ?_
    rintro e w8 ⟨rfl, hI8, hs8⟩
    have B8 := hid (hs8.below B7.out B7.out.size (fun k hk => by rw [hk]; exact HZ4.out))
    have ST := hid (String_s zb (-H) w8 hI8 HN.out)
    generalize (decZ (-H)).toArray = txt at *
    clear hI8 hs8 NG
    go_wp2_with fail
    refine ST.out.mono ?_
    rintro e w9 ⟨rfl, hb9⟩
    have B9 := hid (HB4.out.trans ((B8.out.trans (hb9.mono B8.out.size)).mono HB4.out.size))
    clear hb9 ST
    go_wp2_with fail
    go_ret
    exact ⟨rfl, B9.out⟩
end Go.Proofs.Ytgfbajkonlaciaa
