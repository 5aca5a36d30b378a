/- The walk of the law KindsUniform. -/
import Derived.Test.YtkebhhpfnalbfadUnifQ
import Derived.Test.YtkebhhpfnalbfadDualQ
import Derived.Test.YtkebhhpfnalbfadFreeQ
namespace Go.Proofs.Ytkebhhpfnalbfad
open Go.RowKit

theorem back_box {w w1 : World} {B : Nat} {x y : Value} (hx : w.cell? ⟨B, 0, none⟩ = some x ∧ w.cell? ⟨B, 1, none⟩ = some y) (hb : Below w.heap.size w w1) (hB : B < w.heap.size) : w1.cell? ⟨B, 0, none⟩ = some x ∧ w1.cell? ⟨B, 1, none⟩ = some y :=
  ⟨(hb.cell (p := ⟨B, 0, none⟩) hB).trans hx.1, (hb.cell (p := ⟨B, 1, none⟩) hB).trans hx.2⟩
theorem uni_one : uniL 1 0 = [0] := by decide +kernel
set_option maxRecDepth 20000 in
set_option maxHeartbeats 4000000 in
theorem uni_law (rank n : Int) (w : World) :
    Calls Try.prog 5 #[.int .i64 rank, .int .i64 n] w fun e w' => e = .returned (.bool true) ∧ Below w.heap.size w w' := by
  have U0 := hid (Uniform_ok 1 0 w (by decide) (by decide))
  rw [uni_one] at U0
  go_enter Try.func5, Try.ntmps5
  go_wp2_with fail
  have B0 : Hid (Below w.heap.size w w) := Below.refl _ _
  refine U0.out.mono ?_
  rintro e w1 ⟨r1, rfl, ho1, hb1'⟩
  obtain ⟨a1, cap1, hq1⟩ := ownsRow_form' ho1
  subst hq1
  have hp1 := ho1.ints (Nat.le_trans (by decide) (by decide : 256 ≤ 17592186044416))
  have hk1 := below_boxR w1 #[.int .i64 1, .slice a1 [0].length cap1]
  have hb1 := hb1'.trans (hk1.mono hb1'.size)
  have hz1 := World.size_alloc w1 (.cells #[.int .i64 1, .slice a1 [0].length cap1] 24)
  have hy1 := hb1'.size
  have B1 := hid (B0.out.trans (hb1.mono B0.out.size))
  have P1 := hid (box_cells (w := w1) (n := 1) (u := .slice a1 [0].length cap1) (Below.refl _ _))
  have X1 := hid (World.alloc_heap_new w1 (.cells #[.int .i64 1, .slice a1 [0].length cap1] 24))
  have M1 := hid (hp1.below hk1)
  have HO1 := hid (ho1.below hk1)
  clear hb1 hb1' hk1 hp1 ho1
  obtain ⟨p0, p1⟩ := P1.out
  go_wp2_with fail
  have SM := hid (Same_any _ _ (N [0]) [0] _ (M1.out.below (below_alloc _ _)) (Ints.lit1 (w1.alloc (.cells #[.int .i64 1, .slice a1 [0].length cap1] 24)) 0))
  rw [show decide (N [0] = [0]) = true from rfl, hz1] at SM
  refine SM.out.mono ?_
  rintro e w2 ⟨rfl, hb2⟩
  have hb2' : Below (w1.alloc (.cells #[.int .i64 1, .slice a1 [0].length cap1] 24)).heap.size (w1.alloc (.cells #[.int .i64 1, .slice a1 [0].length cap1] 24)) w2 := ((Below.refl _ _).alloc (Nat.le_refl _) _).trans (hb2.mono (by simp))
  have B2 := hid (B1.out.trans (hb2'.mono B1.out.size))
  have hy2 := hb2'.size
  clear hb2 hb2' SM p0 p1 P1 M1 X1 U0
  by_cases hh : 0 ≤ n ∧ n ≤ 8 ∧ 0 ≤ rank ∧ rank ≤ n
  · obtain ⟨m, rfl⟩ := Int.eq_ofNat_of_zero_le hh.1
    obtain ⟨k, rfl⟩ := Int.eq_ofNat_of_zero_le hh.2.2.1
    have hm : m ≤ 8 := by omega
    have hk : k ≤ m := by omega
    clear hh
    have UO := hid (Uniform_ok m k w2 hm hk)
    have hF := uni_fam m k
    have hB := uni_bas hm hk
    have ML := hid (fam_len hm hF)
    have ML2 := hid (fam_len hm (uni_fam m (m - k)))
    have DU := hid (fun w' v (h : Ints w' v (N (uniL m k))) => Dual_ok m v _ w' hm hF hB h)
    rw [uni_dual hm hk] at DU
    have UD := hid (fun w' => Uniform_ok m (m - k) w' hm (by omega))
    have TR := hid (fun w' v (h : Ints w' v (N (uniL m k))) (hk0 : 0 < k) => Truncate_ok m (k - 1) v _ w' hm hF hB h (by rw [uni_top hm hk]; omega))
    rw [uni_cut hm hk (by omega)] at TR
    have UT := hid (fun w' => Uniform_ok m (k - 1) w' hm (by omega))
    have ML3 := hid (fam_len hm (uni_fam m (k - 1)))
    have FR := hid (fun w' v (h : Ints w' v (N (uniL m k))) (h8 : m < 8) => Free_ok m v _ w' h8 hF hB h)
    have FL := hid (fun w' v (h8 : m = 8) (h : Ints w' v (N (uniL m k))) => (by subst h8; exact Free_large v _ w' hF hB h : Calls Try.prog 26 #[.agg #[.int .i64 m, v]] w' (BadM w' 2)))
    have UF := hid (fun w' (h8 : m < 8) => Uniform_ok (m + 1) k w' (by omega) (by omega))
    have ML4 : Hid (m < 8 → (uniL (m + 1) k).length ≤ 256) := fun h8 => fam_len (by omega) (uni_fam (m + 1) k)
    have UFE : Hid (m < 8 → feL m (uniL m k) = uniL (m + 1) k) := fun h8 => uni_free h8 hk
    have hmk : ((m : Int) - (k : Int)) = ((m - k : Nat) : Int) := by omega
    clear hF hB
    generalize uniL m (m - k) = dl at *
    generalize uniL m (k - 1) = tl at *
    generalize hfl : feL m (uniL m k) = fl at *
    generalize uniL (m + 1) k = gl at *
    generalize uniL m k = l at *
    generalize hj : m - k = j at *
    go_wp2_with fail
    refine UO.out.mono ?_
    rintro e w3 ⟨r3, rfl, ho3, hb3'⟩
    obtain ⟨a3, cap3, hq3⟩ := ownsRow_form' ho3
    subst hq3
    have hp3 := ho3.ints (Nat.le_trans ML.out (by decide : 256 ≤ 17592186044416))
    have hk3 := below_boxR w3 #[.int .i64 (m : Nat), .slice a3 l.length cap3]
    have hb3 := hb3'.trans (hk3.mono hb3'.size)
    have hz3 := World.size_alloc w3 (.cells #[.int .i64 (m : Nat), .slice a3 l.length cap3] 24)
    have hy3 := hb3'.size
    have B3 := hid (B2.out.trans (hb3.mono B2.out.size))
    have P3 := hid (box_cells (w := w3) (n := (m : Nat)) (u := .slice a3 l.length cap3) (Below.refl _ _))
    have X3 := hid (World.alloc_heap_new w3 (.cells #[.int .i64 (m : Nat), .slice a3 l.length cap3] 24))
    have M3 := hid (hp3.below hk3)
    have HO3 := hid (ho3.below hk3)
    clear hb3 hb3' hk3 hp3 ho3
    obtain ⟨p0, p1⟩ := P3.out
    go_wp2_with fail
    refine (DU.out _ _ M3.out).mono ?_
    clear p0 p1
    rintro e w4 ⟨r4, rfl, ho4, hb4'⟩
    obtain ⟨a4, cap4, hq4⟩ := ownsRow_form' ho4
    subst hq4
    have hp4 := ho4.ints (Nat.le_trans ML2.out (by decide : 256 ≤ 17592186044416))
    have hk4 := below_boxR w4 #[.int .i64 (m : Nat), .slice a4 dl.length cap4]
    have hb4 := hb4'.trans (hk4.mono hb4'.size)
    have hz4 := World.size_alloc w4 (.cells #[.int .i64 (m : Nat), .slice a4 dl.length cap4] 24)
    have hy4 := hb4'.size
    have B4 := hid (B3.out.trans (hb4.mono B3.out.size))
    replace P3 := hid (back_box P3.out hb4 (by omega))
    replace M3 := hid (M3.out.below hb4)
    have P4 := hid (box_cells (w := w4) (n := (m : Nat)) (u := .slice a4 dl.length cap4) (Below.refl _ _))
    have X4 := hid (World.alloc_heap_new w4 (.cells #[.int .i64 (m : Nat), .slice a4 dl.length cap4] 24))
    have M4 := hid (hp4.below hk4)
    have HO4 := hid (ho4.below hk4)
    clear hb4 hb4' hk4 hp4 ho4
    go_wp2_with fail
    try rw [hmk]
    refine (UD.out _).mono ?_
    rintro e w5 ⟨r5, rfl, ho5, hb5'⟩
    obtain ⟨a5, cap5, hq5⟩ := ownsRow_form' ho5
    subst hq5
    have hp5 := ho5.ints (Nat.le_trans ML2.out (by decide : 256 ≤ 17592186044416))
    have hk5 := below_boxR w5 #[.int .i64 (m : Nat), .slice a5 dl.length cap5]
    have hb5 := hb5'.trans (hk5.mono hb5'.size)
    have hz5 := World.size_alloc w5 (.cells #[.int .i64 (m : Nat), .slice a5 dl.length cap5] 24)
    have hy5 := hb5'.size
    have B5 := hid (B4.out.trans (hb5.mono B4.out.size))
    replace P3 := hid (back_box P3.out hb5 (by omega))
    replace M3 := hid (M3.out.below hb5)
    replace P4 := hid (back_box P4.out hb5 (by omega))
    replace M4 := hid (M4.out.below hb5)
    have P5 := hid (box_cells (w := w5) (n := (m : Nat)) (u := .slice a5 dl.length cap5) (Below.refl _ _))
    have X5 := hid (World.alloc_heap_new w5 (.cells #[.int .i64 (m : Nat), .slice a5 dl.length cap5] 24))
    have M5 := hid (hp5.below hk5)
    have HO5 := hid (ho5.below hk5)
    clear hb5 hb5' hk5 hp5 ho5
    obtain ⟨u0, u1⟩ := P4.out
    obtain ⟨v0, v1⟩ := P5.out
    have SM6 := hid (SameMatroid_any (m : Int) (m : Int) _ _ (N dl) (N dl) _ M4.out M5.out)
    rw [decide_eq_true (rfl : (m : Int) = m), decide_eq_true (rfl : N dl = N dl), Bool.and_true] at SM6
    go_wp2_with fail
    refine SM6.out.mono ?_
    rintro e w6 ⟨rfl, hb6⟩
    have hy6 := hb6.size
    have B6 := hid (B5.out.trans (hb6.mono B5.out.size))
    replace P3 := hid (back_box P3.out hb6 (by omega))
    replace M3 := hid (M3.out.below hb6)
    replace X5 := hid ((hb6.block _ (by omega)).trans X5.out)
    clear hb6 u0 u1 v0 v1 SM6
    by_cases hk0 : k = 0
    · subst hk0
      obtain ⟨p0, p1⟩ := P3.out
      by_cases h8 : m = 8
      · have BP := B6
        have FL1 := hid (FL.out _ _ h8 M3.out)
        subst h8
        go_wp2_with fail
        refine FL1.out.mono ?_
        rintro e w9 ⟨rfl, hb9⟩
        have hk9 := below_boxR w9 #[.int .i64 0, .slice none 0 0]
        have B9 := hid (BP.out.trans ((hb9.trans (hk9.mono hb9.size)).mono BP.out.size))
        clear hb9 hk9
        go_wp2_with fail
        go_ret
        exact ⟨rfl, B9.out⟩
      · have h7 : m < 8 := by omega
        have hm8 : ((m : Int) == 8) = false := by rw [beq_eq_false_iff_ne]; omega
        have FR1 := hid (FR.out _ _ M3.out h7)
        go_wp2_with fail
        refine FR1.out.mono ?_
        rintro e w9 ⟨r9, rfl, ho9, hb9⟩
        obtain ⟨a9, cap9, hq9⟩ := ownsRow_form' ho9
        subst hq9
        have hk9 := below_boxR w9 #[.int .i64 ((m + 1 : Nat) : Int), .slice a9 fl.length cap9]
        have B9 := hid (B6.out.trans ((hb9.trans (hk9.mono hb9.size)).mono B6.out.size))
        clear hb9 hk9 ho9
        go_wp2_with fail
        go_ret
        exact ⟨rfl, B9.out⟩
    · have hk1 : 0 < k := by omega
      have hkI : (0 : Int) < (k : Int) := by omega
      have hkm : ((k : Int) - 1) = ((k - 1 : Nat) : Int) := by omega
      have hkz : ((k : Int) == 0) = false := by rw [beq_eq_false_iff_ne]; omega
      have TR1 := hid (TR.out _ _ M3.out hk1)
      obtain ⟨p0, p1⟩ := P3.out
      generalize hi : k - 1 = i at *
      go_wp2_with fail
      try rw [hkm]
      refine TR1.out.mono ?_
      clear p0 p1
      rintro e w7 ⟨r7, rfl, ho7, hb7'⟩
      obtain ⟨a7, cap7, hq7⟩ := ownsRow_form' ho7
      subst hq7
      have hp7 := ho7.ints (Nat.le_trans ML3.out (by decide : 256 ≤ 17592186044416))
      have hk7 := below_boxR w7 #[.int .i64 (m : Nat), .slice a7 tl.length cap7]
      have hb7 := hb7'.trans (hk7.mono hb7'.size)
      have hz7 := World.size_alloc w7 (.cells #[.int .i64 (m : Nat), .slice a7 tl.length cap7] 24)
      have hy7 := hb7'.size
      have B7 := hid (B6.out.trans (hb7.mono B6.out.size))
      replace P3 := hid (back_box P3.out hb7 (by omega))
      replace M3 := hid (M3.out.below hb7)
      replace X5 := hid ((hb7.block _ (by omega)).trans X5.out)
      have P7 := hid (box_cells (w := w7) (n := (m : Nat)) (u := .slice a7 tl.length cap7) (Below.refl _ _))
      have X7 := hid (World.alloc_heap_new w7 (.cells #[.int .i64 (m : Nat), .slice a7 tl.length cap7] 24))
      have M7 := hid (hp7.below hk7)
      have HO7 := hid (ho7.below hk7)
      clear hb7 hb7' hk7 hp7 ho7
      go_wp2_with fail
      try rw [hkm]
      refine (UT.out _).mono ?_
      rintro e w8 ⟨r8, rfl, ho8, hb8'⟩
      obtain ⟨a8, cap8, hq8⟩ := ownsRow_form' ho8
      subst hq8
      have hp8 := ho8.ints (Nat.le_trans ML3.out (by decide : 256 ≤ 17592186044416))
      have hk8 := below_boxR w8 #[.int .i64 (m : Nat), .slice a8 tl.length cap8]
      have hb8 := hb8'.trans (hk8.mono hb8'.size)
      have hz8 := World.size_alloc w8 (.cells #[.int .i64 (m : Nat), .slice a8 tl.length cap8] 24)
      have hy8 := hb8'.size
      have B8 := hid (B7.out.trans (hb8.mono B7.out.size))
      replace P3 := hid (back_box P3.out hb8 (by omega))
      replace M3 := hid (M3.out.below hb8)
      replace P7 := hid (back_box P7.out hb8 (by omega))
      replace M7 := hid (M7.out.below hb8)
      replace X5 := hid ((hb8.block _ (by omega)).trans X5.out)
      have P8 := hid (box_cells (w := w8) (n := (m : Nat)) (u := .slice a8 tl.length cap8) (Below.refl _ _))
      have X8 := hid (World.alloc_heap_new w8 (.cells #[.int .i64 (m : Nat), .slice a8 tl.length cap8] 24))
      have M8 := hid (hp8.below hk8)
      have HO8 := hid (ho8.below hk8)
      clear hb8 hb8' hk8 hp8 ho8
      obtain ⟨u0, u1⟩ := P7.out
      obtain ⟨v0, v1⟩ := P8.out
      have SM10 := hid (SameMatroid_any (m : Int) (m : Int) _ _ (N tl) (N tl) _ M7.out M8.out)
      rw [decide_eq_true (rfl : (m : Int) = m), decide_eq_true (rfl : N tl = N tl), Bool.and_true] at SM10
      go_wp2_with fail
      refine SM10.out.mono ?_
      rintro e w10 ⟨rfl, hb10⟩
      have hy10 := hb10.size
      have B10 := hid (B8.out.trans (hb10.mono B8.out.size))
      replace P3 := hid (back_box P3.out hb10 (by omega))
      replace M3 := hid (M3.out.below hb10)
      replace X5 := hid ((hb10.block _ (by omega)).trans X5.out)
      clear hb10 u0 u1 v0 v1 SM10
      obtain ⟨p0, p1⟩ := P3.out
      by_cases h8 : m = 8
      · have BP := B10
        have FL1 := hid (FL.out _ _ h8 M3.out)
        subst h8
        go_wp2_with fail
        refine FL1.out.mono ?_
        rintro e w9 ⟨rfl, hb9⟩
        have hk9 := below_boxR w9 #[.int .i64 0, .slice none 0 0]
        have B9 := hid (BP.out.trans ((hb9.trans (hk9.mono hb9.size)).mono BP.out.size))
        clear hb9 hk9
        go_wp2_with fail
        go_ret
        exact ⟨rfl, B9.out⟩
      · have h7 : m < 8 := by omega
        have hm8 : ((m : Int) == 8) = false := by rw [beq_eq_false_iff_ne]; omega
        have FR1 := hid (FR.out _ _ M3.out h7)
        rw [UFE.out h7] at FR1
        have UF1 := hid (fun w' => UF.out w' h7)
        have ML5 := hid (ML4.out h7)
        have hm1 : ((m : Int) + 1) = ((m + 1 : Nat) : Int) := by omega
        generalize m + 1 = m1 at *
        go_wp2_with fail
        refine FR1.out.mono ?_
        rintro e w9 ⟨r9, rfl, ho9, hb9'⟩
        obtain ⟨a9, cap9, hq9⟩ := ownsRow_form' ho9
        subst hq9
        have hp9 := ho9.ints (Nat.le_trans ML5.out (by decide : 256 ≤ 17592186044416))
        have hk9 := below_boxR w9 #[.int .i64 (m1 : Nat), .slice a9 gl.length cap9]
        have hb9 := hb9'.trans (hk9.mono hb9'.size)
        have hz9 := World.size_alloc w9 (.cells #[.int .i64 (m1 : Nat), .slice a9 gl.length cap9] 24)
        have hy9 := hb9'.size
        have B9 := hid (B10.out.trans (hb9.mono B10.out.size))
        replace X5 := hid ((hb9.block _ (by omega)).trans X5.out)
        have P9 := hid (box_cells (w := w9) (n := (m1 : Nat)) (u := .slice a9 gl.length cap9) (Below.refl _ _))
        have X9 := hid (World.alloc_heap_new w9 (.cells #[.int .i64 (m1 : Nat), .slice a9 gl.length cap9] 24))
        have M9 := hid (hp9.below hk9)
        have HO9 := hid (ho9.below hk9)
        clear hb9 hb9' hk9 hp9 ho9
        go_wp2_with fail
        try rw [hm1]
        refine (UF1.out _).mono ?_
        rintro e w11 ⟨r11, rfl, ho11, hb11⟩
        obtain ⟨a11, cap11, hq11⟩ := ownsRow_form' ho11
        subst hq11
        have hy11 := hb11.size
        replace P9 := hid (back_box P9.out hb11 (by omega))
        replace M9 := hid (M9.out.below hb11)
        replace X5 := hid ((hb11.block _ (by omega)).trans X5.out)
        have B11 := hid (B9.out.trans (hb11.mono B9.out.size))
        obtain ⟨y2, y3, g2, g3⟩ := two_cells X5.out
        have hx0 : w5.heap.size < w11.heap.size := by omega
        have Y0 := (World.cell?_setCell_other (w11.setCell ⟨w5.heap.size, 0, none⟩ (.int .i64 (m1 : Nat))) ⟨w5.heap.size, 1, none⟩ ⟨w9.heap.size, 0, none⟩ (.slice a11 gl.length cap11) (by simp <;> omega)).trans ((World.cell?_setCell_other w11 ⟨w5.heap.size, 0, none⟩ ⟨w9.heap.size, 0, none⟩ (.int .i64 (m1 : Nat)) (by simp <;> omega)).trans P9.out.1)
        have Y1 := (World.cell?_setCell_other (w11.setCell ⟨w5.heap.size, 0, none⟩ (.int .i64 (m1 : Nat))) ⟨w5.heap.size, 1, none⟩ ⟨w9.heap.size, 1, none⟩ (.slice a11 gl.length cap11) (by simp <;> omega)).trans ((World.cell?_setCell_other w11 ⟨w5.heap.size, 0, none⟩ ⟨w9.heap.size, 1, none⟩ (.int .i64 (m1 : Nat)) (by simp <;> omega)).trans P9.out.2)
        obtain ⟨Z0, Z1⟩ := set_two (x := .int .i64 (m1 : Nat)) (y := .slice a11 gl.length cap11) X5.out
        have I9 := hid ((((HO9.out.below hb11).set2 (b := w5.heap.size) (x := .int .i64 (m1 : Nat)) (y := .slice a11 gl.length cap11) (by omega)).ints (Nat.le_trans ML5.out (by decide : 256 ≤ 17592186044416))))
        have I11 := hid ((ho11.set2 (b := w5.heap.size) (x := .int .i64 (m1 : Nat)) (y := .slice a11 gl.length cap11) (by omega)).ints (Nat.le_trans ML5.out (by decide : 256 ≤ 17592186044416)))
        have SM12 := hid (SameMatroid_any (m1 : Int) (m1 : Int) _ _ (N gl) (N gl) _ I9.out I11.out)
        rw [decide_eq_true (rfl : (m1 : Int) = m1), decide_eq_true (rfl : N gl = N gl), Bool.and_true] at SM12
        have B12 := hid (below_two (b := w5.heap.size) (x := .int .i64 (m1 : Nat)) (y := .slice a11 gl.length cap11) B11.out (by omega))
        clear ho11 hb11
        go_wp2_with fail
        refine SM12.out.mono ?_
        rintro e w12 ⟨rfl, hb12⟩
        have B13 := hid (B12.out.trans (hb12.mono B12.out.size))
        clear hb12
        go_wp2_with fail
        go_ret
        exact ⟨rfl, B13.out⟩
  · have UB := hid (Uniform_bad n rank w2 hh)
    clear hh
    go_wp2_with fail
    refine UB.out.mono ?_
    rintro e w3 ⟨rfl, hb3⟩
    have hk3 := below_boxR w3 #[.int .i64 0, .slice none 0 0]
    have P3 := hid (box_cells (w := w3) (n := 0) (u := .slice none 0 0) (Below.refl _ _))
    have B3 := hid (B2.out.trans ((hb3.trans (hk3.mono hb3.size)).mono B2.out.size))
    obtain ⟨p0, p1⟩ := P3.out
    clear hb3 hk3
    go_wp2_with fail
    go_ret
    exact ⟨rfl, B3.out⟩
end Go.Proofs.Ytkebhhpfnalbfad
