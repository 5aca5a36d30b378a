/- rotakeep.FlatsBeta. -/
import Derived.Test.YtpmpfnbgjgjlgabFlEQ
import Derived.Test.YtpmpfnbgjgjlgabCompQ
import Derived.Test.YtpmpfnbgjgjlgabPlainAll
namespace Go.Proofs.Ytpmpfnbgjgjlgab
open Go.RowKit

theorem Ints.lit2t (w : World) (a b : Int) (t : TypeId) : Ints (w.alloc (.cells #[.int .i64 a, .int .i64 b] t)) (.slice (some ⟨w.heap.size, 0, none⟩) 2 2) [a, b] :=
  ⟨_, 2, rfl, by simp, fun _ => ⟨w.heap.size, 0, rfl, by simp, fun i hi => by
    rw [World.cell?_alloc_at _ _ _ _ rfl]
    match i, hi with
    | 0, _ => rfl
    | 1, _ => rfl⟩⟩
theorem one_chr : (List.range (rk [1] (2 ^ 1 - 1) + 1)).map (chrS (rk [1]) (rk [1] (2 ^ 1 - 1)) (2 ^ 1)) = [-1, 1] := by decide +kernel
theorem one_fam : Fam 1 [1] := ⟨by decide, by decide⟩
theorem one_bas : Bas [1] := (bas_iff (by decide)).2 ⟨by decide, by decide +kernel, by decide +kernel⟩
/-- the slope at 1, by the first j coefficients -/
def slpS (cf : Nat → Int) (j : Nat) : Int := tal (fun k => (k : Int) * cf k) (List.range j)
theorem slp_step (cf : Nat → Int) (j : Nat) : slpS cf (j + 1) = slpS cf j + (j : Int) * cf j := by unfold slpS; rw [tal_range]
theorem mul_small {j : Nat} {x : Int} (hj : j ≤ 8) (h1 : -256 ≤ x) (h2 : x ≤ 256) : -2048 ≤ (j : Int) * x ∧ (j : Int) * x ≤ 2048 := by
  have : j = 0 ∨ j = 1 ∨ j = 2 ∨ j = 3 ∨ j = 4 ∨ j = 5 ∨ j = 6 ∨ j = 7 ∨ j = 8 := by omega
  rcases this with rfl | rfl | rfl | rfl | rfl | rfl | rfl | rfl | rfl <;> omega
theorem slp_bound {cf : Nat → Int} (h : ∀ i, -256 ≤ cf i ∧ cf i ≤ 256) : ∀ {j : Nat}, j ≤ 9 → -((2048 * j : Nat) : Int) ≤ slpS cf j ∧ slpS cf j ≤ ((2048 * j : Nat) : Int)
  | 0, _ => by unfold slpS; simp [tal]
  | j + 1, hj => by
    have h1 := slp_bound h (show j ≤ 9 by omega)
    have h2 := mul_small (show j ≤ 8 by omega) (h j).1 (h j).2
    rw [slp_step]
    omega
theorem beta_is {m : Nat} {l L L' : List Nat} (hm : m ≤ 8) (h2 : 2 ≤ m) (hb : Bas l) (hp : Prts (tg (cirL m l)) (2 ^ m - 1) L) (hq : L'.Perm L) :
    (slpS (chrS (rk l) (rk l (2 ^ m - 1)) (2 ^ m)) (rk l (2 ^ m - 1) + 1) ≠ 0) ↔ L'.length = 1 := by
  rw [hq.length_eq, con_len (by omega) hm hb hp, ← crapo hm h2 hb]
  have := slope_is hm (by omega : m ≠ 0) hb.rk
  have e : slpS (chrS (rk l) (rk l (2 ^ m - 1)) (2 ^ m)) (rk l (2 ^ m - 1) + 1) = - betaZ m (rk l) := this
  rw [e]
  omega
set_option maxRecDepth 20000 in
set_option maxHeartbeats 4000000 in
theorem fbeta_law (n : Int) (v : Value) (zs : List Int) (w : World) (h : Ints w v zs) :
    Calls Try.prog 4 #[.agg #[.int .i64 n, v]] w fun e w' => e = .returned (.bool true) ∧ Below w.heap.size w w' := by
  have HI := hid h
  obtain ⟨a, cap, rfl, -, -⟩ := h
  have hB0 := below_box w #[.int .i64 n, .slice a zs.length cap]
  have HX : Hid (∀ w2, Below (w.alloc (.cells #[.int .i64 n, .slice a zs.length cap] 24)).heap.size (w.alloc (.cells #[.int .i64 n, .slice a zs.length cap] 24)) w2 → _) := fun w2 hb => box_cells hb
  have hb1 : Below (w.alloc (.cells #[.int .i64 n, .slice a zs.length cap] 24)).heap.size (w.alloc (.cells #[.int .i64 n, .slice a zs.length cap] 24)) ((w.alloc (.cells #[.int .i64 n, .slice a zs.length cap] 24)).alloc (.cells #[.int .i64 1] 3)) := (Below.refl _ _).alloc (Nat.le_refl _) _
  have hi1 := Ints.lit1 (w.alloc (.cells #[.int .i64 n, .slice a zs.length cap] 24)) 1
  have hsz : (w.alloc (.cells #[.int .i64 n, .slice a zs.length cap] 24)).heap.size = w.heap.size + 1 := World.size_alloc ..
  rw [hsz] at hi1
  have C1 := hid (Characteristic_ok 1 _ [1] _ (by omega) one_fam one_bas hi1)
  have HB0 := hid hB0
  have HB1 := hid hb1
  have HI0 := hid (HI.out.below hB0)
  clear hB0 HI hb1 hi1 hsz
  go_enter Try.func4, Try.ntmps4
  go_wp2_with fail
  refine C1.out.mono ?_
  rintro e w2 ⟨u2, rfl, hu2, hb2⟩
  have hi2 := hu2.ints (by decide +kernel)
  rw [one_chr] at hi2
  have hb3 : Below w2.heap.size w2 (w2.alloc (.cells #[.int .i64 (-1), .int .i64 1] 2)) := (Below.refl _ _).alloc (Nat.le_refl _) _
  have S1 := hid (SameL_any _ _ _ _ _ (hi2.below hb3) (Ints.lit2t w2 (-1) 1 2))
  rw [show decide (([-1, 1] : List Int) = [-1, 1]) = true by decide] at S1
  obtain ⟨ua, ucap, hu, -, -⟩ := hi2
  subst hu
  have H13 := hid (HB1.out.trans ((hb2.trans (hb3.mono hb2.size)).mono HB1.out.size))
  clear hb2 hb3 hu2 C1
  go_wp2_with fail
  refine S1.out.mono ?_
  rintro e w4 ⟨rfl, hb4⟩
  have hb14 := H13.out.trans (hb4.mono H13.out.size)
  obtain ⟨x0, x1⟩ := HX.out w4 hb14
  have hs4 : w.heap.size < w4.heap.size := by have := hb14.size; simp at this; omega
  have HB4 := hid (HB0.out.trans (hb14.mono HB0.out.size))
  have HI4 := hid (HI0.out.below hb14)
  clear hb4 hb14 H13 S1 HX HB0 HI0 HB1
  by_cases hq : chkR n zs = 0
  · obtain ⟨m, l, rfl, hm, rfl, hf, hb⟩ := chk_of hq
    rw [N_len] at x1 HI4 ⊢
    have C1 := hid (Characteristic_ok m _ l w4 hm hf hb HI4.out)
    have C2 := hid (fun w5 (hb5 : Below w4.heap.size w4 w5) => Components_ok m _ l w5 hm hf hb (HI4.out.below hb5))
    have hR8 := rk_small hm hf (2 ^ m - 1)
    have HBD : Hid (∀ i, -256 ≤ chrS (rk l) (rk l (2 ^ m - 1)) (2 ^ m) i ∧ chrS (rk l) (rk l (2 ^ m - 1)) (2 ^ m) i ≤ 256) := fun i => by
      have h1 := chr_bound (rk l) (rk l (2 ^ m - 1)) (2 ^ m) i
      have h2 := (pow_wrap m hm).2
      omega
    have HIS := hid (fun h2 L L' hp hq => beta_is (L := L) (L' := L') hm h2 hb hp hq)
    unfold Comps at C2
    clear hq HI4 hf hb
    generalize chrS (rk l) (rk l (2 ^ m - 1)) (2 ^ m) = cf at *
    obtain ⟨N1, HN⟩ : ∃ N1, Hid (rk l (2 ^ m - 1) + 1 = N1) := ⟨_, rfl⟩
    rw [HN.out] at C1 HIS
    have hN9 : N1 ≤ 9 := by rw [← HN.out]; omega
    go_wp2_with fail
    refine C1.out.mono ?_
    rintro e w5 ⟨cv, rfl, hcv, hb5⟩
    have y0 := (hb5.cell (p := ⟨w.heap.size, 0, none⟩) hs4).trans x0
    have y1 := (hb5.cell (p := ⟨w.heap.size, 1, none⟩) hs4).trans x1
    have C3 := hid (C2.out w5 hb5)
    have HB5 := hid (HB4.out.trans (hb5.mono HB4.out.size))
    have HCV := hid hcv
    obtain ⟨cb, co, cc, rfl, hcb, -⟩ := hcv
    have hs5 : w.heap.size < w5.heap.size := Nat.lt_of_lt_of_le hs4 hb5.size
    clear hb5 C1 C2
    go_wp2_with fail
    refine C3.out.mono ?_
    rintro e w6 ⟨lv, L', rfl, ⟨L, hpr, hpe, -⟩, ho6, hb6⟩
    have z0 := (hb6.cell (p := ⟨w.heap.size, 0, none⟩) hs5).trans y0
    have HB6 := hid (HB5.out.trans (hb6.mono HB5.out.size))
    have HC6 := hid (HCV.out.below hb6)
    obtain ⟨la, lcap, hlv⟩ := ownsRow_form' ho6
    subst hlv
    have HIS2 := hid (fun h2 => HIS.out h2 L L' hpr hpe)
    clear hb6 C3 ho6 HCV hpr hpe HIS
    generalize L'.length = LL at *
    by_cases h2 : m < 2
    · have h2i : (m : Int) < 2 := by omega
      go_wp2_with fail
      go_ret
      exact ⟨rfl, HB6.out⟩
    · have h2i : ¬ (m : Int) < 2 := by omega
      have IS := hid (HIS2.out (by omega))
      clear HIS2
      go_wp2_with fail
      go_loopw [9, 10, 11, 48] (fun s _ _ i wr => ∃ j : Nat, j ≤ N1 ∧ i = .int .i64 j ∧ s = .int .i64 (slpS cf j) ∧ Hid (wr = w6)) (fun _ _ _ i _ => N1 - (intOf i).toNat)
      case atStart => exact ⟨0, Nat.zero_le _, rfl, rfl, rfl⟩
      case round =>
        obtain ⟨j, hj, rfl, rfl, HE⟩ := hrel
        obtain rfl := HE.out
        by_cases hlt : j < N1
        · have p1 := HC6.out.cellAt (Below.refl _ _) hlt
          have b1 := HBD.out j
          have b2 := slp_bound HBD.out (show j ≤ 9 by omega)
          have b3 := mul_small (show j ≤ 8 by omega) b1.1 b1.2
          have ST := hid (slp_step cf j)
          generalize cf j = x at *
          generalize slpS cf j = sj at *
          obtain ⟨q, hq, HQ⟩ : ∃ q, (j : Int) * x = q ∧ Hid ((j : Int) * x = q) := ⟨_, rfl, rfl⟩
          rw [HQ.out] at b3 ST
          go_wp2_with fail
          go_roundw
          case rel => exact ⟨j + 1, by omega, by go_num, by rw [ST.out], by first | exact True.intro | exact rfl⟩
          case measure => simp [intOf]; omega
        · obtain rfl : j = N1 := by omega
          have IS2 := IS.out
          clear IS
          generalize slpS cf j = sj at *
          by_cases hL : LL = 1
          · have hs : sj ≠ 0 := IS2.2 hL
            have e1 : ((LL : Int) == 1) = true := by rw [beq_iff_eq]; omega
            have e2 : (sj != 0) = true := by rw [bne_iff_ne]; exact hs
            clear IS2 hs
            go_wp2_with fail
            go_ret
            exact ⟨rfl, HB6.out⟩
          · have hs : sj = 0 := Classical.byContradiction fun c => hL (IS2.1 c)
            have e1 : ((LL : Int) == 1) = false := by rw [beq_eq_false_iff_ne]; omega
            have e2 : (sj != 0) = false := by rw [hs]; rfl
            clear IS2 hs
            go_wp2_with fail
            go_ret
            exact ⟨rfl, HB6.out⟩
  · have C1 := hid (Characteristic_bad n _ zs w4 HI4.out hq)
    have C2 := hid (fun w5 (hb5 : Below w4.heap.size w4 w5) => Components_bad n _ zs w5 (HI4.out.below hb5) hq)
    generalize chkR n zs = q at *
    have hq' : (q == 0) = false := by rw [beq_eq_false_iff_ne]; exact hq
    have hqq : (q == q) = true := by simp
    go_wp2_with fail
    refine C1.out.mono ?_
    rintro e w5 ⟨rfl, hb5⟩
    have y0 := (hb5.cell (p := ⟨w.heap.size, 0, none⟩) (by show w.heap.size < _; omega)).trans x0
    have y1 := (hb5.cell (p := ⟨w.heap.size, 1, none⟩) (by show w.heap.size < _; omega)).trans x1
    have C3 := hid (C2.out w5 hb5)
    have HB5 := hid (HB4.out.trans (hb5.mono HB4.out.size))
    clear hb5 C1 C2
    go_wp2_with fail
    refine C3.out.mono ?_
    rintro e w6 ⟨rfl, hb6⟩
    have HB6 := hid (HB5.out.trans (hb6.mono HB5.out.size))
    clear hb6
    go_wp2_with fail
    go_ret
    exact ⟨ret_bool (by simp), HB6.out⟩
end Go.Proofs.Ytpmpfnbgjgjlgab
