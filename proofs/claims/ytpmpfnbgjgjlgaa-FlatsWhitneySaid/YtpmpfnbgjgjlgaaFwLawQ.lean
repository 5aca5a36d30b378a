/- rotakeep.FlatsWhitney. -/
import Derived.Test.YtpmpfnbgjgjlgaaFlEQ
import Derived.Test.YtpmpfnbgjgjlgaaFlGQ
import Derived.Test.YtpmpfnbgjgjlgaaPlainAll
namespace Go.Proofs.Ytpmpfnbgjgjlgaa
open Go.RowKit

theorem Ints.lit3t (w : World) (a b c : Int) (t : TypeId) : Ints (w.alloc (.cells #[.int .i64 a, .int .i64 b, .int .i64 c] t)) (.slice (some ⟨w.heap.size, 0, none⟩) 3 3) [a, b, c] :=
  ⟨_, 3, rfl, by simp, fun _ => ⟨w.heap.size, 0, rfl, by simp, fun i hi => by
    rw [World.cell?_alloc_at _ _ _ _ rfl]
    match i, hi with
    | 0, _ => rfl
    | 1, _ => rfl
    | 2, _ => rfl⟩⟩
theorem two_chr : (List.range (rk twoL (2 ^ 4 - 1) + 1)).map (chrS (rk twoL) (rk twoL (2 ^ 4 - 1)) (2 ^ 4)) = [3, -4, 1] := by decide +kernel
theorem abs_up (c : Nat) (w : World) (h : c ≤ 65536) : Calls Try.prog 35 #[.int .i64 (c : Int)] w fun e w' => e = .returned (.int .i64 (c : Int)) ∧ w' = w := by
  rcases Nat.eq_zero_or_pos c with rfl | h0
  · go_enter Try.func35, Try.ntmps35
    go_wp2_with fail
    go_ret
    exact ⟨rfl, rfl⟩
  · have h1 : - (c : Int) < (c : Int) := by omega
    have h2 : ¬ (c : Int) < - (c : Int) := by omega
    go_enter Try.func35, Try.ntmps35
    go_wp2_with fail
    go_ret
    exact ⟨rfl, rfl⟩
theorem abs_down (c : Nat) (w : World) (h : c ≤ 65536) : Calls Try.prog 35 #[.int .i64 (-(c : Int))] w fun e w' => e = .returned (.int .i64 (c : Int)) ∧ w' = w := by
  rcases Nat.eq_zero_or_pos c with rfl | h0
  · exact abs_up 0 w h
  · have h1 : - (c : Int) < (c : Int) := by omega
    have h2 : ¬ (c : Int) < - (c : Int) := by omega
    have h3 : - - (c : Int) = (c : Int) := by omega
    go_enter Try.func35, Try.ntmps35
    go_wp2_with fail
    go_ret
    exact ⟨rfl, rfl⟩
set_option maxRecDepth 20000 in
set_option maxHeartbeats 4000000 in
theorem fwhitney_law (n : Int) (v : Value) (zs : List Int) (w : World) (h : Ints w v zs) :
    Calls Try.prog 5 #[.agg #[.int .i64 n, v]] w fun e w' => e = .returned (.bool true) ∧ Below w.heap.size w w' := by
  have HI := hid h
  obtain ⟨a, cap, rfl, -, -⟩ := h
  have hB0 := below_box w #[.int .i64 n, .slice a zs.length cap]
  have HB0 := hid hB0
  have HI0 := hid (HI.out.below hB0)
  have HX : Hid (∀ w2, Below (w.alloc (.cells #[.int .i64 n, .slice a zs.length cap] 24)).heap.size (w.alloc (.cells #[.int .i64 n, .slice a zs.length cap] 24)) w2 → _) := fun w2 hb => box_cells hb
  clear hB0 HI
  go_enter Try.func5, Try.ntmps5
  go_wp2_with fail
  refine (two_any _).mono ?_
  rintro e w1 ⟨v1, rfl, hi1, hb1⟩
  have C1 := hid (Characteristic_ok 4 v1 twoL w1 (by omega) two_fam two_bas hi1)
  go_wp2_with fail
  refine C1.out.mono ?_
  rintro e w2 ⟨u2, rfl, hu2, hb2⟩
  have hi2 := hu2.ints (by decide +kernel)
  rw [two_chr] at hi2
  have hb3 : Below w2.heap.size w2 (w2.alloc (.cells #[.int .i64 3, .int .i64 (-4), .int .i64 1] 2)) := (Below.refl _ _).alloc (Nat.le_refl _) _
  have S1 := hid (SameL_any _ _ _ _ _ (hi2.below hb3) (Ints.lit3t w2 3 (-4) 1 2))
  rw [show decide (([3, -4, 1] : List Int) = [3, -4, 1]) = true by decide] at S1
  obtain ⟨ua, ucap, hu, -, -⟩ := hi2
  subst hu
  have hb13 := hb1.trans ((hb2.trans (hb3.mono hb2.size)).mono hb1.size)
  have H13 := hid hb13
  clear hb1 hb2 hb3 hb13 hi1 hu2 C1
  go_wp2_with fail
  refine S1.out.mono ?_
  rintro e w4 ⟨rfl, hb4⟩
  have hb14 := H13.out.trans (hb4.mono H13.out.size)
  obtain ⟨x0, x1⟩ := HX.out w4 hb14
  have hs4 : w.heap.size + 1 ≤ w4.heap.size := by have := hb14.size; simpa using this
  have HB4 := hid (HB0.out.trans (hb14.mono HB0.out.size))
  have HI4 := hid (HI0.out.below hb14)
  clear hb4 hb14 H13 S1 HX HB0 HI0
  by_cases hq : chkR n zs = 0
  · obtain ⟨m, l, rfl, hm, rfl, hf, hb⟩ := chk_of hq
    rw [N_len] at x1 HI4 ⊢
    have C1 := hid (Characteristic_ok m _ l w4 hm hf hb HI4.out)
    have C2 := hid (fun w5 (hb5 : Below w4.heap.size w4 w5) => Broken_ok m _ l w5 hm hf hb (HI4.out.below hb5))
    have HU : Hid (∀ k, k < ((List.range (2 ^ m)).filter (unbB (rk l) m)).length → ((List.range (2 ^ m)).filter (unbB (rk l) m)).getD k 0 < 256 ∧ pop (((List.range (2 ^ m)).filter (unbB (rk l) m)).getD k 0) ≤ rk l (2 ^ m - 1)) := fun k hk => by
      have hmem : ((List.range (2 ^ m)).filter (unbB (rk l) m)).getD k 0 ∈ (List.range (2 ^ m)).filter (unbB (rk l) m) := by simp [List.getD, hk]
      rw [List.mem_filter, List.mem_range] at hmem
      refine ⟨lt256 hm hmem.1, ?_⟩
      rw [← unb_ind hm hb.rk hmem.1 hmem.2]
      exact rk_top hb _ hmem.1
    have HWH := hid (fun j (hj : j ≤ rk l (2 ^ m - 1)) => chr_whit hm hb.rk hj)
    have hLl : ((List.range (2 ^ m)).filter (unbB (rk l) m)).length ≤ 256 := Nat.le_trans (Nat.le_trans (List.length_filter_le _ _) (by simp)) (pow_wrap m hm).2
    have hR8 := rk_small hm hf (2 ^ m - 1)
    clear hq HI4 hf hb
    generalize chrS (rk l) (rk l (2 ^ m - 1)) (2 ^ m) = cf at *
    generalize (List.range (2 ^ m)).filter (unbB (rk l) m) = L at *
    generalize rk l (2 ^ m - 1) = R at *
    obtain ⟨N1, HN⟩ : ∃ N1, Hid (R + 1 = N1) := ⟨_, rfl⟩
    rw [HN.out] at C1
    have hN9 : N1 ≤ 9 := by rw [← HN.out]; omega
    have hmk := fun w => run_make_row' (P := Try.prog) 27 2 (.int .i64 0) 8 Try.underlying27 Try.infoLong rfl .i64 .i64 N1 (by omega) (by omega) w
    go_wp2_with fail
    refine C1.out.mono ?_
    rintro e w5 ⟨cv, rfl, hcv, hb5⟩
    have y0 := (hb5.cell (p := ⟨w.heap.size, 0, none⟩) (by show w.heap.size < _; omega)).trans x0
    have y1 := (hb5.cell (p := ⟨w.heap.size, 1, none⟩) (by show w.heap.size < _; omega)).trans x1
    have C3 := hid (C2.out w5 hb5)
    have HB5 := hid (HB4.out.trans (hb5.mono HB4.out.size))
    have HCV := hid hcv
    obtain ⟨cb, co, cc, rfl, hcb, -⟩ := hcv
    clear hb5 C1 C2
    go_wp2_with fail
    refine C3.out.mono ?_
    rintro e w6 ⟨lv, rfl, ho6, hb6⟩
    have HB6 := hid (HB5.out.trans (hb6.mono HB5.out.size))
    have HC6 := hid (HCV.out.below hb6)
    have HL6 := hid (ho6.ints (by omega))
    obtain ⟨la, lcap, hlv⟩ := ho6.form
    subst hlv
    have tb := TblZ.new w6 N1 2
    have hB7 : Below w6.heap.size w6 (w6.alloc (.cells (madeCells #[.int .i64 0] N1) 2)) := (Below.refl _ _).alloc (Nat.le_refl _) _
    obtain ⟨W1, hW1⟩ : ∃ W1, w6.alloc (.cells (madeCells #[.int .i64 0] N1) 2) = W1 := ⟨_, rfl⟩
    rw [hW1] at tb hB7
    have HTB := hid tb
    have HB7 := hid hB7
    clear hb6 tb hB7 C3 ho6 HCV
    go_wp2_with fail
    clear hmk hW1
    have hs6 := HB6.out.size
    go_loopw [11, 55] (fun _ i wr => ∃ k : Nat, k ≤ L.length ∧ i = .int .i64 k ∧ Hid (TblZ w6.heap.size wr N1 (fun j => (ucnt L k j : Int))) ∧ Hid (Below w6.heap.size W1 wr)) (fun _ i _ => L.length - (intOf i).toNat)
    case atStart => exact ⟨0, Nat.zero_le _, rfl, HTB.out.congr (fun i _ => by rw [ucnt_zero]; rfl), Below.refl _ _⟩
    case round =>
      obtain ⟨k, hk, rfl, HK, HW⟩ := hrel
      by_cases hlt : k < L.length
      · obtain ⟨a', c', hv', -, hcc⟩ := HL6.out.nats
        obtain ⟨b, off, rfl, hbb, hcell⟩ := hcc (by omega)
        obtain ⟨rfl, rfl⟩ : la = some ⟨b, off, none⟩ ∧ lcap = c' := by simpa using hv'
        have z1 := ((HB7.out.trans HW.out).cell (p := ⟨b, off + k, none⟩) hbb).trans (hcell k hlt)
        obtain ⟨l1, l2⟩ := HU.out k hlt
        have dN : pop (L.getD k 0) < N1 := by rw [← HN.out]; omega
        have dNi : (pop (L.getD k 0) : Int) < (N1 : Int) := by omega
        have hk1 : w6.heap.size < wr.heap.size := HK.out.size
        have ST : Hid (∀ w', Below wr.heap.size wr w' → TblZ w6.heap.size (w'.setCell ⟨w6.heap.size, pop (L.getD k 0), none⟩ (.int .i64 ((ucnt L k (pop (L.getD k 0)) : Int) + 1))) N1 (fun j => (ucnt L (k + 1) j : Int))) := fun w' hb' => (HK.out.below hb').set _ _ dN (fun i hi => by
          rw [ucnt_step hlt]
          by_cases e : pop (L.getD k 0) = i
          · subst e; simp
          · rw [if_neg e, if_neg e])
        have CL : Hid (∀ w', Below wr.heap.size wr w' → w'.cell? ⟨w6.heap.size, pop (L.getD k 0), none⟩ = some (.int .i64 (ucnt L k (pop (L.getD k 0)) : Int)) ∧ w'.frozen? ⟨w6.heap.size, pop (L.getD k 0), none⟩ = false) := fun w' hb' => ⟨(HK.out.below hb').cell _ dN, (HK.out.below hb').frozen _⟩
        have cb8 := ucnt_le L k (pop (L.getD k 0))
        have S1 := hid (fun w => Size_any (L.getD k 0) w l1)
        clear hcell hcc HK
        generalize L.getD k 0 = x at *
        generalize ucnt L k (pop x) = cx at *
        generalize pop x = px at *
        go_wp2_with fail
        refine (S1.out _).mono ?_
        rintro e w8 ⟨rfl, hb8⟩
        have HB8 := hid hb8
        clear hb8
        go_wp2_with fail
        refine (S1.out _).mono ?_
        rintro e w9 ⟨rfl, hb9⟩
        have hb89 := HB8.out.trans (hb9.mono HB8.out.size)
        obtain ⟨q1, q2⟩ := CL.out w9 hb89
        have ST9 := hid (ST.out w9 hb89)
        have HW9 := hid (HW.out.trans (hb89.mono (Nat.le_of_lt hk1)))
        clear hb9 hb89 ST CL S1
        go_wp2_with fail
        go_roundw
        case rel => exact ⟨k + 1, by omega, by go_num, ST9.out, HW9.out.setCell (p := ⟨w6.heap.size, px, none⟩) (Nat.le_refl _) _⟩
        case measure => simp [intOf]; omega
      · obtain rfl : k = L.length := by omega
        have HWW := hid (HB6.out.trans ((HB7.out.trans HW.out).mono hs6))
        have HC7 := hid (HC6.out.below (HB7.out.trans HW.out))
        have HUL := hid (fun j => ucnt_le L L.length j)
        have HKK := hid HK.out
        clear HK HW HTB
        generalize ucnt L L.length = uc at *
        go_wp2_with fail
        go_loopw [12, 13, 74] (fun _ _ i wr' => ∃ j : Nat, j ≤ N1 ∧ i = .int .i64 j ∧ Hid (Below wr.heap.size wr wr')) (fun _ _ i _ => N1 - (intOf i).toNat)
        case atStart => exact ⟨0, Nat.zero_le _, rfl, Below.refl _ _⟩
        case round =>
          obtain ⟨j, hj, rfl, HV⟩ := hrel
          by_cases hlt' : j < N1
          · have hjR : j ≤ R := by rw [← HN.out] at hlt'; omega
            have WH := hid (HWH.out j hjR)
            obtain ⟨i1, hi1, hi2⟩ : ∃ i1 : Nat, (N1 : Int) - 1 - (j : Int) = (i1 : Int) ∧ R - j = i1 := ⟨R - j, by rw [← HN.out]; omega, rfl⟩
            have hi3 : i1 < N1 := by rw [← HN.out]; omega
            have hi4 : (i1 : Int) < (N1 : Int) := by omega
            rw [hi2] at WH
            have z1 := HC7.out.cellAt HV.out hi3
            have z2 := (HKK.out.below HV.out).cell j hlt'
            have u8 := HUL.out j
            have PP := hid (tmod_two j)
            clear HWH HUL hi2
            have mono2 := hid (fun m => below_drewF HV.out m)
            rcases Nat.mod_two_eq_zero_or_one j with hp | hp
            · have e0 : Int.tmod (j : Int) 2 = 0 := by rw [PP.out, hp]; rfl
              have hz : cf i1 = (uc j : Int) := by rw [WH.out, if_neg (by omega)]; omega
              rw [hz] at z1
              clear hz WH PP hp
              generalize uc j = c at *
              have AB := hid (fun w => abs_up c w (by omega))
              have hcc : ((c : Int) != (c : Int)) = false := by simp
              have hc0 : ¬ (c : Int) < 0 := by omega
              go_wp2_with fail
              go_quiet ((go_at_call 35; refine (AB.out _).mono ?_; rintro e w' ⟨rfl, rfl⟩; exact ⟨rfl, _, rfl⟩))
              go_wp2_with fail
              go_roundw
              case rel => exact ⟨j + 1, by omega, by go_num, mono2.out _⟩
              case measure => simp [intOf]; omega
            · have e0 : Int.tmod (j : Int) 2 = 1 := by rw [PP.out, hp]; rfl
              have hz : cf i1 = - (uc j : Int) := by rw [WH.out, if_pos hp]; omega
              rw [hz] at z1
              clear hz WH PP hp
              generalize uc j = c at *
              have AB := hid (fun w => abs_down c w (by omega))
              have hcc : ((c : Int) != (c : Int)) = false := by simp
              have hc0 : ¬ 0 < - (c : Int) := by omega
              go_wp2_with fail
              go_quiet ((go_at_call 35; refine (AB.out _).mono ?_; rintro e w' ⟨rfl, rfl⟩; exact ⟨rfl, _, rfl⟩))
              go_wp2_with fail
              go_roundw
              case rel => exact ⟨j + 1, by omega, by go_num, mono2.out _⟩
              case measure => simp [intOf]; omega
          · obtain rfl : j = N1 := by omega
            have HF := hid (HWW.out.trans (HV.out.mono HWW.out.size))
            go_wp2_with fail
            go_ret
            exact ⟨rfl, HF.out⟩
  · have C1 := hid (Characteristic_bad n _ zs w4 HI4.out hq)
    have C2 := hid (fun w5 (hb5 : Below w4.heap.size w4 w5) => Broken_bad n _ zs w5 (HI4.out.below hb5) hq)
    generalize chkR n zs = q at *
    have hq' : (q == 0) = false := by rw [beq_eq_false_iff_ne]; exact hq
    have hqq : (q == q) = true := by simp
    go_wp2_with fail
    refine C1.out.mono ?_
    rintro e w5 ⟨rfl, hb5⟩
    have y0 := (hb5.cell (p := ⟨w.heap.size, 0, none⟩) (by show w.heap.size < _; omega)).trans x0
    have y1 := (hb5.cell (p := ⟨w.heap.size, 1, none⟩) (by show w.heap.size < _; omega)).trans x1
    have C3 := hid (C2.out w5 hb5)
    have HB5 := hid (HB4.out.trans (hb5.mono HB4.out.size))
    clear hb5 C1 C2
    go_wp2_with fail
    refine C3.out.mono ?_
    rintro e w6 ⟨rfl, hb6⟩
    have HB6 := hid (HB5.out.trans (hb6.mono HB5.out.size))
    clear hb6
    go_wp2_with fail
    go_ret
    exact ⟨rfl, HB6.out⟩
end Go.Proofs.Ytpmpfnbgjgjlgaa
