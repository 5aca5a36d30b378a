/- The law rotalaw.GreedySwaps. -/
import Derived.Test.YtimciginbiobmaaGsUQ
import Derived.Deep.CutRange
namespace Go.Proofs.Ytimciginbiobmaa
open Go.RowKit

set_option maxRecDepth 100000 in
set_option maxHeartbeats 8000000 in
theorem gswaps_law (n : Int) (v : Value) (zs : List Int) (a b x i : Int) (w : World) (h : Ints w v zs) (bx : -9223372036854775808 ≤ x ∧ x ≤ 9223372036854775807) :
    Calls Try.prog 6 #[.agg #[.int .i64 n, v], .int .i64 a, .int .i64 b, .int .i64 x, .int .i64 i] w fun e w' => e = .returned (.bool true) ∧ Below w.heap.size w w' := by
  have B0 := below_box w #[.int .i64 n, v]
  have HV0 := hid (h.below B0)
  have MR := hid (Matroid_ref n v zs _ (h.below B0))
  have HB0 := hid B0
  have HM := hid (fun w' (hb : Below w.heap.size w w') => h.below hb)
  obtain ⟨a0, cap, rfl, _, _⟩ := h
  obtain ⟨qf, HF⟩ : ∃ q, Hid (cbR n zs [a, b] = q) := ⟨_, Eq.refl (cbR n zs [a, b])⟩
  obtain ⟨qg0, HG0⟩ : ∃ q, Hid (cbR n zs [b] = q) := ⟨_, Eq.refl (cbR n zs [b])⟩
  obtain ⟨qh, HH⟩ : ∃ q, Hid (swE n zs a b x = q) := ⟨_, Eq.refl (swE n zs a b x)⟩
  obtain ⟨qg, HG⟩ : ∃ q, Hid (fdE n zs b i = q) := ⟨_, Eq.refl (fdE n zs b i)⟩
  obtain ⟨yE, HY⟩ : ∃ q, Hid (swY n zs a b x = q) := ⟨_, Eq.refl (swY n zs a b x)⟩
  obtain ⟨cE, HCE⟩ : ∃ q, Hid (fdC n zs b i = q) := ⟨_, Eq.refl (fdC n zs b i)⟩
  obtain ⟨LL, HLL⟩ : ∃ q, Hid (ladder (natL zs) a.toNat b.toNat = q) := ⟨_, Eq.refl (ladder (natL zs) a.toNat b.toNat)⟩
  go_enter Try.func6, Try.ntmps6
  go_wp2_with fail
  refine MR.out.mono ?_
  rintro e w1 ⟨rfl, hb1⟩
  obtain ⟨x0, x1⟩ := box_cells hb1
  have HX : Hid (w1.cell? ⟨w.heap.size, 0, none⟩ = some (.int .i64 n) ∧ w1.cell? ⟨w.heap.size, 1, none⟩ = some (.slice a0 zs.length cap)) := ⟨x0, x1⟩
  have HB1 := hid (HB0.out.trans (hb1.mono HB0.out.size))
  have hs1 := hb1.size
  rw [World.size_alloc] at hs1
  clear hb1 MR B0 HV0
  obtain ⟨qe, HE⟩ : ∃ q, Hid (chkR n zs = q) := ⟨_, Eq.refl (chkR n zs)⟩
  rw [HE.out]
  go_upto_if 30 with fail
  go_cut [12, 13] from 31 to 46 (fun f g W => f = .int .i64 qf ∧ g = .int .i64 qg0 ∧ Hid (W = w1))
  case first =>
    by_cases hq : qe = 0
    · subst hq
      have hE0 : cbR n zs [a, b] = if memZ a zs && memZ b zs then 0 else 1 := by
        unfold cbR
        rw [if_neg (by simp [HE.out])]
        simp
      have hG0 : cbR n zs [b] = if memZ b zs then 0 else 1 := by
        unfold cbR
        rw [if_neg (by simp [HE.out])]
        simp
      rw [HF.out] at hE0
      rw [HG0.out] at hG0
      have A1 := hid (HasZ_any _ zs a w1 (HM.out _ HB1.out))
      have A2 := hid (HasZ_any _ zs b w1 (HM.out _ HB1.out))
      have BY := hid (fun w => bad_yes 1 w)
      have BN := hid (fun w => bad_no 1 w)
      rcases ka : memZ a zs with _ | _ <;> rcases kb : memZ b zs with _ | _
      all_goals
        rw [ka] at A1
        rw [kb] at A2
        rw [ka, kb] at hE0
        rw [kb] at hG0
        have HE0 := hid hE0
        have HGG := hid hG0
        clear ka kb hE0 hG0
        go_wp2_with (first
          | (go_at_call 33; with_reducible refine A1.out.mono ?_; rintro e w' ⟨rfl, hw'⟩; obtain rfl := hw'.symm)
          | (go_at_call 33; with_reducible refine A2.out.mono ?_; rintro e w' ⟨rfl, hw'⟩; obtain rfl := hw'.symm)
          | (go_at_call 8; with_reducible refine (BY.out _).mono ?_; rintro e w' ⟨rfl, hw'⟩; obtain rfl := hw'.symm)
          | (go_at_call 8; with_reducible refine (BN.out _).mono ?_; rintro e w' ⟨rfl, hw'⟩; obtain rfl := hw'.symm))
        go_meet
        exact ⟨by rw [HE0.out]; rfl, by rw [HGG.out]; rfl, rfl⟩
    · have hq' : (qe == 0) = false := by simp [hq]
      have e1 : qf = qe := by rw [← HF.out, ← HE.out]; unfold cbR; rw [if_pos (by rw [HE.out]; exact hq)]
      have e2 : qg0 = qe := by rw [← HG0.out, ← HE.out]; unfold cbR; rw [if_pos (by rw [HE.out]; exact hq)]
      have E1 := hid e1
      have E2 := hid e2
      clear e1 e2
      go_wp2_with fail
      go_meet
      exact ⟨by rw [E1.out], by rw [E2.out], rfl⟩
  case rest =>
    obtain ⟨rfl, rfl, HWE⟩ := hcut
    have hWE := HWE.out.symm
    subst hWE
    clear HWE
    go_upto_if 49 with fail
    go_cut [14, 15] from 50 to 63 (fun h l W => h = .int .i64 qh ∧ Hid (ToldL w.heap.size W qf l LL ∧ Below w.heap.size w W ∧ Below w1.heap.size w1 W))
    case first =>
      by_cases hq : qf = 0
      · subst hq
        obtain ⟨m, l, rfl, hm, rfl, hf, hb, hy⟩ := cb_of HF.out
        obtain ⟨a', rfl, ha'⟩ := hy a (by simp)
        obtain ⟨b', rfl, hb'⟩ := hy b (by simp)
        have ha8 := hb.lt a' ha'
        have hb8 := hb.lt b' hb'
        have RL := hid (RLadder_ok m b' _ l hb hb' _ a' w1 ha' rfl (HM.out _ HB1.out))
        have hab : bits .andNot .i64 (a' : Int) (b' : Int) = ((dif a' b' : Nat) : Int) := i64_andNot_nat a' b' (by omega) (by omega)
        have hLL : ladder l a' b' = LL := by have := HLL.out; rwa [natL_N] at this
        rw [hLL] at RL
        have hSW : qh = if wiB x (dif a' b') = true then 0 else 3 := by
          rw [← HH.out]
          unfold swE
          rw [if_neg (by simp [HF.out])]
          rfl
        have WW := (wi_wr (dif_lt (b := b') ha8) bx.1 bx.2).1
        have BY := hid (fun w => bad_yes 3 w)
        have BN := hid (fun w => bad_no 3 w)
        have RW := hid (fun w => WithinZ_any x (dif a' b') w)
        obtain ⟨x0, x1⟩ := HX.out
        by_cases hx0 : 0 ≤ x
        · have d1 : decide ((0 : Int) ≤ x) = true := by simp [hx0]
          rw [d1, Bool.true_and] at WW
          rw [WW] at hSW
          rcases kb : wrB x (dif a' b') with _ | _
          all_goals
            rw [kb] at RW
            rw [kb] at hSW
            have HSW := hid hSW
            clear kb hSW WW hy hLL
            go_wp2_with fail
            refine RL.out.mono ?_
            rintro e w2 ⟨r2, rfl, ho2, hb2⟩
            obtain ⟨ra, rc, hre⟩ := ho2.form
            subst hre
            have T2 : Hid (ToldL w.heap.size w2 0 (.slice ra LL.length rc) LL ∧ Below w.heap.size w w2 ∧ Below w1.heap.size w1 w2) := ⟨.inr ⟨rfl, ho2.mono HB1.out.size⟩, HB1.out.trans (hb2.mono HB1.out.size), hb2⟩
            clear ho2 hb2
            go_wp2_with (first
              | (go_at_call 35; with_reducible refine (RW.out _).mono ?_; rintro e w' ⟨rfl, hw'⟩; obtain rfl := hw'.symm)
              | (go_at_call 8; with_reducible refine (BY.out _).mono ?_; rintro e w' ⟨rfl, hw'⟩; obtain rfl := hw'.symm)
              | (go_at_call 8; with_reducible refine (BN.out _).mono ?_; rintro e w' ⟨rfl, hw'⟩; obtain rfl := hw'.symm))
            go_meet
            exact ⟨by rw [HSW.out]; rfl, T2.out⟩
        · have d1 : decide ((0 : Int) ≤ x) = false := by simp [hx0]
          rw [d1, Bool.false_and] at WW
          rw [WW] at hSW
          have HSW := hid hSW
          clear hSW WW hy hLL
          go_wp2_with fail
          refine RL.out.mono ?_
          rintro e w2 ⟨r2, rfl, ho2, hb2⟩
          obtain ⟨ra, rc, hre⟩ := ho2.form
          subst hre
          have T2 : Hid (ToldL w.heap.size w2 0 (.slice ra LL.length rc) LL ∧ Below w.heap.size w w2 ∧ Below w1.heap.size w1 w2) := ⟨.inr ⟨rfl, ho2.mono HB1.out.size⟩, HB1.out.trans (hb2.mono HB1.out.size), hb2⟩
          clear ho2 hb2
          go_wp2_with (go_at_call 8; with_reducible refine (BN.out _).mono ?_; rintro e w' ⟨rfl, hw'⟩; obtain rfl := hw'.symm)
          go_meet
          exact ⟨by rw [HSW.out]; rfl, T2.out⟩
      · have hq' : (qf == 0) = false := by simp [hq]
        have e1 : qh = qf := by rw [← HH.out, ← HF.out]; unfold swE; rw [if_pos (by rw [HF.out]; exact hq)]
        have E1 := hid e1
        have HQ := hid hq
        clear e1 hq
        go_wp2_with fail
        go_meet
        exact ⟨by rw [E1.out], .inl ⟨HQ.out, rfl⟩, HB1.out, Below.refl _ _⟩
    case rest =>
      obtain ⟨rfl, HC⟩ := hcut
      obtain ⟨TL, HB2, HK2⟩ := HC.out
      have T2 := hid TL
      have B2 := hid HB2
      have HX2 : Hid (wc.cell? ⟨w.heap.size, 0, none⟩ = some (.int .i64 n) ∧ wc.cell? ⟨w.heap.size, 1, none⟩ = some (.slice a0 zs.length cap)) := ⟨(HK2.cell (p := ⟨w.heap.size, 0, none⟩) (by show w.heap.size < _; omega)).trans HX.out.1, (HK2.cell (p := ⟨w.heap.size, 1, none⟩) (by show w.heap.size < _; omega)).trans HX.out.2⟩
      have hs2 : w.heap.size + 1 ≤ wc.heap.size := Nat.le_trans hs1 HK2.size
      clear HC TL HB2 HK2 HX
      go_upto_if 65 with fail
      go_cut [14, 16, 18] from 66 to 75 (fun h y ok W => h = .int .i64 qh ∧ y = .int .i64 yE ∧ Hid (Below wc.heap.size wc W))
      case first =>
        by_cases hq : qh = 0
        · subst hq
          obtain ⟨m, l, a', b', x', y, ys, rfl, hm, rfl, hf, hb, rfl, rfl, rfl, ha', hb', hx', hys, hY⟩ := sw_good bx.1 bx.2 HH.out
          have hY2 : yE = y := by rw [← HY.out]; exact hY
          have SR := hid (Swapped_ok m a' b' x' _ l wc (HM.out _ B2.out) hm hb ha' hb' hx' y ys hys)
          have BY := hid (fun w => bad_yes 5 w)
          obtain ⟨x0, x1⟩ := HX2.out
          have HYY := hid hY2
          clear hY2 hY hys
          go_wp2_with fail
          refine SR.out.mono ?_
          rintro e w3 ⟨rfl, hb3⟩
          have HB3 := hid hb3
          clear hb3
          go_wp2_with (go_at_call 8; with_reducible refine (BY.out _).mono ?_; rintro e w' ⟨rfl, hw'⟩; obtain rfl := hw'.symm)
          go_meet
          exact ⟨rfl, by rw [HYY.out], HB3.out⟩
        · have hq' : (qh == 0) = false := by simp [hq]
          have e1 : yE = 0 := by rw [← HY.out]; unfold swY; rw [if_pos (by rw [HH.out]; exact hq)]
          have E1 := hid e1
          clear e1 hq
          go_wp2_with fail
          go_meet
          exact ⟨rfl, by rw [E1.out], Below.refl _ _⟩
      case rest =>
        obtain ⟨rfl, rfl, HC⟩ := hcut
        have T3 := hid (T2.out.below HC.out)
        have B3 := hid (B2.out.trans (HC.out.mono B2.out.size))
        have HX3 : Hid (wc.cell? ⟨w.heap.size, 0, none⟩ = some (.int .i64 n) ∧ wc.cell? ⟨w.heap.size, 1, none⟩ = some (.slice a0 zs.length cap)) := ⟨(HC.out.cell (p := ⟨w.heap.size, 0, none⟩) (by show w.heap.size < _; omega)).trans HX2.out.1, (HC.out.cell (p := ⟨w.heap.size, 1, none⟩) (by show w.heap.size < _; omega)).trans HX2.out.2⟩
        have hs3 : w.heap.size + 1 ≤ wc.heap.size := Nat.le_trans hs2 HC.out.size
        clear HC T2 B2 HX2
        go_upto_if 77 with fail
        go_cut [13] from 78 to 92 (fun g W => g = .int .i64 qg ∧ Hid (Below wc.heap.size wc W))
        case first =>
          by_cases hq : qg0 = 0
          · subst hq
            obtain ⟨m, l, rfl, hm, rfl, hf, hb, hy⟩ := cb_of HG0.out
            obtain ⟨b', rfl, hb'⟩ := hy b (by simp)
            have hb8 := hb.lt b' hb'
            have hFD : qg = if outB m b' i = true then 0 else 3 := by
              rw [← HG.out]
              unfold fdE
              rw [if_neg (by simp [HG0.out])]
              rfl
            obtain ⟨x0, x1⟩ := HX3.out
            have BY := hid (fun w => bad_yes 3 w)
            have BN := hid (fun w => bad_no 3 w)
            by_cases hi0 : 0 ≤ i
            · have d1 : decide ((0 : Int) ≤ i) = true := by simp [hi0]
              obtain ⟨j, rfl⟩ : ∃ j : Nat, i = j := ⟨i.toNat, by omega⟩
              by_cases him : j < m
              · have d2 : decide ((j : Int) < (m : Int)) = true := by simp; omega
                have d2' : decide (j < m) = true := by simp; omega
                have IN := hid (fun w => In_any b' j w hb8 (by omega))
                have hO : outB m b' j = !b'.testBit j := by unfold outB; rw [d1, d2]; simp
                rw [hO] at hFD
                rcases kb : b'.testBit j with _ | _
                all_goals
                  rw [kb] at IN
                  rw [kb] at hFD
                  have HFD := hid hFD
                  clear kb hFD hO hy
                  go_wp2_with (first
                    | (go_at_call 37; with_reducible refine (IN.out _).mono ?_; rintro e w' ⟨rfl, hw'⟩; obtain rfl := hw'.symm)
                    | (go_at_call 8; with_reducible refine (BY.out _).mono ?_; rintro e w' ⟨rfl, hw'⟩; obtain rfl := hw'.symm)
                    | (go_at_call 8; with_reducible refine (BN.out _).mono ?_; rintro e w' ⟨rfl, hw'⟩; obtain rfl := hw'.symm))
                  go_meet
                  exact ⟨by rw [HFD.out]; rfl, Below.refl _ _⟩
              · have d2 : decide ((j : Int) < (m : Int)) = false := by simp; omega
                have d2' : decide (j < m) = false := by simp; omega
                have hO : outB m b' j = false := by unfold outB; rw [d1, d2]; simp
                rw [hO] at hFD
                have HFD := hid hFD
                clear hFD hO hy
                go_wp2_with (go_at_call 8; with_reducible refine (BN.out _).mono ?_; rintro e w' ⟨rfl, hw'⟩; obtain rfl := hw'.symm)
                go_meet
                exact ⟨by rw [HFD.out]; rfl, Below.refl _ _⟩
            · have d1 : decide ((0 : Int) ≤ i) = false := by simp [hi0]
              have hO : outB m b' i = false := by unfold outB; rw [d1]; simp
              rw [hO] at hFD
              have HFD := hid hFD
              clear hFD hO hy
              go_wp2_with (go_at_call 8; with_reducible refine (BN.out _).mono ?_; rintro e w' ⟨rfl, hw'⟩; obtain rfl := hw'.symm)
              go_meet
              exact ⟨by rw [HFD.out]; rfl, Below.refl _ _⟩
          · have hq' : (qg0 == 0) = false := by simp [hq]
            have e1 : qg = qg0 := by rw [← HG.out, ← HG0.out]; unfold fdE; rw [if_pos (by rw [HG0.out]; exact hq)]
            have E1 := hid e1
            clear e1 hq
            go_wp2_with fail
            go_meet
            exact ⟨by rw [E1.out], Below.refl _ _⟩
        case rest =>
          obtain ⟨rfl, HC⟩ := hcut
          have T4 := hid (T3.out.below HC.out)
          have B4 := hid (B3.out.trans (HC.out.mono B3.out.size))
          have HX4 : Hid (wc.cell? ⟨w.heap.size, 0, none⟩ = some (.int .i64 n) ∧ wc.cell? ⟨w.heap.size, 1, none⟩ = some (.slice a0 zs.length cap)) := ⟨(HC.out.cell (p := ⟨w.heap.size, 0, none⟩) (by show w.heap.size < _; omega)).trans HX3.out.1, (HC.out.cell (p := ⟨w.heap.size, 1, none⟩) (by show w.heap.size < _; omega)).trans HX3.out.2⟩
          have hs4 : w.heap.size + 1 ≤ wc.heap.size := Nat.le_trans hs3 HC.out.size
          clear HC T3 B3 HX3
          go_upto_if 94 with fail
          go_cut [17] from 95 to 98 (fun c W => c = .int .i64 cE ∧ Hid (Below wc.heap.size wc W))
          case first =>
            by_cases hq : qg = 0
            · subst hq
              obtain ⟨m, l, b', i', rfl, hm, rfl, hf, hb, rfl, rfl, hb', hi', hbi, hC⟩ := fd_good HG.out
              have hC2 : cE = (fund l b' i' : Nat) := by rw [← HCE.out]; exact hC
              have RG := hid (Ring_ok m b' i' _ l wc (HM.out _ B4.out) hm hf hb hb' hi' hbi)
              obtain ⟨x0, x1⟩ := HX4.out
              have HC2 := hid hC2
              clear hC2 hC
              generalize fund l b' i' = fd at *
              go_wp2_with fail
              refine RG.out.mono ?_
              rintro e w3 ⟨rfl, hb3⟩
              have HB3 := hid hb3
              clear hb3
              go_wp2_with fail
              go_meet
              exact ⟨by rw [HC2.out], HB3.out⟩
            · have hq' : (qg == 0) = false := by simp [hq]
              have e1 : cE = 0 := by rw [← HCE.out]; unfold fdC; rw [if_pos (by rw [HG.out]; exact hq)]
              have E1 := hid e1
              clear e1 hq
              go_wp2_with fail
              go_meet
              exact ⟨by rw [E1.out], Below.refl _ _⟩
          case rest =>
            obtain ⟨rfl, HC⟩ := hcut
            have T5 := hid (T4.out.below HC.out)
            have B5 := hid (B4.out.trans (HC.out.mono B4.out.size))
            have x0 := (HC.out.cell (p := ⟨w.heap.size, 0, none⟩) (by show w.heap.size < _; omega)).trans HX4.out.1
            have x1 := (HC.out.cell (p := ⟨w.heap.size, 1, none⟩) (by show w.heap.size < _; omega)).trans HX4.out.2
            have hs5 : w.heap.size + 1 ≤ wc.heap.size := Nat.le_trans hs4 HC.out.size
            clear HC T4 B4 HX4
            have SU := hid (SwapU n _ zs a b x wc (HM.out _ B5.out) bx.1 bx.2)
            rw [HH.out, HY.out] at SU
            have O1 : Hid (qh ≠ 0 → yE = 0) := fun hq => by rw [← HY.out]; unfold swY; rw [if_pos (by rw [HH.out]; exact hq)]
            have O2 : Hid (qg ≠ 0 → cE = 0) := fun hq => by rw [← HCE.out]; unfold fdC; rw [if_pos (by rw [HG.out]; exact hq)]
            go_wp2_with fail
            refine SU.out.mono ?_
            rintro e w6 ⟨rfl, hb6⟩
            have T6 := hid (T5.out.below hb6)
            have B6 := hid (B5.out.trans (hb6.mono B5.out.size))
            have y0 := (hb6.cell (p := ⟨w.heap.size, 0, none⟩) (by show w.heap.size < _; omega)).trans x0
            have y1 := (hb6.cell (p := ⟨w.heap.size, 1, none⟩) (by show w.heap.size < _; omega)).trans x1
            have hs6 : w.heap.size + 1 ≤ w6.heap.size := Nat.le_trans hs5 hb6.size
            clear hb6 T5 B5 x0 x1 hs5 SU
            have LU := hid (LadU n _ zs a b w6 (HM.out _ B6.out))
            rw [HF.out, HLL.out] at LU
            go_wp2_with fail
            refine LU.out.mono ?_
            rintro e w7 ⟨r7, rfl, t7, hb7⟩
            have T7 := hid (T6.out.below hb7)
            have T7' := hid t7
            have B7 := hid (B6.out.trans (hb7.mono B6.out.size))
            have x0 := (hb7.cell (p := ⟨w.heap.size, 0, none⟩) (by show w.heap.size < _; omega)).trans y0
            have x1 := (hb7.cell (p := ⟨w.heap.size, 1, none⟩) (by show w.heap.size < _; omega)).trans y1
            have hs7 : w.heap.size + 1 ≤ w7.heap.size := Nat.le_trans hs6 hb7.size
            obtain ⟨r7a, r7l, r7c, hr7⟩ : ∃ p q c, r7 = .slice p q c := by
              rcases t7 with ⟨_, h⟩ | ⟨_, h⟩
              · exact ⟨_, _, _, h⟩
              · obtain ⟨p, c, h⟩ := h.form; exact ⟨_, _, _, h⟩
            obtain ⟨u15a, u15l, u15c, hu15⟩ : ∃ p q c, u15 = .slice p q c := by
              rcases T7.out with ⟨_, h⟩ | ⟨_, h⟩
              · exact ⟨_, _, _, h⟩
              · obtain ⟨p, c, h⟩ := h.form; exact ⟨_, _, _, h⟩
            subst hr7 hu15
            clear hb7 T6 B6 y0 y1 hs6 LU t7
            have FU := hid (FundU n _ zs b i w7 (HM.out _ B7.out))
            rw [HG.out, HCE.out] at FU
            go_wp2_with fail
            refine FU.out.mono ?_
            rintro e w8 ⟨rfl, hb8⟩
            have T8 := hid (T7.out.below hb8)
            have T8' := hid (T7'.out.below hb8)
            have B8 := hid (B7.out.trans (hb8.mono B7.out.size))
            clear hb8 T7 T7' B7 x0 x1 hs7 FU
            have LLn : Hid (LL.length ≤ 256 ∨ qf ≠ 0) := by
              by_cases hq : qf = 0
              · left
                obtain ⟨m, l, rfl, hm, rfl, hf, hb, hy⟩ := cb_of (HF.out.trans hq)
                obtain ⟨a', rfl, ha'⟩ := hy a (by simp)
                have := HLL.out
                rw [natL_N] at this
                rw [← this, ladder_len]
                have := pop_le (dif (a' : Int).toNat b.toNat) (dif_lt (hb.lt a' ha'))
                omega
              · exact .inr hq
            have N1 := hid (one_any yE qh w8 O1.out)
            have LI : Hid (Calls Try.prog 43 #[.slice r7a r7l r7c, .int .i64 qf, .slice u15a u15l u15c, .int .i64 qf] w8 fun e w' => e = .returned (.bool true) ∧ Below w8.heap.size w8 w') := by
              rcases LLn.out with hl | hq
              · exact list_any w8 T8'.out T8.out hl
              · rcases T8'.out with ⟨h1, h2⟩ | ⟨h1, _⟩
                · refine (list_bad w8 _ qf h2 (by simp [hq]) _).mono ?_
                  rintro e w' ⟨rfl, rfl⟩
                  exact ⟨rfl, Below.refl _ _⟩
                · exact absurd h1 hq
            have N2 := hid (fun w => one_any cE qg w O2.out)
            clear T8 T8' LLn
            go_wp2_with fail
            refine N1.out.mono ?_
            rintro e w' ⟨rfl, hw'⟩
            obtain rfl := hw'.symm
            go_wp2_with fail
            refine LI.out.mono ?_
            rintro e w9 ⟨rfl, hb9⟩
            have B9 := hid (B8.out.trans (hb9.mono B8.out.size))
            clear hb9
            go_wp2_with fail
            refine (N2.out _).mono ?_
            rintro e w' ⟨rfl, hw'⟩
            obtain rfl := hw'.symm
            go_wp2_with fail
            go_ret
            exact ⟨rfl, B9.out⟩
end Go.Proofs.Ytimciginbiobmaa
