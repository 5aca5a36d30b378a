/- rotakeep.CodesBounds. -/
import Derived.Test.YtcncaaeofcmefaaCdPW
import Derived.Test.YtcncaaeofcmefaaFdKW
import Derived.Deep.RegionHeld3
import Derived.Deep.CutRange
namespace Go.Proofs.Ytcncaaeofcmefaa
open Go.RowKit

theorem cb_lit : codE 3 2 [[1, 2]] = 0 := by decide +kernel
theorem cb_len : 3 ^ (redL 3 2 [[1, 2]]).length = 3 := by decide +kernel
theorem cb_wgt : ∀ i : Nat, i < 3 → wgtF 3 (redL 3 2 [[1, 2]]).length 2 (rowF (redL 3 2 [[1, 2]])) i = if i = 0 then 0 else 2 := by decide +kernel
theorem cb_rows (w : World) : RowsI ((w.alloc (.cells #[.int .i64 1, .int .i64 2] 3)).alloc (.cells #[.slice (some ⟨w.heap.size, 0, none⟩) 2 2] 28)) (.slice (some ⟨w.heap.size + 1, 0, none⟩) 1 1) [[1, 2]] := by
  refine ⟨_, 1, rfl, by simp, fun _ => ⟨w.heap.size + 1, 0, rfl, by simp, fun i hi => ?_⟩⟩
  obtain rfl : i = 0 := by simpa using hi
  refine ⟨.slice (some ⟨w.heap.size, 0, none⟩) 2 2, ?_, some ⟨w.heap.size, 0, none⟩, 2, rfl, by simp, fun _ => ⟨w.heap.size, 0, rfl, by simp; omega, fun j hj => ?_⟩⟩
  · rw [World.cell?_alloc_at _ _ _ _ (by simp)]
    rfl
  · have hb : Below (w.alloc (.cells #[.int .i64 1, .int .i64 2] 3)).heap.size (w.alloc (.cells #[.int .i64 1, .int .i64 2] 3)) ((w.alloc (.cells #[.int .i64 1, .int .i64 2] 3)).alloc (.cells #[.slice (some ⟨w.heap.size, 0, none⟩) 2 2] 28)) := (Below.refl _ _).alloc (Nat.le_refl _) _
    rw [hb.cell (p := ⟨w.heap.size, 0 + j, none⟩) (by simp), World.cell?_alloc_at _ _ _ _ rfl]
    have hj2 : j < 2 := hj
    match j, hj2 with
    | 0, _ => rfl
    | 1, _ => rfl
theorem bal_small {P n : Nat} (hP : 2 ≤ P ∧ P ≤ 7) (hn : n ≤ 8) : ∀ t, t ≤ 9 → 0 ≤ balN P n t ∧ balN P n t ≤ (t * 403537000 : Nat)
  | 0, _ => by simp [balN]
  | t + 1, ht => by
    have h1 := bal_small hP hn t (by omega)
    have h2 := (ch_out n (by omega) t (by omega)).2
    obtain ⟨q, hq⟩ : ∃ q, P = q + 1 := ⟨P - 1, by omega⟩
    have h3 := pow_le_7 (a := q) (k := t) (by omega) (by omega)
    have h4 : chN n t * q ^ t ≤ 403537000 := Nat.le_trans (Nat.mul_le_mul h2 h3) (by decide)
    have e : (chN n t : Int) * ((P : Int) - 1) ^ t = (chN n t * q ^ t : Nat) := by
      rw [hq, show ((q + 1 : Nat) : Int) - 1 = (q : Int) by omega, Int.natCast_mul, Int.natCast_pow]
    rw [balN, e, Nat.succ_mul]
    omega
theorem cnP_true : ∀ n, cnP (fun _ => true) n = n
  | 0 => rfl
  | n + 1 => by rw [cnP_succ, cnP_true n, if_pos rfl]
theorem us_small {d P : Nat} (hP : 0 < P) (hd : d ≤ 8) : ∀ m, usN d P m ≤ m * 8
  | 0 => Nat.le_refl _
  | m + 1 => by
    have h1 := us_small hP hd m
    have h2 : upN d (P ^ m) ≤ d := (upN_le (Nat.pow_pos hP)).2 (Nat.le_mul_of_pos_right d (Nat.pow_pos hP))
    rw [usN, Nat.succ_mul]
    omega
set_option maxRecDepth 20000 in
set_option maxHeartbeats 8000000 in
theorem cbounds_law (p c : Int) (v : Value) (R : List (List Int)) (w : World) (h : RowsI w v R) :
    Calls Try.prog 3 #[.agg #[.int .i64 p, .int .i64 c, v]] w fun e w' => e = .returned (.bool true) ∧ Below w.heap.size w w' := by
  obtain ⟨w0, hw0⟩ : ∃ w0, w.alloc (.cells #[.int .i64 p, .int .i64 c, v] 24) = w0 := ⟨_, rfl⟩
  have B0 : Hid (Below w.heap.size w w0) := by rw [← hw0]; exact (Below.refl _ _).alloc (Nat.le_refl _) _
  have X0 : Hid (w0.heap[w.heap.size]? = some (.cells #[.int .i64 p, .int .i64 c, v] 24 (0, 0))) := by rw [← hw0]; exact World.alloc_heap_new w _
  have R0 := hid (h.below B0.out)
  have D1 := hid (distance_any 3 2 _ [[1, 2]] _ (cb_rows w0))
  have HL1 : Hid (Below w0.heap.size w0 ((w0.alloc (.cells #[.int .i64 1, .int .i64 2] 3)).alloc (.cells #[.slice (some ⟨w0.heap.size, 0, none⟩) 2 2] 28))) := ((Below.refl _ _).alloc (Nat.le_refl _) _).alloc (by simp) _
  clear h
  go_enter Try.func3, Try.ntmps3
  go_wp2_with fail
  clear hw0
  refine D1.out.mono ?_
  rintro e w1 ⟨-, h1, hb1⟩
  have h2 := h1 3 2 cb_lit rfl rfl
  have h3 : e = .returned (.tuple #[.int .i64 2, .int .i64 0]) := by
    rcases h2 with ⟨d, he, hd, i, hi, hw⟩ | ⟨-, hall⟩
    · rw [show 3 ^ (redL ((3 : Nat) : Int) 2 [[1, 2]]).length = 3 from cb_len] at hi
      have h4 : wgtF 3 (redL ((3 : Nat) : Int) 2 [[1, 2]]).length 2 (rowF (redL ((3 : Nat) : Int) 2 [[1, 2]])) i = if i = 0 then 0 else 2 := cb_wgt i hi
      have h5 := hd.1
      rw [hw] at h4
      split at h4
      · omega
      · rw [he, h4]
        rfl
    · rw [show 3 ^ (redL ((3 : Nat) : Int) 2 [[1, 2]]).length = 3 from cb_len] at hall
      have h4 : wgtF 3 (redL ((3 : Nat) : Int) 2 [[1, 2]]).length 2 (rowF (redL ((3 : Nat) : Int) 2 [[1, 2]])) 1 = 2 := cb_wgt 1 (by decide)
      have h5 := hall 1 (by decide)
      omega
  subst h3
  have K1 := hid (HL1.out.trans (hb1.mono HL1.out.size))
  have B1 := hid (B0.out.trans (K1.out.mono B0.out.size))
  have X1 := hid (box_keep X0.out K1.out)
  have R1 := hid (R0.out.below K1.out)
  obtain ⟨x0, x1, x2⟩ := three_cells X1.out
  have D2 := hid (distance_any p c v R w1 R1.out)
  clear hb1 h1 h2 D1 HL1 K1 X0 R0 B0
  by_cases hE : codE p c R = 0
  rotate_left
  · obtain ⟨E, hEe⟩ : ∃ E, codE p c R = E := ⟨_, rfl⟩
    rw [hEe] at hE D2
    have hq1 : (E != 0) = true := by rw [bne_iff_ne]; exact hE
    have HE := hid hE
    clear hE hEe
    go_wp2_with fail
    refine D2.out.mono ?_
    rintro e w2 ⟨h1, -, hb2⟩
    have h9 := h1 HE.out
    subst h9
    have B2 := hid (B1.out.trans (hb2.mono B1.out.size))
    clear h1 hb2 D2
    go_wp2_with fail
    go_ret
    exact ⟨rfl, B2.out⟩
  obtain ⟨P, C, rfl, rfl, hm, hP2⟩ := codE_ok hE
  have HZ := hid hE
  have HM := hid hm
  clear hE hm
  go_wp2_with fail
  refine D2.out.mono ?_
  rintro e w2 ⟨-, h1, hb2⟩
  have B2 := hid (B1.out.trans (hb2.mono B1.out.size))
  have X2 := hid (box_keep X1.out hb2)
  have R2 := hid (R1.out.below hb2)
  obtain ⟨y0, y1, y2⟩ := three_cells X2.out
  rcases h1 P C HZ.out rfl rfl with ⟨d, rfl, hd, -⟩ | ⟨rfl, -⟩
  rotate_left
  · clear h1 hb2 D2
    go_wp2_with fail
    go_ret
    exact ⟨rfl, B2.out⟩
  have hp := HM.out.pr
  have hp7 := isP_pos hp
  have hC8 : C ≤ 8 := HM.out.c8'
  have RK := hid (Rank_ok P C v R w2 R2.out HM.out)
  obtain ⟨-, b, hRref, -, -⟩ := red_ok hp HM.out.rowc
  have hk6 : (redL P C R).length ≤ 6 := by rw [redL_len]; exact Nat.le_trans (red_ok hp HM.out.rowc).1 HM.out.rl
  have hRr : Rref P C (redL P C R).length (rowF (redL P C R)) b := by
    rw [← redL_len] at hRref
    have hx : ∀ i, i < (redL P C R).length → ∀ r, r < C → rowF (redL P C R) i r = redF P C R.length (rowF R) i r := fun i hi r hr => redL_rowF hi hr
    exact ⟨hRref.lt, hRref.mono, fun i hi => by rw [hx i hi _ (hRref.lt i hi)]; exact hRref.one i hi, fun i hi j hj hne => by rw [hx j hj _ (hRref.lt i hi)]; exact hRref.oth i hi j hj hne, fun i hi r hr => by rw [hx i hi r (Nat.lt_trans hr (hRref.lt i hi))]; exact hRref.fst i hi r hr, fun i hi r hr => by rw [hx i hi r hr]; exact hRref.rng i hi r hr⟩
  have MD := min_d (d := d) hp hRr hd.2.2
  obtain ⟨hd1, hdC, -⟩ := hd
  have HAM := hid (hamming hp MD hd1)
  have GRI := hid (gries hp (g := rowF (redL P C R)) (k := (redL P C R).length) (n := C) (redL P C R).length (fun _ => true) (fun _ => true) d (cnP_true _) (fun x _ h => MD x h))
  have PLO := hid (plotkin hp MD)
  have hCN : cnP (fun _ => true) C = C := cnP_true C
  rw [hCN] at GRI
  clear hRref hRr MD h1 hb2 D2 hCN
  obtain ⟨k, hk⟩ : ∃ k, (redL P C R).length = k := ⟨_, rfl⟩
  rw [hk] at RK HAM GRI PLO hk6 hP2
  clear hk HZ R1 R2 X1
  go_wp2_with fail
  refine RK.out.mono ?_
  rintro e w3 ⟨rfl, hb3⟩
  have B3 := hid (B2.out.trans (hb3.mono B2.out.size))
  have X3 := hid (box_keep X2.out hb3)
  obtain ⟨z0, z1, z2⟩ := three_cells X3.out
  have PK := hid (Power7_ok P k w3 (by omega) (by omega))
  obtain ⟨M, hM⟩ : ∃ M, P ^ k = M := ⟨_, rfl⟩
  have hMc : (P : Int) ^ k = (M : Int) := by rw [← hM]; simp
  rw [hM] at PK hP2
  rw [hMc] at HAM PLO
  clear hb3 RK X2 y0 y1 y2 hMc
  have HMM := hid hM
  clear hM
  go_wp2_with fail
  refine PK.out.mono ?_
  rintro e w4 ⟨rfl, rfl⟩
  clear PK
  obtain ⟨d1, hd1e, hd1f⟩ : ∃ d1 : Nat, (d : Int) - 1 = (d1 : Int) ∧ d - 1 = d1 := ⟨d - 1, by omega, rfl⟩
  rw [hd1f] at HAM
  obtain ⟨hf, hfe⟩ : ∃ hf, d1 / 2 = hf := ⟨_, rfl⟩
  rw [hfe] at HAM
  have e1 : (d1 : Int).tdiv 2 = (hf : Int) := by rw [← hfe]; rfl
  have e2 : (d1 : Int) / 2 = (hf : Int) := by rw [← hfe]; rfl
  have hf4 : hf ≤ 4 := by omega
  have HFE := hid hfe
  obtain ⟨P1, hP1, hP1'⟩ : ∃ P1 : Nat, (P : Int) - 1 = (P1 : Int) ∧ P = P1 + 1 := ⟨P - 1, by omega, by omega⟩
  have HPL := hid hp7
  have HP1 := hid hP1'
  have BS : Hid (∀ t, t ≤ 9 → 0 ≤ balN P C t ∧ balN P C t ≤ (t * 403537000 : Nat)) := fun t ht => bal_small (by have := HPL.out; omega) hC8 t ht
  have HHP := hid hp
  clear hfe hp hP1' hd1f
  go_wp2_with fail
  have B4 := B3
  clear z0 z1 z2
  go_loopw [10, 12] (fun z i W => ∃ t : Nat, t ≤ hf + 1 ∧ i = .int .i64 t ∧ z = .int .i64 (balN P C t) ∧ Hid (Below w4.heap.size w4 W)) (fun _ i _ => hf + 1 - (intOf i).toNat)
  case atStart => exact ⟨0, Nat.zero_le _, rfl, rfl, Below.refl _ _⟩
  case round =>
    obtain ⟨t, ht, rfl, rfl, HW⟩ := hrel
    obtain ⟨z0, z1, z2⟩ := three_cells (box_keep X3.out HW.out)
    by_cases hlt : t ≤ hf
    · have hti : (t : Int) ≤ (hf : Int) := by omega
      have OV := hid (fun W => Over_ok C t W hC8 (by omega))
      have PW := hid (fun W => Power7_ok P1 t W (by have := HP1.out; have := HPL.out; omega) (by omega))
      have BN : Hid (balN P C (t + 1) = balN P C t + (chN C t * P1 ^ t : Nat)) := by
        show balN P C t + _ = _
        rw [hP1, Int.natCast_mul, Int.natCast_pow]
      have b1 := BS.out t (by omega)
      have b2 := BS.out (t + 1) (by omega)
      rw [BN.out] at b2
      obtain ⟨z, hz⟩ : ∃ z, balN P C t = z := ⟨_, rfl⟩
      rw [hz] at BN b1 b2 ⊢
      obtain ⟨A, hA⟩ : ∃ A, chN C t = A := ⟨_, rfl⟩
      obtain ⟨B, hB⟩ : ∃ B, P1 ^ t = B := ⟨_, rfl⟩
      rw [hA] at OV BN b2
      rw [hB] at PW BN b2
      obtain ⟨y, hy, hy2⟩ : ∃ y : Nat, (A : Int) * (B : Int) = (y : Int) ∧ A * B = y := ⟨A * B, by simp, rfl⟩
      rw [hy2] at BN b2
      have hy9 : (y : Int) ≤ 4100000000 := by omega
      have hz9 : 0 ≤ z ∧ z ≤ 4100000000 := by omega
      have hw1 : IntKind.i64.wrap (y : Int) = (y : Int) := IntWalk.i64_in _ (by omega)
      have hw2 : IntKind.i64.wrap (z + (y : Int)) = z + (y : Int) := IntWalk.i64_in _ (by omega)
      have hw3 : IntKind.i64.wrap (P1 : Int) = (P1 : Int) := IntWalk.i64_in _ (by have := HP1.out; have := HPL.out; omega)
      have W4 : Hid (∀ n, Below w4.heap.size w4 (wr.drewN n)) := fun n => HW.out.trans ((drewN_below _ _ n).mono HW.out.size)
      have HLT := hid hlt
      clear hz hA hB hy2 b1 b2 hlt
      go_wp2_with fail
      go_quiet (first
        | (go_at_call 7; (with_reducible refine (OV.out _).mono ?_); rintro e w' ⟨rfl, rfl⟩; exact ⟨rfl, _, rfl⟩)
        | (go_at_call 6; (with_reducible refine (PW.out _).mono ?_); rintro e w' ⟨rfl, rfl⟩; exact ⟨rfl, _, rfl⟩))
      go_wp2_with fail
      go_roundw
      case rel => exact ⟨t + 1, by have := HLT.out; omega, by go_num, by rw [BN.out], W4.out _⟩
      case measure => have := HLT.out; simp [intOf]; omega
    · obtain rfl : t = hf + 1 := by omega
      have hti : ¬ ((hf + 1 : Nat) : Int) ≤ (hf : Int) := by omega
      have b1 := BS.out (hf + 1) (by omega)
      obtain ⟨z, hz⟩ : ∃ z, balN P C (hf + 1) = z := ⟨_, rfl⟩
      rw [hz] at b1 HAM ⊢
      have HZB : Hid (0 ≤ z ∧ z ≤ 4100000000) := by show _ ∧ _; omega
      clear hz b1 BS
      go_wp2_with fail
      go_loopw [13, 67] (fun u i W => ∃ t : Nat, t ≤ k ∧ i = .int .i64 t ∧ u = .int .i64 (usN d P t : Nat) ∧ W = wr) (fun _ i _ => k - (intOf i).toNat)
      case atStart => exact ⟨0, Nat.zero_le _, rfl, rfl, rfl⟩
      case round =>
        obtain ⟨t, ht, rfl, rfl, rfl⟩ := hrel
        have us8 := us_small (P := P) (d := d) (by have := HPL.out; omega) (by omega) t
        by_cases hlt : t < k
        · have hti : (t : Int) < (k : Int) := by omega
          have PW := hid (Power7_ok P t wr (by have := HPL.out; omega) (by omega))
          have hPt : P ^ t ≤ 20000 := Nat.le_trans (Nat.pow_le_pow_right (by have := HPL.out; omega) (show t ≤ k by omega)) (by have := HMM.out; omega)
          have UP := hid (Up_ok d (P ^ t) wr (by omega) (Nat.pow_pos (by have := HPL.out; omega)) hPt)
          have US : Hid (usN d P (t + 1) = usN d P t + upN d (P ^ t)) := rfl
          have up8 : upN d (P ^ t) ≤ 8 := Nat.le_trans ((upN_le (Nat.pow_pos (by have := HPL.out; omega))).2 (Nat.le_mul_of_pos_right d (Nat.pow_pos (by have := HPL.out; omega)))) (by omega)
          obtain ⟨Q, hQ⟩ : ∃ Q, P ^ t = Q := ⟨_, rfl⟩
          rw [hQ] at PW UP US up8
          obtain ⟨a, ha⟩ : ∃ a, usN d P t = a := ⟨_, rfl⟩
          obtain ⟨b', hb'⟩ : ∃ b', upN d Q = b' := ⟨_, rfl⟩
          rw [ha] at US us8 ⊢
          rw [hb'] at US UP up8
          have hLT := hid hlt
          have us9 : a ≤ 48 := by omega
          clear hQ ha hb' hPt hlt us8
          go_wp2_with fail
          refine PW.out.mono ?_
          rintro e w5 ⟨rfl, rfl⟩
          go_wp2_with fail
          refine UP.out.mono ?_
          rintro e w6 ⟨rfl, rfl⟩
          go_wp2_with fail
          go_roundw
          case rel => exact ⟨t + 1, hLT.out, by go_num, by rw [US.out]; go_num, trivial⟩
          case measure => have := hLT.out; simp [intOf]; omega
        · obtain rfl : t = k := by omega
          have hn : ¬ (t : Int) < (t : Int) := by omega
          have PN := hid (Power7_ok P C wr (by have := HPL.out; omega) hC8)
          obtain ⟨PC, hPC⟩ : ∃ PC, P ^ C = PC := ⟨_, rfl⟩
          have hPCc : (P : Int) ^ C = (PC : Int) := by rw [← hPC]; simp
          have hPC9 : PC ≤ 5764801 := by rw [← hPC]; exact pow_le_7 (by have := HPL.out; omega) hC8
          rw [hPC] at PN
          have hle1 := HAM.out
          rw [hPCc] at hle1
          obtain ⟨y1, hy1⟩ : ∃ y1, z * (M : Int) = y1 := ⟨_, rfl⟩
          rw [hy1] at hle1
          have hy10 : 0 ≤ y1 := by rw [← hy1]; exact Int.mul_nonneg HZB.out.1 (by omega)
          have hz9 := HZB.out
          have hle2 : ((usN d P t : Nat) : Int) ≤ (C : Int) := Int.ofNat_le.2 GRI.out
          obtain ⟨un, hun⟩ : ∃ un, usN d P t = un := ⟨_, rfl⟩
          rw [hun] at us8 hle2 ⊢
          have hM0 : 0 < M := by rw [← HMM.out]; exact Nat.pow_pos (by have := HPL.out; omega)
          obtain ⟨M1, hM1⟩ : ∃ M1 : Nat, (M : Int) - 1 = (M1 : Int) := ⟨M - 1, by omega⟩
          obtain ⟨y2, hy2, hy2'⟩ : ∃ y2 : Nat, (d : Int) * (M1 : Int) = (y2 : Int) ∧ d * M1 = y2 := ⟨d * M1, by simp, rfl⟩
          have hy29 : y2 ≤ 160000 := by rw [← hy2']; exact Nat.le_trans (Nat.mul_le_mul (show d ≤ 8 by omega) (show M1 ≤ 20000 by omega)) (by decide)
          obtain ⟨y3, hy3, hy3'⟩ : ∃ y3 : Nat, (C : Int) * (P1 : Int) = (y3 : Int) ∧ C * P1 = y3 := ⟨C * P1, by simp, rfl⟩
          have hy39 : y3 ≤ 48 := by rw [← hy3']; exact Nat.le_trans (Nat.mul_le_mul hC8 (show P1 ≤ 6 by have := HPL.out; have := HP1.out; omega)) (by decide)
          obtain ⟨y4, hy4, hy4'⟩ : ∃ y4 : Nat, (y3 : Int) * (M : Int) = (y4 : Int) ∧ y3 * M = y4 := ⟨y3 * M, by simp, rfl⟩
          have hy49 : y4 ≤ 960000 := by rw [← hy4']; exact Nat.le_trans (Nat.mul_le_mul hy39 hP2) (by decide)
          have hpl := PLO.out
          rw [hP1, hM1, hy2, hy3, hy4] at hpl
          obtain ⟨y5, hy5⟩ : ∃ y5 : Nat, y4 / P = y5 := ⟨_, rfl⟩
          have e5 : (y4 : Int).tdiv (P : Int) = (y5 : Int) := by rw [← hy5]; rfl
          have e6 : (y4 : Int) / (P : Int) = (y5 : Int) := by rw [← hy5]; rfl
          have hle3 : (y2 : Int) ≤ (y5 : Int) := by
            rw [← e6]
            exact Int.le_ediv_of_mul_le (by have := HPL.out; omega) (by rw [Int.mul_comm]; exact hpl)
          have f1 : ((P : Int) == 0) = false := by rw [beq_eq_false_iff_ne]; have := HPL.out; omega
          have f2 : ¬ (P : Int) = 0 := by have := HPL.out; omega
          have hy59 : y5 ≤ y4 := by rw [← hy5]; exact Nat.div_le_self _ _
          have B9 := hid (B4.out.trans (HW.out.mono B4.out.size))
          clear hPC hPCc hun hy2' hy3' hy4' hy5 hpl
          go_wp2_with fail
          refine PN.out.mono ?_
          rintro e w5 ⟨rfl, rfl⟩
          go_wp2_with fail
          go_ret
          exact ⟨rfl, B9.out⟩
end Go.Proofs.Ytcncaaeofcmefaa
