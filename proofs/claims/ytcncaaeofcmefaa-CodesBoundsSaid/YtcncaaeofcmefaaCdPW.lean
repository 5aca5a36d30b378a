/- codes.Distance. -/
import Derived.Test.YtcncaaeofcmefaaCdZQ
namespace Go.Proofs.Ytcncaaeofcmefaa
open Go.RowKit

/-- d is the least weight above nought of the first M words. -/
def IsD (P k C : Nat) (g : Nat → Nat → Int) (M d : Nat) : Prop := 1 ≤ d ∧ d ≤ C ∧ ∀ i, i < M → wgtF P k C g i = 0 ∨ d ≤ wgtF P k C g i
theorem wtC_none {P k C : Nat} {g : Nat → Nat → Int} {M j : Nat} (h : wtC P k C g M j = 0) : ∀ i, i < M → wgtF P k C g i ≠ j := fun i hi e => by
  have := cnP_one (n := M) (Q := fun i => wgtF P k C g i == j) hi (by simpa using e)
  unfold wtC at h
  omega
theorem wtC_nn (P k C : Nat) (g : Nat → Nat → Int) (M j : Nat) : 0 ≤ wtC P k C g M j := Int.natCast_nonneg _
theorem wgt_le (P k C : Nat) (g : Nat → Nat → Int) (i : Nat) : wgtF P k C g i ≤ C := cnP_le _ _
set_option maxRecDepth 20000 in
set_option maxHeartbeats 4000000 in
theorem distance_any (p c : Int) (v : Value) (R : List (List Int)) (w : World) (h : RowsI w v R) :
    Calls Try.prog 4 #[.agg #[.int .i64 p, .int .i64 c, v]] w fun e w' => (codE p c R ≠ 0 → e = .returned (.tuple #[.int .i64 0, .int .i64 (codE p c R)])) ∧ (∀ P C : Nat, codE p c R = 0 → p = P → c = C → (∃ d : Nat, e = .returned (.tuple #[.int .i64 d, .int .i64 0]) ∧ IsD P (redL P C R).length C (rowF (redL P C R)) (P ^ (redL P C R).length) d ∧ ∃ i, i < P ^ (redL P C R).length ∧ wgtF P (redL P C R).length C (rowF (redL P C R)) i = d) ∨ (e = .returned (.tuple #[.int .i64 0, .int .i64 5]) ∧ ∀ i, i < P ^ (redL P C R).length → wgtF P (redL P C R).length C (rowF (redL P C R)) i = 0)) ∧ Below w.heap.size w w' := by
  obtain ⟨w0, hw0⟩ : ∃ w0, w.alloc (.cells #[.int .i64 p, .int .i64 c, v] 24) = w0 := ⟨_, rfl⟩
  have B0 : Hid (Below w.heap.size w w0) := by rw [← hw0]; exact (Below.refl _ _).alloc (Nat.le_refl _) _
  have X0 : Hid (w0.heap[w.heap.size]? = some (.cells #[.int .i64 p, .int .i64 c, v] 24 (0, 0))) := by rw [← hw0]; exact World.alloc_heap_new w _
  have WA := hid (weights_any p c v R w0 (h.below B0.out))
  obtain ⟨x0, x1, x2⟩ := three_cells X0.out
  clear h
  by_cases hE : codE p c R = 0
  rotate_left
  · obtain ⟨E, hEe⟩ : ∃ E, codE p c R = E := ⟨_, rfl⟩
    rw [hEe] at hE WA ⊢
    have hq1 : (E != 0) = true := by rw [bne_iff_ne]; exact hE
    have HE := hid hE
    clear hE hEe
    go_enter Try.func4, Try.ntmps4
    go_wp2_with fail
    clear hw0
    refine WA.out.mono ?_
    rintro e w1 ⟨h1, -, hb1⟩
    have h9 := h1 HE.out
    subst h9
    have B1 := hid (B0.out.trans (hb1.mono B0.out.size))
    clear h1 hb1 WA
    go_wp2_with fail
    refine bodyPost_ret (v := .tuple #[.int .i64 0, .int .i64 E]) (by simp [results, Try.f4, go_sem]) rfl ⟨fun _ => rfl, fun _ _ h => absurd h HE.out, B1.out⟩
  obtain ⟨P, C, rfl, rfl, hm, hP2⟩ := codE_ok hE
  have HZ := hid hE
  have hC8 : C ≤ 8 := hm.c8'
  obtain ⟨M, hM⟩ : ∃ M, P ^ (redL P C R).length = M := ⟨_, rfl⟩
  have GOAL : Hid (∀ (e : Ending) (w' : World), ((∃ d : Nat, e = .returned (.tuple #[.int .i64 d, .int .i64 0]) ∧ IsD P (redL P C R).length C (rowF (redL P C R)) M d ∧ ∃ i, i < M ∧ wgtF P (redL P C R).length C (rowF (redL P C R)) i = d) ∨ (e = .returned (.tuple #[.int .i64 0, .int .i64 5]) ∧ ∀ i, i < M → wgtF P (redL P C R).length C (rowF (redL P C R)) i = 0)) → Below w.heap.size w w' → (codE P C R ≠ 0 → e = .returned (.tuple #[.int .i64 0, .int .i64 (codE P C R)])) ∧ (∀ P' C' : Nat, codE P C R = 0 → (P : Int) = P' → (C : Int) = C' → (∃ d : Nat, e = .returned (.tuple #[.int .i64 d, .int .i64 0]) ∧ IsD P' (redL P' C' R).length C' (rowF (redL P' C' R)) (P' ^ (redL P' C' R).length) d ∧ ∃ i, i < P' ^ (redL P' C' R).length ∧ wgtF P' (redL P' C' R).length C' (rowF (redL P' C' R)) i = d) ∨ (e = .returned (.tuple #[.int .i64 0, .int .i64 5]) ∧ ∀ i, i < P' ^ (redL P' C' R).length → wgtF P' (redL P' C' R).length C' (rowF (redL P' C' R)) i = 0)) ∧ Below w.heap.size w w') := fun e w' h1 h2 => ⟨fun h3 => absurd HZ.out h3, fun P' C' _ e1 e2 => by
    have e3 : P' = P := by omega
    have e4 : C' = C := by omega
    subst e3
    subst e4
    rw [hM]
    exact h1, h2⟩
  have WB : Hid (Calls Try.prog 9 #[.agg #[.int .i64 P, .int .i64 C, v]] w0 fun e w' => ∃ u, e = .returned (.tuple #[u, .int .i64 0]) ∧ RkZ w' u (C + 1) (wtC P (redL P C R).length C (rowF (redL P C R)) M) ∧ Below w0.heap.size w0 w') := WA.out.mono fun e w' ⟨_, h2, h3⟩ => by
    obtain ⟨u, e1, e2⟩ := h2 P C HZ.out rfl rfl
    rw [hM] at e2
    exact ⟨u, e1, e2, h3⟩
  clear WA hM hE hm hP2
  suffices HH : Calls Try.prog 4 #[.agg #[.int .i64 P, .int .i64 C, v]] w fun e w' => ((∃ d : Nat, e = .returned (.tuple #[.int .i64 d, .int .i64 0]) ∧ IsD P (redL P C R).length C (rowF (redL P C R)) M d ∧ ∃ i, i < M ∧ wgtF P (redL P C R).length C (rowF (redL P C R)) i = d) ∨ (e = .returned (.tuple #[.int .i64 0, .int .i64 5]) ∧ ∀ i, i < M → wgtF P (redL P C R).length C (rowF (redL P C R)) i = 0)) ∧ Below w.heap.size w w' from HH.mono fun e w' h => GOAL.out e w' h.1 h.2
  clear GOAL HZ
  generalize rowF (redL P C R) = G at *
  generalize (redL P C R).length = k at *
  have FIN : Hid (∀ (e : Ending) (w' : World) (j : Nat), j < C + 1 → 1 ≤ j → (∀ i, 1 ≤ i → i < j → wtC P k C G M i = 0) → wtC P k C G M j ≠ 0 → e = .returned (.tuple #[.int .i64 j, .int .i64 0]) → Below w.heap.size w w' → ((∃ d : Nat, e = .returned (.tuple #[.int .i64 d, .int .i64 0]) ∧ IsD P k C G M d ∧ ∃ i, i < M ∧ wgtF P k C G i = d) ∨ (e = .returned (.tuple #[.int .i64 0, .int .i64 5]) ∧ ∀ i, i < M → wgtF P k C G i = 0)) ∧ Below w.heap.size w w') := fun e w' j h1 h2 h3 h4 h5 h6 => ⟨.inl ⟨j, h5, ⟨h2, by omega, fun i hi => by
    apply Classical.byContradiction
    intro h7
    exact wtC_none (h3 (wgtF P k C G i) (by omega) (by omega)) i hi rfl⟩, Classical.byContradiction fun h7 => h4 (by
      unfold wtC
      have : cnP (fun i => wgtF P k C G i == j) M = cnP (fun _ => false) M := cnP_congr fun i hi => by
        rw [beq_eq_false_iff_ne]
        exact fun e => h7 ⟨i, hi, e⟩
      rw [this]
      unfold cnP
      simp)⟩, h6⟩
  go_enter Try.func4, Try.ntmps4
  go_wp2_with fail
  clear hw0
  refine WB.out.mono ?_
  rintro e w1 ⟨u, rfl, hr, hb1⟩
  have RK := hid hr
  obtain ⟨rb, roff, rcap, rfl, hrb, -⟩ := hr
  have B1 := hid (B0.out.trans (hb1.mono B0.out.size))
  clear hb1 WB
  go_wp2_with fail
  go_loopw [18] (fun i W => ∃ j : Nat, j ≤ C + 1 ∧ i = .int .i64 j ∧ Hid (∀ i, 1 ≤ i → i < j → wtC P k C G M i = 0) ∧ W = w1) (fun i _ => C + 1 - (intOf i).toNat)
  case atStart => exact ⟨0, Nat.zero_le _, rfl, fun i h1 h2 => by omega, rfl⟩
  case round =>
    obtain ⟨j, hj, rfl, HN, rfl⟩ := hrel
    by_cases hlt : j < C + 1
    · have hji : (j : Int) < (C : Int) + 1 := by omega
      have c0 := RK.out.cellAt (Below.refl _ _) hlt
      have nn := wtC_nn P k C G M j
      obtain ⟨z, hz⟩ : ∃ z, wtC P k C G M j = z := ⟨_, rfl⟩
      rw [hz] at c0 nn
      have HZZ := hid hz
      have HJL := hid hlt
      clear hz hlt
      by_cases h0 : j = 0
      · have h00 : ¬ (0 : Int) < (j : Int) := by omega
        have HJ0 := hid h0
        clear h0
        go_wp2_with fail
        exact ⟨⟨j + 1, HJL.out, by go_num, fun i h1 h2 => by have := HJ0.out; omega, trivial⟩, by have := HJL.out; simp [intOf]; omega⟩
      · have h00 : (0 : Int) < (j : Int) := by omega
        have HJ0 := hid h0
        clear h0
        by_cases hz0 : z = 0
        · have hzz : ¬ 0 < z := by omega
          have HZ0 := hid hz0
          clear hz0
          go_wp2_with fail
          exact ⟨⟨j + 1, HJL.out, by go_num, fun i h1 h2 => by
            by_cases e : i = j
            · subst e; rw [HZZ.out]; exact HZ0.out
            · exact HN.out i h1 (by omega), trivial⟩, by have := HJL.out; simp [intOf]; omega⟩
        · have hzz : 0 < z := by omega
          have HZ0 := hid hz0
          clear hz0
          go_wp2_with fail
          refine bodyPost_ret (v := .tuple #[.int .i64 j, .int .i64 0]) (by simp [results, Try.f4, go_sem]) rfl (FIN.out _ _ j HJL.out (by have := HJ0.out; omega) HN.out (by rw [HZZ.out]; exact HZ0.out) rfl ?_)
          exact B1.out
    · obtain rfl : j = C + 1 := by omega
      have hn : ¬ ((C + 1 : Nat) : Int) < (C : Int) + 1 := by omega
      go_wp2_with fail
      refine bodyPost_ret (v := .tuple #[.int .i64 0, .int .i64 5]) (by simp [results, Try.f4, go_sem]) rfl ⟨.inr ⟨rfl, fun i hi => ?_⟩, B1.out⟩
      have h1 := wgt_le P k C G i
      apply Classical.byContradiction
      intro h2
      exact wtC_none (HN.out (wgtF P k C G i) (by omega) (by omega)) i hi rfl
end Go.Proofs.Ytcncaaeofcmefaa

namespace Go.Proofs.Ytcncaaeofcmefaa
open Go.RowKit

theorem pow_le_7 {a k : Nat} (ha : a ≤ 7) (hk : k ≤ 8) : a ^ k ≤ 5764801 := Nat.le_trans (Nat.pow_le_pow_left ha k) (Nat.le_trans (Nat.pow_le_pow_right (by decide) hk) (by decide))
set_option maxHeartbeats 800000 in
theorem Power7_ok (a b : Nat) (w : World) (ha : a ≤ 7) (hb : b ≤ 8) :
    Calls Try.prog 6 #[.int .i64 a, .int .i64 b] w fun e w' => e = .returned (.int .i64 (a ^ b : Nat)) ∧ w' = w := by
  go_enter Try.func6, Try.ntmps6
  go_wp2_with fail
  go_loopw [5, 7] (fun z i W => ∃ k : Nat, k ≤ b ∧ z = .int .i64 (a ^ k : Nat) ∧ i = .int .i64 k ∧ W = w) (fun _ i _ => b - (intOf i).toNat)
  case atStart => exact ⟨0, Nat.zero_le _, rfl, rfl, rfl⟩
  case round =>
    obtain ⟨k, hk, rfl, rfl, rfl⟩ := hrel
    by_cases hlt : k < b
    · have hki : (k : Int) < (b : Int) := by omega
      have h1 := pow_le_7 ha (show k ≤ 8 by omega)
      have h2 := pow_le_7 ha (show k + 1 ≤ 8 by omega)
      have PS : Hid (a ^ (k + 1) = a ^ k * a) := Nat.pow_succ a k
      rw [PS.out] at h2
      obtain ⟨A, hA⟩ : ∃ A, a ^ k = A := ⟨_, rfl⟩
      rw [hA] at PS h1 h2 ⊢
      obtain ⟨y, hy, hy2⟩ : ∃ y : Nat, (A : Int) * (a : Int) = (y : Int) ∧ A * a = y := ⟨A * a, by simp, rfl⟩
      rw [hy2] at PS h2
      clear hA hy2
      go_wp2_with fail
      go_roundw
      case rel => exact ⟨k + 1, by omega, by rw [PS.out], by go_num, trivial⟩
      case measure => simp [intOf]; omega
    · obtain rfl : k = b := by omega
      go_wp2_with fail
      go_ret
      exact ⟨rfl, rfl⟩
theorem ch_step : ∀ n : Nat, n < 9 → ∀ i : Nat, i < n → chN n i * (n - i) / (i + 1) = chN n (i + 1) ∧ chN n i ≤ 70 := by decide +kernel
theorem ch_out : ∀ n : Nat, n < 9 → ∀ i : Nat, i < 9 → (n < i → chN n i = 0) ∧ chN n i ≤ 70 := by decide +kernel
set_option maxHeartbeats 800000 in
theorem Over_ok (n k : Nat) (w : World) (hn : n ≤ 8) (hk : k ≤ 8) :
    Calls Try.prog 7 #[.int .i64 n, .int .i64 k] w fun e w' => e = .returned (.int .i64 (chN n k : Nat)) ∧ w' = w := by
  have hk0 : ¬ (k : Int) < 0 := by omega
  go_enter Try.func7, Try.ntmps7
  by_cases hb : n < k
  · have hbi : (n : Int) < (k : Int) := by omega
    have CO := hid ((ch_out n (by omega) k (by omega)).1 hb)
    clear hb
    go_wp2_with fail
    go_ret
    exact ⟨by rw [CO.out]; rfl, rfl⟩
  · have hbi : ¬ (n : Int) < (k : Int) := by omega
    have HB := hid hb
    clear hb
    go_wp2_with fail
    go_loopw [5, 15] (fun z i W => ∃ j : Nat, j ≤ k ∧ z = .int .i64 (chN n j : Nat) ∧ i = .int .i64 j ∧ W = w) (fun _ i _ => k - (intOf i).toNat)
    case atStart => exact ⟨0, Nat.zero_le _, by unfold chN; rfl, rfl, rfl⟩
    case round =>
      obtain ⟨j, hj, rfl, rfl, rfl⟩ := hrel
      by_cases hlt : j < k
      · have hki : (j : Int) < (k : Int) := by omega
        have CS := hid (ch_step n (by omega) j (by have := HB.out; omega))
        have hc := CS.out.2
        have C1 := hid CS.out.1
        obtain ⟨A, hA⟩ : ∃ A, chN n j = A := ⟨_, rfl⟩
        rw [hA] at hc C1 ⊢
        obtain ⟨d, hd, hd2⟩ : ∃ d : Nat, (n : Int) - (j : Int) = (d : Int) ∧ n - j = d := ⟨n - j, by have := HB.out; omega, rfl⟩
        rw [hd2] at C1
        have hd8 : d ≤ 8 := by omega
        obtain ⟨y, hy, hy2⟩ : ∃ y : Nat, (A : Int) * (d : Int) = (y : Int) ∧ A * d = y := ⟨A * d, by simp, rfl⟩
        rw [hy2] at C1
        have hy9 : y ≤ 560 := by rw [← hy2]; exact Nat.le_trans (Nat.mul_le_mul hc hd8) (by decide)
        obtain ⟨m, hm, hm2⟩ : ∃ m : Nat, (j : Int) + 1 = (m : Int) ∧ j + 1 = m := ⟨j + 1, by omega, rfl⟩
        have C2 : Hid (chN n (j + 1) = y / m) := by show _ = _; rw [← C1.out, hm2]
        have e1 : (y : Int).tdiv (m : Int) = ((y / m : Nat) : Int) := rfl
        have e2 : (y : Int) / (m : Int) = ((y / m : Nat) : Int) := rfl
        have hq : y / m ≤ y := Nat.div_le_self _ _
        have f1 : ((m : Int) == 0) = false := by rw [beq_eq_false_iff_ne]; omega
        have f2 : ¬ (m : Int) = 0 := by omega
        generalize y / m = q at *
        have HM2 := hid hm2
        clear hA hd2 hy2 CS C1 hm2
        go_wp2_with fail
        go_roundw
        case rel => exact ⟨j + 1, by omega, by rw [C2.out], by have := HM2.out; go_num, trivial⟩
        case measure => simp [intOf]; omega
      · obtain rfl : j = k := by omega
        go_wp2_with fail
        go_ret
        exact ⟨rfl, rfl⟩
theorem Up_ok (a b : Nat) (w : World) (ha : a ≤ 8) (hb0 : 0 < b) (hb : b ≤ 20000) :
    Calls Try.prog 8 #[.int .i64 a, .int .i64 b] w fun e w' => e = .returned (.int .i64 (upN a b : Nat)) ∧ w' = w := by
  have e1 : (a : Int).tdiv (b : Int) = ((a / b : Nat) : Int) := rfl
  have e2 : (a : Int) / (b : Int) = ((a / b : Nat) : Int) := rfl
  have f1 : ((b : Int) == 0) = false := by rw [beq_eq_false_iff_ne]; omega
  have f2 : ¬ (b : Int) = 0 := by omega
  have UP : Hid (upN a b = if a / b * b < a then a / b + 1 else a / b) := rfl
  have hq : a / b ≤ a := Nat.div_le_self _ _
  obtain ⟨q, hqe⟩ : ∃ q, a / b = q := ⟨_, rfl⟩
  rw [hqe] at UP e1 e2 hq
  obtain ⟨y, hy, hy2⟩ : ∃ y : Nat, (q : Int) * (b : Int) = (y : Int) ∧ q * b = y := ⟨q * b, by simp, rfl⟩
  rw [hy2] at UP
  have hy9 : y ≤ 160000 := by rw [← hy2]; exact Nat.le_trans (Nat.mul_le_mul (show q ≤ 8 by omega) hb) (by decide)
  clear hqe hy2
  go_enter Try.func8, Try.ntmps8
  by_cases hlt : y < a
  · rw [if_pos hlt] at UP
    have hli : (y : Int) < (a : Int) := by omega
    clear hlt
    go_wp2_with fail
    go_ret
    exact ⟨by rw [UP.out]; rfl, rfl⟩
  · rw [if_neg hlt] at UP
    have hli : ¬ (y : Int) < (a : Int) := by omega
    clear hlt
    go_wp2_with fail
    go_ret
    exact ⟨by rw [UP.out]; rfl, rfl⟩
end Go.Proofs.Ytcncaaeofcmefaa
