/- codes.Weights, codes.Distance. -/
import Derived.Test.YtcncaaeofcmefaaCdYQ
namespace Go.Proofs.Ytcncaaeofcmefaa
open Go.RowKit

/-- So many of those below m whose numbers are of j elements. -/
def wtZ (f : Nat → Int) (j m : Nat) : Int := tal (fun s => if pop s = j then f s else 0) (List.range m)
theorem wtZ_zero (f : Nat → Int) (j : Nat) : wtZ f j 0 = 0 := rfl
theorem wtZ_succ (f : Nat → Int) (j m : Nat) : wtZ f j (m + 1) = if pop m = j then wtZ f j m + f m else wtZ f j m := by
  unfold wtZ
  rw [tal_range]
  split <;> simp
theorem wtZ_le {f : Nat → Int} {B : Nat} (hf : ∀ s, 0 ≤ f s ∧ f s ≤ B) (j : Nat) : ∀ m, 0 ≤ wtZ f j m ∧ wtZ f j m ≤ (m * B : Nat)
  | 0 => by simp [wtZ_zero]
  | m + 1 => by
    have h1 := wtZ_le hf j m
    have h2 := hf m
    rw [wtZ_succ, Nat.succ_mul]
    split <;> omega
theorem wtZ_one {x j : Nat} : ∀ m, wtZ (fun s => if x = s then 1 else 0) j m = if x < m ∧ pop x = j then 1 else 0
  | 0 => by rw [wtZ_zero, if_neg (by omega)]
  | m + 1 => by
    rw [wtZ_succ, wtZ_one m]
    by_cases h : x = m
    · subst h
      by_cases h2 : pop x = j
      · rw [if_pos h2, if_neg (by omega), if_pos rfl, if_pos ⟨by omega, h2⟩]
        rfl
      · rw [if_neg h2, if_neg (by omega), if_neg (fun h => h2 h.2)]
    · rw [if_neg h, Int.add_zero]
      have e : (x < m ∧ pop x = j) ↔ (x < m + 1 ∧ pop x = j) := by omega
      simp only [e]
      split <;> rfl
theorem wtZ_add (f g : Nat → Int) (j m : Nat) : wtZ (fun s => f s + g s) j m = wtZ f j m + wtZ g j m := by
  unfold wtZ
  rw [← tal_add]
  refine tal_congr fun s _ => ?_
  split <;> simp
theorem wtZ_is {P k T : Nat} {g : Nat → Nat → Int} (h : ∀ i, plS P k g i < T) (j : Nat) : ∀ M, wtZ (ctS P k g M) j T = (cnP (fun i => pop (plS P k g i) == j) M : Nat)
  | 0 => by
    show wtZ (fun _ => 0) j T = _
    unfold wtZ
    rw [tal_congr (G := fun _ => 0) fun s _ => by split <;> rfl, tal_zero]
    rfl
  | M + 1 => by
    have e : ctS P k g (M + 1) = fun s => ctS P k g M s + if plS P k g M = s then 1 else 0 := by
      funext s
      rw [ctS_succ]
      split <;> simp
    rw [e, wtZ_add, wtZ_is h j M, wtZ_one, cnP_succ]
    have := h M
    by_cases h2 : pop (plS P k g M) = j
    · rw [if_pos ⟨this, h2⟩, if_pos (by simpa using h2)]
      simp
    · rw [if_neg (fun h => h2 h.2), if_neg (by simpa using h2)]
      simp
theorem popC_len : ∀ C : Nat, C < 9 → ∀ s : Nat, s < 2 ^ C → pop s ≤ C := by decide +kernel
theorem pop_topC : ∀ r : Nat, r < 8 → ∀ a : Nat, a < 2 ^ r → pop (a ||| 2 ^ r) = pop a + 1 := by decide +kernel
theorem pop_plN (f : Nat → Nat) : ∀ r, r ≤ 8 → pop (plN f r) = cnP (fun i => f i != 0) r
  | 0, _ => by show pop 0 = 0; decide
  | r + 1, h => by
    rw [plN, cnP_succ, ← pop_plN f r (by omega)]
    by_cases h2 : f r = 0
    · rw [if_pos h2, if_neg (by simp [h2])]
      rfl
    · rw [if_neg h2, if_pos (by simpa using h2)]
      exact pop_topC r (by omega) _ (plN_lt f r)
/-- How many words of each weight. -/
def wtC (P k C : Nat) (g : Nat → Nat → Int) (M j : Nat) : Int := (cnP (fun i => wgtF P k C g i == j) M : Nat)
theorem wtC_is {P k C : Nat} {g : Nat → Nat → Int} (hC : C ≤ 8) (h : ∀ i, plS P k g i = plN (wrdF P k g i) C ∧ plS P k g i < 2 ^ C) (M j : Nat) : wtZ (ctS P k g M) j (2 ^ C) = wtC P k C g M j := by
  rw [wtZ_is (fun i => (h i).2)]
  unfold wtC
  congr 1
  refine cnP_congr fun i _ => ?_
  rw [(h i).1, pop_plN _ C hC]
  rfl
set_option maxRecDepth 20000 in
set_option maxHeartbeats 4000000 in
theorem weights_any (p c : Int) (v : Value) (R : List (List Int)) (w : World) (h : RowsI w v R) :
    Calls Try.prog 9 #[.agg #[.int .i64 p, .int .i64 c, v]] w fun e w' => (codE p c R ≠ 0 → e = .returned (.tuple #[.slice none 0 0, .int .i64 (codE p c R)])) ∧ (∀ P C : Nat, codE p c R = 0 → p = P → c = C → ∃ u, e = .returned (.tuple #[u, .int .i64 0]) ∧ RkZ w' u (C + 1) (wtC P (redL P C R).length C (rowF (redL P C R)) (P ^ (redL P C R).length))) ∧ Below w.heap.size w w' := by
  obtain ⟨w0, hw0⟩ : ∃ w0, w.alloc (.cells #[.int .i64 p, .int .i64 c, v] 24) = w0 := ⟨_, rfl⟩
  have B0 : Hid (Below w.heap.size w w0) := by rw [← hw0]; exact (Below.refl _ _).alloc (Nat.le_refl _) _
  have X0 : Hid (w0.heap[w.heap.size]? = some (.cells #[.int .i64 p, .int .i64 c, v] 24 (0, 0))) := by rw [← hw0]; exact World.alloc_heap_new w _
  have WA := hid (count_any p c v R w0 (h.below B0.out))
  obtain ⟨x0, x1, x2⟩ := three_cells X0.out
  clear h
  by_cases hE : codE p c R = 0
  rotate_left
  · obtain ⟨E, hEe⟩ : ∃ E, codE p c R = E := ⟨_, rfl⟩
    rw [hEe] at hE WA ⊢
    have hq1 : (E != 0) = true := by rw [bne_iff_ne]; exact hE
    have HE := hid hE
    clear hE hEe
    go_enter Try.func9, Try.ntmps9
    go_wp2_with fail
    clear hw0
    refine WA.out.mono ?_
    rintro e w1 ⟨h1, -, hb1⟩
    have h9 := h1 HE.out
    subst h9
    have B1 := hid (B0.out.trans (hb1.mono B0.out.size))
    clear h1 hb1 WA
    go_wp2_with fail
    refine bodyPost_ret (v := .tuple #[.slice none 0 0, .int .i64 E]) (by simp [results, Try.f9, go_sem]) rfl ⟨fun _ => rfl, fun _ _ h => absurd h HE.out, B1.out⟩
  obtain ⟨P, C, rfl, rfl, hm, hP2⟩ := codE_ok hE
  have HZ := hid hE
  have hp := isP_pos hm.pr
  have hC8 : C ≤ 8 := hm.c8'
  have PL := hid (fun i => plS_lt (i := i) hm.pr hC8 (red_out hm))
  have WC := hid (wtC_is hC8 PL.out (P ^ (redL P C R).length))
  have CL := hid (ctS_le P (redL P C R).length (rowF (redL P C R)) (P ^ (redL P C R).length))
  obtain ⟨M, hM⟩ : ∃ M, P ^ (redL P C R).length = M := ⟨_, rfl⟩
  have GOAL : Hid (∀ (e : Ending) (w' : World), (∃ u, e = .returned (.tuple #[u, .int .i64 0]) ∧ RkZ w' u (C + 1) (wtC P (redL P C R).length C (rowF (redL P C R)) M)) → Below w.heap.size w w' → (codE P C R ≠ 0 → e = .returned (.tuple #[.slice none 0 0, .int .i64 (codE P C R)])) ∧ (∀ P' C' : Nat, codE P C R = 0 → (P : Int) = P' → (C : Int) = C' → ∃ u, e = .returned (.tuple #[u, .int .i64 0]) ∧ RkZ w' u (C' + 1) (wtC P' (redL P' C' R).length C' (rowF (redL P' C' R)) (P' ^ (redL P' C' R).length))) ∧ Below w.heap.size w w') := fun e w' h1 h2 => ⟨fun h3 => absurd HZ.out h3, fun P' C' _ e1 e2 => by
    have e3 : P' = P := by omega
    have e4 : C' = C := by omega
    subst e3
    subst e4
    rw [hM]
    exact h1, h2⟩
  have WB : Hid (Calls Try.prog 12 #[.agg #[.int .i64 P, .int .i64 C, v]] w0 fun e w' => ∃ u, e = .returned (.tuple #[u, .int .i64 0]) ∧ RkZ w' u (2 ^ C) (ctS P (redL P C R).length (rowF (redL P C R)) M) ∧ Below w0.heap.size w0 w') := WA.out.mono fun e w' ⟨_, h2, h3⟩ => by
    obtain ⟨u, e1, e2⟩ := h2 P C HZ.out rfl rfl
    rw [hM] at e2
    exact ⟨u, e1, e2, h3⟩
  rw [hM] at hP2 WC CL
  clear WA hM hE hm
  suffices HH : Calls Try.prog 9 #[.agg #[.int .i64 P, .int .i64 C, v]] w fun e w' => (∃ u, e = .returned (.tuple #[u, .int .i64 0]) ∧ RkZ w' u (C + 1) (wtC P (redL P C R).length C (rowF (redL P C R)) M)) ∧ Below w.heap.size w w' from HH.mono fun e w' h => GOAL.out e w' h.1 h.2
  clear GOAL
  rw [show wtC P (redL P C R).length C (rowF (redL P C R)) M = fun j => wtZ (ctS P (redL P C R).length (rowF (redL P C R)) M) j (2 ^ C) from funext fun j => (WC.out j).symm]
  clear WC PL HZ
  generalize ctS P (redL P C R).length (rowF (redL P C R)) M = ct at *
  obtain ⟨T, HT, hT2⟩ : ∃ T : Nat, T = 2 ^ C ∧ T ≤ 256 := ⟨2 ^ C, rfl, (pow_wrap _ hC8).2⟩
  have PB0 : Hid (∀ s, s < T → pop s < C + 1) := fun s hs => by have := popC_len C (by omega) s (by rw [← HT]; exact hs); omega
  rw [← HT] at WB ⊢
  clear HT
  have CLB : Hid (∀ s, 0 ≤ ct s ∧ ct s ≤ (20000 : Nat)) := fun s => by have := CL.out s; omega
  clear CL
  obtain ⟨N1, hN1, hN2⟩ : ∃ N1 : Nat, (C : Int) + 1 = (N1 : Int) ∧ N1 = C + 1 := ⟨C + 1, by omega, rfl⟩
  rw [← hN2]
  have hN9 : N1 ≤ 9 := by omega
  have hmk := fun w => run_make_row' (P := Try.prog) 28 3 (.int .i64 0) 8 Try.underlying28 Try.infoInt rfl .i64 .i64 N1 (by omega) (by omega) w
  have HN2 := hid hN2
  have PB : Hid (∀ s, s < T → pop s < N1) := fun s hs => by rw [HN2.out]; exact PB0.out s hs
  clear hN2
  go_enter Try.func9, Try.ntmps9
  go_wp2_with fail
  clear hw0
  refine WB.out.mono ?_
  rintro e w1 ⟨u, rfl, hr, hb1⟩
  have RK := hid hr
  obtain ⟨rb, roff, rcap, rfl, hrb, -⟩ := hr
  have B1 := hid (B0.out.trans (hb1.mono B0.out.size))
  have X1 := hid (box_keep X0.out hb1)
  obtain ⟨z0, z1, z2⟩ := three_cells X1.out
  have tb := TblZ.new w1 N1 3
  have hB3 : Below w1.heap.size w1 (w1.alloc (.cells (madeCells #[.int .i64 0] N1) 3)) := (Below.refl _ _).alloc (Nat.le_refl _) _
  obtain ⟨W1, hW1⟩ : ∃ W1, w1.alloc (.cells (madeCells #[.int .i64 0] N1) 3) = W1 := ⟨_, rfl⟩
  rw [hW1] at tb hB3
  have HTB := hid tb
  have HB3 := hid hB3
  clear hb1 tb hB3 WB
  go_wp2_with fail
  clear hW1 hmk z0 z1 z2
  have HB1 := hid (B1.out.trans (HB3.out.mono B1.out.size))
  go_loopw [23] (fun i W => ∃ j : Nat, j ≤ T ∧ i = .int .i64 j ∧ Hid (TblZ w1.heap.size W N1 fun r => wtZ ct r j) ∧ Hid (Below w1.heap.size W1 W)) (fun i _ => T - (intOf i).toNat)
  case atStart => exact ⟨0, Nat.zero_le _, rfl, HTB.out.congr fun i _ => wtZ_zero ct i, Below.refl _ _⟩
  case round =>
    obtain ⟨j, hj, rfl, HT2, HW⟩ := hrel
    by_cases hlt : j < T
    · have hji : (j : Int) < (T : Int) := by omega
      have c0 := RK.out.cellAt (HB3.out.trans HW.out) hlt
      have dN := PB.out j hlt
      have hdi : (pop j : Int) < (N1 : Int) := by omega
      have SZ := hid (fun w => size_any j w (by omega))
      have ST := hid (fun r => wtZ_succ ct r j)
      have cb := CLB.out j
      have cb2 := wtZ_le CLB.out (pop j) j
      have hjB : (j * 20000 : Nat) ≤ 5120000 := Nat.le_trans (Nat.mul_le_mul_right 20000 (show j ≤ 256 by omega)) (by decide)
      have q1 := HT2.out.cell (pop j) dN
      have q2 := HT2.out.frozen (pop j)
      obtain ⟨z, hz⟩ : ∃ z, wtZ ct (pop j) j = z := ⟨_, rfl⟩
      rw [hz] at cb2 q1
      have HZZ := hid hz
      obtain ⟨y, hy⟩ : ∃ y, ct j = y := ⟨_, rfl⟩
      rw [hy] at cb c0
      have HYY := hid hy
      have hwz : IntKind.i64.wrap (z + y) = z + y := IntWalk.i64_in _ (by omega)
      have T4 := hid (HT2.out.set (f' := fun r => wtZ ct r (j + 1)) (pop j) (z + y) dN fun i _ => by
        show wtZ ct i (j + 1) = _
        rw [ST.out i]
        by_cases e : pop j = i
        · subst e; rw [if_pos rfl, if_pos rfl, HZZ.out, HYY.out]
        · rw [if_neg e, if_neg e])
      have hk1 : w1.heap.size < wr.heap.size := HT2.out.size
      have F4 := hid (HW.out.setCell (p := ⟨w1.heap.size, pop j, none⟩) (Nat.le_refl _) (.int .i64 (z + y)))
      have HJL := hid hlt
      generalize pop j = d at *
      clear hz hy hlt cb2 hjB HT2
      go_wp2_with fail
      refine (SZ.out _).mono ?_
      rintro e w3 ⟨rfl, rfl⟩
      go_wp2_with fail
      go_roundw
      case rel => exact ⟨j + 1, HJL.out, by go_num, T4.out, F4.out⟩
      case measure => have := HJL.out; simp [intOf]; omega
    · obtain rfl : j = T := by omega
      have hn : ¬ (j : Int) < (j : Int) := by omega
      have F5 := hid (HB1.out.trans (HW.out.mono (by have := B1.out.size; omega)))
      go_wp2_with fail
      refine bodyPost_ret (v := .tuple #[.slice (some ⟨w1.heap.size, 0, none⟩) N1 N1, .int .i64 0]) (by simp [results, Try.f9, go_sem]) rfl ⟨⟨_, rfl, HT2.out.rkZ⟩, F5.out⟩
end Go.Proofs.Ytcncaaeofcmefaa
