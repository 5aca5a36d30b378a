/- field.determinant, field.Determinant. -/
import Derived.Test.YtboiciflkihlgaaFdTQ
import Derived.Test.YtboiciflkihlgaaPlainAll
import Derived.Test.YtboiciflkihlgaaOldNW
namespace Go.Proofs.Ytboiciflkihlgaa
open Go.RowKit

theorem bit_fact : ∀ s : Nat, s < 256 → ∀ j : Nat, j < 8 → (bits BinOp.and IntKind.i64 ((s : Int) / 2 ^ j) 1 == 0) = !s.testBit j := by decide +kernel
theorem pow_wV : ∀ j : Nat, j < 8 → IntKind.i64.wrap (2 ^ j) = ((2 ^ j : Nat) : Int) := by decide +kernel
theorem rm_fact : ∀ s : Nat, s < 256 → ∀ j : Nat, j < 8 → rm s j < 256 := by decide +kernel
theorem RowsI.tail {w : World} {b off n cap : Nat} {r : List Int} {R : List (List Int)} (h : RowsI w (.slice (some ⟨b, off, none⟩) (n + 1) cap) (r :: R)) (hn : R.length = n) (cap' : Nat) : RowsI w (.slice (some ⟨b, off + 1, none⟩) n cap') R := by
  obtain ⟨a, c, e, h1, h2⟩ := h
  cases e
  obtain ⟨b', off', e2, h3, h4⟩ := h2 (by simp)
  cases e2
  refine ⟨_, cap', by rw [hn], by simp at h1; omega, fun h0 => ⟨b, off + 1, rfl, h3, fun i hi => ?_⟩⟩
  obtain ⟨u, h5, h6⟩ := h4 (i + 1) (by simp; omega)
  exact ⟨u, by rw [← h5]; congr 2; omega, by simpa using h6⟩
theorem RowsI.empty (w : World) (a : Option Addr) (cap : Nat) : RowsI w (.slice a 0 cap) [] := ⟨a, cap, rfl, by simp, fun h => absurd h (Nat.lt_irrefl 0)⟩
set_option maxRecDepth 20000 in
set_option maxHeartbeats 4000000 in
theorem determinant_ok (p : Int) (c : Nat) (hp : isP p) (hc8 : c ≤ 8) : ∀ (R : List (List Int)) (v : Value) (s : Nat) (w : World), RowsI w v R → (∀ a L c, v = .slice a L c → L ≤ c) → R.length ≤ 6 → s < 256 → (∀ r ∈ R, r.length = c ∧ ∀ j, j < c → 0 ≤ r.getD j 0 ∧ r.getD j 0 < p) →
    Calls Try.prog 36 #[.int .i64 p, v, .int .i64 s] w fun e w' => e = .returned (.int .i64 (detL p c R s)) ∧ Below w.heap.size w w' := by
  intro R
  induction R with
  | nil =>
    intro v s w h _ _ _ _
    obtain ⟨a, cap, rfl, -, -⟩ := h
    go_enter Try.func36, Try.ntmps36
    go_wp2_with fail
    go_ret
    exact ⟨rfl, Below.refl _ _⟩
  | cons r R ih =>
    intro v s w h hcp hl hs hr
    have hp2 := isP_pos hp
    have hp0 : (p == 0) = false := by rw [beq_eq_false_iff_ne]; omega
    have IH : Hid (∀ (v' : Value) (s' : Nat) (wx : World), RowsI wx v' R → (∀ a L c, v' = .slice a L c → L ≤ c) → s' < 256 → Calls Try.prog 36 #[.int .i64 p, v', .int .i64 s'] wx fun e w' => e = .returned (.int .i64 (detL p c R s')) ∧ Below wx.heap.size wx w') := fun v' s' wx h' hc' hs' => ih v' s' wx h' hc' (by simp at hl; omega) hs' fun x hx => hr x (List.mem_cons_of_mem _ hx)
    clear ih
    obtain ⟨hr1, hr2⟩ := hr r (List.mem_cons_self ..)
    have HI := hid h
    obtain ⟨a, cap, rfl, h1, h2⟩ := h
    obtain ⟨b, off, rfl, hb, hcell⟩ := h2 (by simp)
    obtain ⟨u, hu, hui⟩ := hcell 0 (by simp)
    have hui' : Ints w u r := hui
    have HR : Hid (∀ j, j < c → 0 ≤ r.getD j 0 ∧ r.getD j 0 < p) := hr2
    have HD := hid (fun t => detL_in hp c R t)
    have HS : Hid (∀ j, j ≤ c → -(49 * (j : Int)) ≤ sm j (lapT s (fun j => r.getD j 0) (detL p c R)) ∧ sm j (lapT s (fun j => r.getD j 0) (detL p c R)) ≤ 49 * j) := fun j hj => lap_sum hp hr2 (detL_in hp c R) j hj
    have HE : Hid (detL p c (r :: R) s = (sm c (lapT s (fun j => r.getD j 0) (detL p c R))) % p) := rfl
    obtain ⟨ra, rc, rfl, -, hrc⟩ := hui'
    have hu0 : w.cell? ⟨b, off, none⟩ = some (.slice ra c rc) := by rw [← hr1]; exact hu
    rw [hr1] at hrc
    have HRC := hid hrc
    rw [HE.out]
    have TL : Hid (∀ wx, Below w.heap.size w wx → ∀ cap', RowsI wx (.slice (some ⟨b, off + 1, none⟩) R.length cap') R) := fun wx hbx cap' => (HI.out.below hbx).tail rfl cap'
    obtain ⟨n, HN⟩ : ∃ n, Hid (R.length = n) := ⟨_, rfl⟩
    have hlen : (r :: R).length = n + 1 := by rw [List.length_cons, HN.out]
    have hcap := hcp _ _ _ rfl
    rw [hlen] at hl h1 hcap ⊢
    clear hcp
    rw [HN.out] at TL
    clear hu hui hcell h2 hr1 hr2 HI hr hlen hrc
    generalize detL p c R = d at *
    obtain ⟨q, hq⟩ : ∃ q : Nat → Int, (fun j => r.getD j 0) = q := ⟨_, rfl⟩
    have hqj : ∀ j, r.getD j 0 = q j := fun j => congrFun hq j
    have HRC2 : Hid (0 < c → ∃ b off, ra = some ⟨b, off, none⟩ ∧ b < w.heap.size ∧ ∀ i, i < c → w.cell? ⟨b, off + i, none⟩ = some (.int .i64 (q i))) := fun h0 => by
      obtain ⟨b', off', e1, e2, e3⟩ := HRC.out h0
      exact ⟨b', off', e1, e2, fun i hi => by rw [← hqj i]; exact e3 i hi⟩
    have HRq : Hid (∀ j, j < c → 0 ≤ q j ∧ q j < p) := fun j hj => by rw [← hqj j]; exact HR.out j hj
    rw [hq] at HS ⊢
    clear HRC HR hq hqj HE
    have hni : ((n : Int) + 1 == 0) = false := by rw [beq_eq_false_iff_ne]; omega
    go_enter Try.func36, Try.ntmps36
    go_wp2_with fail
    go_loopw [7, 8, 9, 10, 18] (fun su sg _ _ i wr => ∃ j : Nat, j ≤ c ∧ i = .int .i64 j ∧ su = .int .i64 (sm j (lapT s q d)) ∧ sg = .int .i64 (sgT s j) ∧ Hid (Below w.heap.size w wr)) (fun _ _ _ _ i _ => c - (intOf i).toNat)
    case atStart => exact ⟨0, Nat.zero_le _, rfl, rfl, rfl, Below.refl _ _⟩
    case round =>
      obtain ⟨j, hj, rfl, rfl, rfl, HB⟩ := hrel
      have hsm := HS.out j hj
      by_cases hjc : j < c
      · have hji : (j : Int) < (c : Int) := by omega
        obtain ⟨rb, ro, rfl, hrb, hrc⟩ := HRC2.out (by omega)
        have c1 := (HB.out.cell (p := ⟨rb, ro + j, none⟩) hrb).trans (hrc j hjc)
        have BF := bit_fact s hs j (by omega)
        have HE1 : Hid (sm (j + 1) (lapT s q d) = sm j (lapT s q d) + lapT s q d j) := rfl
        have hsm1 := HS.out (j + 1) (by omega)
        have hq := HRq.out j hjc
        have hd := HD.out (rm s j)
        clear hrc
        cases hbit : s.testBit j with
        | false =>
          rw [hbit] at BF
          have E1 : Hid (sm (j + 1) (lapT s q d) = sm j (lapT s q d)) := by
            show _ = _
            rw [HE1.out]; unfold lapT; rw [if_neg (by rw [hbit]; simp), Int.add_zero]
          have E2 : Hid (sgT s (j + 1) = sgT s j) := if_neg (by rw [hbit]; simp)
          clear HE1 hsm1 hbit
          obtain ⟨S0, hS0⟩ : ∃ S0, sm j (lapT s q d) = S0 := ⟨_, rfl⟩
          rw [hS0] at hsm E1 ⊢
          obtain ⟨G0, hG0⟩ : ∃ G0, sgT s j = G0 := ⟨_, rfl⟩
          rw [hG0] at E2 ⊢
          clear hS0 hG0
          have BF' : (bits BinOp.and IntKind.i64 ((s : Int) / 2 ^ j) 1 == 0) = true := BF
          clear BF
          go_wp2_with fail
          go_roundw
          case rel => exact ⟨j + 1, by omega, by go_num, by rw [E1.out], by rw [E2.out], HB.out⟩
          case measure => simp [intOf]; omega
        | true =>
          rw [hbit] at BF
          have E1 : Hid (sm (j + 1) (lapT s q d) = sm j (lapT s q d) + sgT s j * q j * d (rm s j)) := by
            show _ = _
            rw [HE1.out]; unfold lapT; rw [if_pos hbit]
          have E2 : Hid (sgT s (j + 1) = - sgT s j) := if_pos hbit
          have hsg := sgT_one s j
          obtain ⟨T, hT⟩ : ∃ T : Nat, 2 ^ j = T := ⟨_, rfl⟩
          have hT1 : wrap64 (2 ^ j) = (T : Int) := by rw [← hT]; exact (pow_wrap j (by omega)).1
          have hT2 : IntKind.i64.wrap (2 ^ j) = (T : Int) := by rw [← hT]; exact pow_wV j (by omega)
          have hTl : T ≤ 256 := by rw [← hT]; exact (pow_wrap j (by omega)).2
          have hand : bits .andNot .i64 (s : Int) (T : Int) = ((rm s j : Nat) : Int) := by
            rw [i64_andNot_nat s T (Nat.lt_of_lt_of_le hs (by decide)) (Nat.lt_of_le_of_lt hTl (by decide)), ← hT]
          have hrm := rm_fact s hs j (by omega)
          rw [E1.out] at hsm1
          obtain ⟨S0, hS0⟩ : ∃ S0, sm j (lapT s q d) = S0 := ⟨_, rfl⟩
          rw [hS0] at hsm hsm1 E1 ⊢
          obtain ⟨G0, hG0⟩ : ∃ G0, sgT s j = G0 := ⟨_, rfl⟩
          rw [hG0] at E1 E2 hsg hsm1 ⊢
          obtain ⟨q0, hq0⟩ : ∃ q0, q j = q0 := ⟨_, rfl⟩
          rw [hq0] at c1 hq E1 hsm1
          obtain ⟨t0, ht0⟩ : ∃ t0, rm s j = t0 := ⟨_, rfl⟩
          rw [ht0] at hand hrm hd E1 hsm1
          have IH2 := hid (fun v' wx h' hc' => IH.out v' t0 wx h' hc' hrm)
          obtain ⟨d0, hd0⟩ : ∃ d0, d t0 = d0 := ⟨_, rfl⟩
          rw [hd0] at hd E1 IH2 hsm1
          obtain ⟨m1, hm1⟩ : ∃ m1, G0 * q0 = m1 := ⟨_, rfl⟩
          have b1 : -7 ≤ m1 ∧ m1 ≤ 7 := by
            rw [← hm1]
            rcases hsg with e | e <;> rw [e] <;> omega
          rw [hm1] at E1 hsm1
          obtain ⟨m2, hm2⟩ : ∃ m2, m1 * d0 = m2 := ⟨_, rfl⟩
          have b2 : -49 ≤ m2 ∧ m2 ≤ 49 := by
            rw [← hm2, ← hm1, Int.mul_assoc]
            have h2 : 0 ≤ q0 * d0 := Int.mul_nonneg hq.1 hd.1
            have h3 := Int.mul_le_mul (show q0 ≤ 7 by omega) (show d0 ≤ 7 by omega) (by omega) (by omega)
            rcases hsg with e | e <;> rw [e] <;> omega
          rw [hm2] at E1 hsm1
          obtain ⟨m3, hm3⟩ : ∃ m3, S0 + m2 = m3 := ⟨_, rfl⟩
          rw [hm3] at E1 hsm1
          obtain ⟨G1, hG1⟩ : ∃ G1, -G0 = G1 := ⟨_, rfl⟩
          rw [hG1] at E2
          have b5 : -1 ≤ G1 ∧ G1 ≤ 1 := by rw [← hG1]; rcases hsg with e | e <;> rw [e] <;> omega
          have hw1 : IntKind.i64.wrap m1 = m1 := IntWalk.i64_in _ (by omega)
          have hw2 : IntKind.i64.wrap m2 = m2 := IntWalk.i64_in _ (by omega)
          have hw3 : IntKind.i64.wrap m3 = m3 := IntWalk.i64_in _ (by omega)
          have hw4 : IntKind.i64.wrap G1 = G1 := IntWalk.i64_in _ (by omega)
          have BF' : (bits BinOp.and IntKind.i64 ((s : Int) / 2 ^ j) 1 == 0) = false := BF
          clear BF HE1 hbit hS0 hG0 hq0 ht0 hd0 hsg hT hTl IH HRC2 HD HRq
          by_cases hc1 : cap = 1
          · subst hc1
            have HN0 : Hid (n = 0) := by show _ = _; omega
            have hR0 : Hid (R = []) := List.length_eq_zero_iff.1 (HN.out.trans HN0.out)
            have IH3 : Hid (∀ (a' : Option Addr) (cc : Nat) (wx : World), Below w.heap.size w wx → Calls Try.prog 36 #[.int .i64 p, .slice a' 0 cc, .int .i64 t0] wx fun e w' => e = .returned (.int .i64 d0) ∧ Below w.heap.size w w') := fun a' cc wx hbx => (IH2.out (.slice a' 0 cc) wx (by rw [hR0.out]; exact RowsI.empty wx a' cc) (fun a L c e => by cases e; exact Nat.zero_le _)).mono fun e w' h9 => ⟨h9.1, hbx.trans (h9.2.mono hbx.size)⟩
            clear IH2 TL
            go_wp2_with fail
            go_region_with (go_at_call 36; refine (IH3.out _ _ _ (by first | exact HB.out.drew | exact HB.out)).mono ?_; rintro e w4 ⟨rfl, hb4⟩; have K4 := hid hb4; clear hb4)
            all_goals go_wp2_with fail
            all_goals go_roundw
            all_goals first
              | (exact ⟨j + 1, by omega, by go_num, by rw [E1.out], by rw [E2.out], by first | exact K4.out | exact K4.out.drew⟩)
              | (simp [intOf]; omega)
          · have IH3 : Hid (∀ (wx : World), Below w.heap.size w wx → Calls Try.prog 36 #[.int .i64 p, .slice (some ⟨b, off + 1, none⟩) n (cap - 1), .int .i64 t0] wx fun e w' => e = .returned (.int .i64 d0) ∧ Below w.heap.size w w') := fun wx hbx => (IH2.out _ wx (TL.out wx hbx (cap - 1)) (fun a L c e => by cases e; omega)).mono fun e w' h9 => ⟨h9.1, hbx.trans (h9.2.mono hbx.size)⟩
            clear IH2 TL
            go_wp2_with fail
            go_region_with (go_at_call 36; refine (IH3.out _ (by first | exact HB.out.drew | exact HB.out)).mono ?_; rintro e w4 ⟨rfl, hb4⟩; have K4 := hid hb4; clear hb4)
            all_goals go_wp2_with fail
            all_goals go_roundw
            all_goals first
              | (exact ⟨j + 1, by omega, by go_num, by rw [E1.out], by rw [E2.out], by first | exact K4.out | exact K4.out.drew⟩)
              | (simp [intOf]; omega)
      · obtain rfl : j = c := by omega
        have hnj : ¬ (j : Int) < (j : Int) := by omega
        obtain ⟨S0, hS0⟩ : ∃ S0, sm j (lapT s q d) = S0 := ⟨_, rfl⟩
        rw [hS0] at hsm ⊢
        obtain ⟨m1, hm1⟩ : ∃ m1, Int.tmod S0 p = m1 := ⟨_, rfl⟩
        have b1 : -7 < m1 ∧ m1 < 7 := by
          rw [← hm1]
          have h1 := Int.tmod_lt_of_pos S0 (show 0 < p by omega)
          have h2 := Int.lt_tmod_of_pos S0 (show 0 < p by omega)
          omega
        obtain ⟨m2, hm2⟩ : ∃ m2, m1 + p = m2 := ⟨_, rfl⟩
        have b2 : 0 ≤ m2 := by
          have h2 := Int.lt_tmod_of_pos S0 (show 0 < p by omega)
          omega
        obtain ⟨m3, hm3⟩ : ∃ m3, Int.tmod m2 p = m3 := ⟨_, rfl⟩
        have b3 : 0 ≤ m3 ∧ m3 < p := by rw [← hm3, Int.tmod_eq_emod_of_nonneg b2]; exact ⟨Int.emod_nonneg _ (by omega), Int.emod_lt_of_pos _ (by omega)⟩
        have FIN : Hid (m3 = S0 % p) := by
          show _ = _
          rw [← hm3, Int.tmod_eq_emod_of_nonneg b2, ← hm2, ← hm1]
          refine Em.eq (p := p) ?_ ⟨Int.emod_nonneg _ (by omega), Int.emod_lt_of_pos _ (by omega)⟩ ⟨Int.emod_nonneg _ (by omega), Int.emod_lt_of_pos _ (by omega)⟩
          refine (Em.mod _).trans (Em.trans ?_ (Em.mod _).symm)
          have h5 := Int.mul_tdiv_add_tmod S0 p
          exact ⟨1 - S0.tdiv p, by rw [Int.mul_sub, Int.mul_one]; omega⟩
        have hw1 : IntKind.i64.wrap m1 = m1 := IntWalk.i64_in _ (by omega)
        have hw2 : IntKind.i64.wrap m2 = m2 := IntWalk.i64_in _ (by omega)
        have hw3 : IntKind.i64.wrap m3 = m3 := IntWalk.i64_in _ (by omega)
        have FIN2 : Hid (sm j (lapT s q d) % p = m3) := by show _ = _; rw [hS0]; exact FIN.out.symm
        clear hS0 FIN
        go_wp2_with fail
        go_ret
        exact ⟨by first | (rw [FIN2.out]; rfl) | (rw [← FIN2.out]; rfl), HB.out⟩
end Go.Proofs.Ytboiciflkihlgaa
