/- vectors.Determinant. -/
import Derived.Test.YtpdfaenjmjphpaaFdVW
import Derived.Test.YtpdfaenjmjphpaaPlainAll
namespace Go.Proofs.Ytpdfaenjmjphpaa
open Go.RowKit

set_option maxRecDepth 20000 in
set_option maxHeartbeats 4000000 in
theorem vdet_ok (c M : Nat) (hc8 : c ≤ 8) : ∀ (R : List (List Int)) (v : Value) (s : Nat) (w : World), RowsI w v R → (∀ a L c, v = .slice a L c → L ≤ c) → R.length ≤ 8 → s < 256 → (∀ r ∈ R, r.length = c ∧ ∀ j, j < c → (r.getD j 0).natAbs ≤ M) → (M * c + 1) ^ R.length ≤ 4611686018427387904 →
    Calls Try.prog 19 #[v, .int .i64 s] w fun e w' => e = .returned (.int .i64 (detX c R s)) ∧ Below w.heap.size w w' := by
  intro R
  induction R with
  | nil =>
    intro v s w h _ _ _ _ _
    obtain ⟨a, cap, rfl, -, -⟩ := h
    go_enter Try.func19, Try.ntmps19
    go_wp2_with fail
    go_ret
    exact ⟨rfl, Below.refl _ _⟩
  | cons r R ih =>
    intro v s w h hcp hl hs hr hbig
    rw [List.length_cons] at hbig
    have hbig0 : (M * c + 1) ^ R.length ≤ 4611686018427387904 := Nat.le_trans (Nat.pow_le_pow_right (by omega) (Nat.le_succ _)) hbig
    have IH : Hid (∀ (v' : Value) (s' : Nat) (wx : World), RowsI wx v' R → (∀ a L c, v' = .slice a L c → L ≤ c) → s' < 256 → Calls Try.prog 19 #[v', .int .i64 s'] wx fun e w' => e = .returned (.int .i64 (detX c R s')) ∧ Below wx.heap.size wx w') := fun v' s' wx h' hc' hs' => ih v' s' wx h' hc' (by simp at hl; omega) hs' (fun x hx => hr x (List.mem_cons_of_mem _ hx)) hbig0
    clear ih
    obtain ⟨hr1, hr2⟩ := hr r (List.mem_cons_self ..)
    have HI := hid h
    obtain ⟨a, cap, rfl, h1, h2⟩ := h
    obtain ⟨b, off, rfl, hb, hcell⟩ := h2 (by simp)
    obtain ⟨u, hu, hui⟩ := hcell 0 (by simp)
    have hui' : Ints w u r := hui
    have HR : Hid (∀ j, j < c → (r.getD j 0).natAbs ≤ M) := hr2
    have HD := hid (detX_le (c := c) (M := M) R fun x hx => (hr x (List.mem_cons_of_mem _ hx)).2)
    have HS : Hid (∀ j, j ≤ c → (sm j (lapT s (fun j => r.getD j 0) (detX c R))).natAbs ≤ 4611686018427387904) := fun j hj => Nat.le_trans (lapX_sum hr2 HD.out j hj) (Nat.le_trans (powX_step M c R.length j hj) hbig)
    have HE : Hid (detX c (r :: R) s = sm c (lapT s (fun j => r.getD j 0) (detX c R))) := rfl
    have HMD : Hid (0 < c → M * (M * c + 1) ^ R.length ≤ 4611686018427387904) := fun h0 => by
      have := powX_step M c R.length 1 h0
      rw [Nat.mul_one] at this
      exact Nat.le_trans this hbig
    have HD0 : Hid (0 < (M * c + 1) ^ R.length) := Nat.pow_pos (by omega)
    obtain ⟨ra, rc, rfl, -, hrc⟩ := hui'
    have hu0 : w.cell? ⟨b, off, none⟩ = some (.slice ra c rc) := by rw [← hr1]; exact hu
    rw [hr1] at hrc
    have HRC := hid hrc
    rw [HE.out]
    have TL : Hid (∀ wx, Below w.heap.size w wx → ∀ cap', RowsI wx (.slice (some ⟨b, off + 1, none⟩) R.length cap') R) := fun wx hbx cap' => (HI.out.below hbx).tail rfl cap'
    obtain ⟨D, HDD⟩ : ∃ D, Hid ((M * c + 1) ^ R.length = D) := ⟨_, rfl⟩
    rw [HDD.out] at HD HMD HD0
    clear hbig hbig0 HDD
    obtain ⟨n, HN⟩ : ∃ n, Hid (R.length = n) := ⟨_, rfl⟩
    have hlen : (r :: R).length = n + 1 := by rw [List.length_cons, HN.out]
    have hcap := hcp _ _ _ rfl
    rw [hlen] at hl h1 hcap ⊢
    clear hcp
    rw [HN.out] at TL
    clear hu hui hcell h2 hr1 hr2 HI hr hlen hrc
    generalize detX c R = d at *
    obtain ⟨q, hq⟩ : ∃ q : Nat → Int, (fun j => r.getD j 0) = q := ⟨_, rfl⟩
    have hqj : ∀ j, r.getD j 0 = q j := fun j => congrFun hq j
    have HRC2 : Hid (0 < c → ∃ b off, ra = some ⟨b, off, none⟩ ∧ b < w.heap.size ∧ ∀ i, i < c → w.cell? ⟨b, off + i, none⟩ = some (.int .i64 (q i))) := fun h0 => by
      obtain ⟨b', off', e1, e2, e3⟩ := HRC.out h0
      exact ⟨b', off', e1, e2, fun i hi => by rw [← hqj i]; exact e3 i hi⟩
    have HRq : Hid (∀ j, j < c → (q j).natAbs ≤ M) := fun j hj => by rw [← hqj j]; exact HR.out j hj
    rw [hq] at HS ⊢
    clear HRC HR hq hqj HE
    have hni : ((n : Int) + 1 == 0) = false := by rw [beq_eq_false_iff_ne]; omega
    go_enter Try.func19, Try.ntmps19
    go_wp2_with fail
    go_loopw [5, 6, 7, 8, 16] (fun su sg _ _ i wr => ∃ j : Nat, j ≤ c ∧ i = .int .i64 j ∧ su = .int .i64 (sm j (lapT s q d)) ∧ sg = .int .i64 (sgT s j) ∧ Hid (Below w.heap.size w wr)) (fun _ _ _ _ i _ => c - (intOf i).toNat)
    case atStart => exact ⟨0, Nat.zero_le _, rfl, rfl, rfl, Below.refl _ _⟩
    case round =>
      obtain ⟨j, hj, rfl, rfl, rfl, HB⟩ := hrel
      by_cases hjc : j < c
      · have hji : (j : Int) < (c : Int) := by omega
        obtain ⟨rb, ro, rfl, hrb, hrc⟩ := HRC2.out (by omega)
        have c1 := (HB.out.cell (p := ⟨rb, ro + j, none⟩) hrb).trans (hrc j hjc)
        have BF := bit_fact s hs j (by omega)
        have HE1 : Hid (sm (j + 1) (lapT s q d) = sm j (lapT s q d) + lapT s q d j) := rfl
        have hsm1 := HS.out (j + 1) (by omega)
        have hq := HRq.out j hjc
        have hd := HD.out (rm s j)
        clear hrc
        cases hbit : s.testBit j with
        | false =>
          rw [hbit] at BF
          have E1 : Hid (sm (j + 1) (lapT s q d) = sm j (lapT s q d)) := by
            show _ = _
            rw [HE1.out]; unfold lapT; rw [if_neg (by rw [hbit]; simp), Int.add_zero]
          have E2 : Hid (sgT s (j + 1) = sgT s j) := if_neg (by rw [hbit]; simp)
          clear HE1 hsm1 hbit hq hd
          obtain ⟨S0, hS0⟩ : ∃ S0, sm j (lapT s q d) = S0 := ⟨_, rfl⟩
          rw [hS0] at E1 ⊢
          obtain ⟨G0, hG0⟩ : ∃ G0, sgT s j = G0 := ⟨_, rfl⟩
          rw [hG0] at E2 ⊢
          clear hS0 hG0
          have BF' : (bits BinOp.and IntKind.i64 ((s : Int) / 2 ^ j) 1 == 0) = true := BF
          clear BF
          go_wp2_with fail
          go_roundw
          case rel => exact ⟨j + 1, by omega, by go_num, by rw [E1.out], by rw [E2.out], HB.out⟩
          case measure => simp [intOf]; omega
        | true =>
          rw [hbit] at BF
          have E1 : Hid (sm (j + 1) (lapT s q d) = sm j (lapT s q d) + sgT s j * q j * d (rm s j)) := by
            show _ = _
            rw [HE1.out]; unfold lapT; rw [if_pos hbit]
          have E2 : Hid (sgT s (j + 1) = - sgT s j) := if_pos hbit
          have hsg := sgT_one s j
          obtain ⟨T, hT⟩ : ∃ T : Nat, 2 ^ j = T := ⟨_, rfl⟩
          have hT1 : wrap64 (2 ^ j) = (T : Int) := by rw [← hT]; exact (pow_wrap j (by omega)).1
          have hT2 : IntKind.i64.wrap (2 ^ j) = (T : Int) := by rw [← hT]; exact pow_wV j (by omega)
          have hTl : T ≤ 256 := by rw [← hT]; exact (pow_wrap j (by omega)).2
          have hand : bits .andNot .i64 (s : Int) (T : Int) = ((rm s j : Nat) : Int) := by
            rw [i64_andNot_nat s T (Nat.lt_of_lt_of_le hs (by decide)) (Nat.lt_of_le_of_lt hTl (by decide)), ← hT]
          have hrm := rm_fact s hs j (by omega)
          rw [E1.out] at hsm1
          obtain ⟨S0, hS0⟩ : ∃ S0, sm j (lapT s q d) = S0 := ⟨_, rfl⟩
          rw [hS0] at hsm1 E1 ⊢
          obtain ⟨G0, hG0⟩ : ∃ G0, sgT s j = G0 := ⟨_, rfl⟩
          rw [hG0] at E1 E2 hsg hsm1 ⊢
          obtain ⟨q0, hq0⟩ : ∃ q0, q j = q0 := ⟨_, rfl⟩
          rw [hq0] at c1 hq E1 hsm1
          obtain ⟨t0, ht0⟩ : ∃ t0, rm s j = t0 := ⟨_, rfl⟩
          rw [ht0] at hand hrm hd E1 hsm1
          have IH2 := hid (fun v' wx h' hc' => IH.out v' t0 wx h' hc' hrm)
          obtain ⟨d0, hd0⟩ : ∃ d0, d t0 = d0 := ⟨_, rfl⟩
          rw [hd0] at hd E1 IH2 hsm1
          obtain ⟨m1, hm1⟩ : ∃ m1, G0 * q0 = m1 := ⟨_, rfl⟩
          have hmd := HMD.out (by omega)
          have b1 : m1.natAbs ≤ M := by
            rw [← hm1, Int.natAbs_mul]
            rcases hsg with e | e <;> rw [e] <;> simpa using hq
          have b1' : m1.natAbs ≤ 4611686018427387904 := Nat.le_trans b1 (Nat.le_trans (Nat.le_mul_of_pos_right M HD0.out) hmd)
          rw [hm1] at E1 hsm1
          obtain ⟨m2, hm2⟩ : ∃ m2, m1 * d0 = m2 := ⟨_, rfl⟩
          have b2 : m2.natAbs ≤ 4611686018427387904 := by
            rw [← hm2, Int.natAbs_mul]
            exact Nat.le_trans (Nat.mul_le_mul b1 hd) hmd
          rw [hm2] at E1 hsm1
          obtain ⟨m3, hm3⟩ : ∃ m3, S0 + m2 = m3 := ⟨_, rfl⟩
          rw [hm3] at E1 hsm1
          obtain ⟨G1, hG1⟩ : ∃ G1, -G0 = G1 := ⟨_, rfl⟩
          rw [hG1] at E2
          have b5 : -1 ≤ G1 ∧ G1 ≤ 1 := by rw [← hG1]; rcases hsg with e | e <;> rw [e] <;> omega
          have hw1 : IntKind.i64.wrap m1 = m1 := IntWalk.i64_in _ (by omega)
          have hw2 : IntKind.i64.wrap m2 = m2 := IntWalk.i64_in _ (by omega)
          have hw3 : IntKind.i64.wrap m3 = m3 := IntWalk.i64_in _ (by omega)
          have hw4 : IntKind.i64.wrap G1 = G1 := IntWalk.i64_in _ (by omega)
          have BF' : (bits BinOp.and IntKind.i64 ((s : Int) / 2 ^ j) 1 == 0) = false := BF
          clear BF HE1 hbit hS0 hG0 hq0 ht0 hd0 hsg hT hTl IH HRC2 HD HRq hmd b1 b1' b2 hd hq hsm1
          by_cases hc1 : cap = 1
          · subst hc1
            have HN0 : Hid (n = 0) := by show _ = _; omega
            have hR0 : Hid (R = []) := List.length_eq_zero_iff.1 (HN.out.trans HN0.out)
            have IH3 : Hid (∀ (a' : Option Addr) (cc : Nat) (wx : World), Below w.heap.size w wx → Calls Try.prog 19 #[.slice a' 0 cc, .int .i64 t0] wx fun e w' => e = .returned (.int .i64 d0) ∧ Below w.heap.size w w') := fun a' cc wx hbx => (IH2.out (.slice a' 0 cc) wx (by rw [hR0.out]; exact RowsI.empty wx a' cc) (fun a L c e => by cases e; exact Nat.zero_le _)).mono fun e w' h9 => ⟨h9.1, hbx.trans (h9.2.mono hbx.size)⟩
            clear IH2 TL
            go_wp2_with fail
            go_region_with (go_at_call 19; refine (IH3.out _ _ _ (by first | exact HB.out.drew | exact HB.out)).mono ?_; rintro e w4 ⟨rfl, hb4⟩; have K4 := hid hb4; clear hb4)
            all_goals go_wp2_with fail
            all_goals go_roundw
            all_goals first
              | (exact ⟨j + 1, by omega, by go_num, by rw [E1.out], by rw [E2.out], by first | exact K4.out | exact K4.out.drew⟩)
              | (simp [intOf]; omega)
          · have IH3 : Hid (∀ (wx : World), Below w.heap.size w wx → Calls Try.prog 19 #[.slice (some ⟨b, off + 1, none⟩) n (cap - 1), .int .i64 t0] wx fun e w' => e = .returned (.int .i64 d0) ∧ Below w.heap.size w w') := fun wx hbx => (IH2.out _ wx (TL.out wx hbx (cap - 1)) (fun a L c e => by cases e; omega)).mono fun e w' h9 => ⟨h9.1, hbx.trans (h9.2.mono hbx.size)⟩
            clear IH2 TL
            go_wp2_with fail
            go_region_with (go_at_call 19; refine (IH3.out _ (by first | exact HB.out.drew | exact HB.out)).mono ?_; rintro e w4 ⟨rfl, hb4⟩; have K4 := hid hb4; clear hb4)
            all_goals go_wp2_with fail
            all_goals go_roundw
            all_goals first
              | (exact ⟨j + 1, by omega, by go_num, by rw [E1.out], by rw [E2.out], by first | exact K4.out | exact K4.out.drew⟩)
              | (simp [intOf]; omega)
      · obtain rfl : j = c := by omega
        have hnj : ¬ (j : Int) < (j : Int) := by omega
        go_wp2_with fail
        go_ret
        exact ⟨rfl, HB.out⟩
end Go.Proofs.Ytpdfaenjmjphpaa
