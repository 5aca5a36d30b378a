/- The document's Simple: rotaref.Simple. -/
import Derived.Test.YthbldeloocmakabGreatRefMkCQ
namespace Go.Proofs.YthbldeloocmakabGreat
open Go.RowKit

theorem dgn_succ (r : Nat → Nat) (n : Nat) : dgnT r (n + 1) = if dgnR r n = true then dgnT r n ||| 2 ^ n else dgnT r n := by
  unfold dgnT
  rw [List.range_succ, List.foldl_append]
  rfl
theorem dgn_lt (r : Nat → Nat) (n : Nat) : dgnT r n < 2 ^ n := lt_of_bits fun j hj => by
  rw [dgn_bit, Bool.and_eq_true, decide_eq_true_iff] at hj
  exact hj.1
/-- What has gone when some ahead of i have been looked at. -/
def dgnK (r : Nat → Nat) (i k : Nat) : Bool := (List.range k).any fun k => r (2 ^ k ||| 2 ^ i) == 1 && r (2 ^ k) == 1
theorem dgnK_succ (r : Nat → Nat) (i k : Nat) : dgnK r i (k + 1) = (dgnK r i k || (r (2 ^ k ||| 2 ^ i) == 1 && r (2 ^ k) == 1)) := by
  unfold dgnK
  rw [List.range_succ, List.any_append]
  simp
set_option maxRecDepth 20000 in
set_option maxHeartbeats 4000000 in
theorem SimpleD_ref (m : Nat) (v : Value) (l : List Nat) (w : World) (hm : m ≤ 8) (hf : Fam m l) (hb : Bas l) (h : Ints w v (N l)) :
    Calls Tryz.prog 12 #[.agg #[.int .i64 m, v]] w fun e w' => ∃ r, e = .returned (.agg #[.int .i64 (pop (dif (2 ^ m - 1) (goneP (rk l) (eqL m (pcl (rk l) m)))) : Nat), r]) ∧ Own w.heap.size w' r (minL m l (goneP (rk l) (eqL m (pcl (rk l) m))) 0) ∧ Below w.heap.size w w' := by
  have HI := hid h
  obtain ⟨a, cap, hv, _, _⟩ := h.nats
  subst hv
  have HB0 := hid (boxM_below w m (.slice a l.length cap))
  have HRK := hid (Ranks_ref m _ l _ hm (hf.lt256 hm) (HI.out.below HB0.out))
  have HX : Hid (∀ w2, Below (boxM w m (.slice a l.length cap)).heap.size (boxM w m (.slice a l.length cap)) w2 → _) := fun w2 h => boxM_blocks h
  have HSZ := hid (boxM_size w m (.slice a l.length cap))
  have DEL : Hid (∀ w', Below w.heap.size w w' → Calls Tryz.prog 40 #[.agg #[.int .i64 m, .slice a l.length cap], .int .i64 (dgnT (rk l) m : Nat)] w' fun e w2 => ∃ r, e = .returned (.agg #[.int .i64 (pop (dif (2 ^ m - 1) (goneP (rk l) (eqL m (pcl (rk l) m)))) : Nat), r]) ∧ Own w'.heap.size w2 r (minL m l (goneP (rk l) (eqL m (pcl (rk l) m))) 0) ∧ Below w'.heap.size w' w2) := fun w' hb' => by
    rw [← dgn_eq hm hb.rk]
    exact Deleted_ref m _ _ l w' hm hf hb (HI.out.below hb') (dgn_lt _ _)
  generalize minL m l (goneP (rk l) (eqL m (pcl (rk l) m))) 0 = acc at *
  generalize pop (dif (2 ^ m - 1) (goneP (rk l) (eqL m (pcl (rk l) m)))) = M at *
  have HT8 : Hid (∀ i, i ≤ m → dgnT (rk l) i < 256) := fun i hi => lt256 (n := i) (by omega) (dgn_lt _ _)
  have HTS : Hid (∀ i, dgnT (rk l) (i + 1) = if (dgnK (rk l) i i || rk l (2 ^ i) == 0) = true then dgnT (rk l) i ||| 2 ^ i else dgnT (rk l) i) := fun i => dgn_succ _ _
  have HKS : Hid (∀ i k, dgnK (rk l) i (k + 1) = (dgnK (rk l) i k || (rk l (2 ^ k ||| 2 ^ i) == 1 && rk l (2 ^ k) == 1))) := fun i k => dgnK_succ _ _ _
  have HPW : Hid (∀ i, i < m → ∀ k, k < m → 2 ^ i < 2 ^ m ∧ 2 ^ k ||| 2 ^ i < 2 ^ m) := fun i hi k hk => ⟨Nat.pow_lt_pow_right (by decide) hi, Nat.or_lt_two_pow (Nat.pow_lt_pow_right (by decide) hk) (Nat.pow_lt_pow_right (by decide) hi)⟩
  have HR8 := hid (rk_small hm hf)
  go_enter Tryz.func12, Tryz.ntmps12
  go_wp2_with fail
  refine HRK.out.mono ?_
  rintro e w1 ⟨r1, rfl, hr1, hb1⟩
  obtain ⟨hx0, hx2⟩ := HX.out w1 hb1
  have HR1 := hid hr1
  obtain ⟨rb, roff, rcap, rfl, _, _⟩ := hr1
  have HY0 := hid hx0
  have HY2 := hid hx2
  have HB1 := hid (HB0.out.trans (hb1.mono HB0.out.size))
  have hsz1 : w.heap.size + 1 + 1 ≤ w1.heap.size := by have := hb1.size; have := HSZ.out; omega
  obtain ⟨T, HT, hT2⟩ : ∃ T : Nat, Hid (2 ^ m = T) ∧ T ≤ 256 := ⟨2 ^ m, Eq.refl (2 ^ m), (pow_wrap _ hm).2⟩
  rw [HT.out] at HR1 HPW ⊢
  clear hb1 hx0 hx2 HRK HX
  go_wp2_with fail
  go_loopw [4, 5] (fun g i wr => ∃ k : Nat, k ≤ m ∧ i = .int .i64 k ∧ g = .int .i64 (dgnT (rk l) k : Nat) ∧ Hid (Below w1.heap.size w1 wr)) (fun _ i _ => m - (intOf i).toNat)
  case atStart => exact ⟨0, Nat.zero_le _, rfl, rfl, Below.refl _ _⟩
  case round =>
    obtain ⟨i, hi, rfl, rfl, HW⟩ := hrel
    have hx0 := (HW.out.block w.heap.size (by omega)).trans HY0.out
    obtain ⟨x0, x1, _, _⟩ := two_cells hx0
    by_cases hlt : i < m
    · have hlti : (i : Int) < (m : Int) := by omega
      have hi8 : i < 8 := by omega
      have g8 := HT8.out i hi
      have hpi : 2 ^ i < 256 := pow_lt256 hi8
      have hor0 : bits .or .i64 ((dgnT (rk l) i : Nat) : Int) ((2 ^ i : Nat) : Int) = ((dgnT (rk l) i ||| 2 ^ i : Nat) : Int) := i64_or_nat _ _ (by omega) (by omega)
      have hor1 : bits .or .i64 ((dgnT (rk l) i ||| 2 ^ i : Nat) : Int) ((2 ^ i : Nat) : Int) = ((dgnT (rk l) i ||| 2 ^ i : Nat) : Int) := by
        rw [i64_or_nat _ _ (Nat.lt_trans (or_lt g8 hpi) (by decide)) (by omega), Nat.or_assoc, Nat.or_self]
      have hpw := pow8 hi8
      have hpW := powW hi8
      have STEP := hid (HTS.out i)
      have HKi := hid (HKS.out i)
      have HPi := hid (HPW.out i hlt)
      have K0 : Hid (dgnK (rk l) i 0 = false) := rfl
      obtain ⟨gf, hgf⟩ : ∃ gf : Bool → Nat, ∀ b, gf b = if b = true then dgnT (rk l) i ||| 2 ^ i else dgnT (rk l) i := ⟨_, fun _ => rfl⟩
      have HG0 : Hid (gf false = dgnT (rk l) i) := (hgf false).trans (if_neg (by simp))
      have HG1 : Hid (gf true = dgnT (rk l) i ||| 2 ^ i) := (hgf true).trans (if_pos rfl)
      have HORB : Hid (∀ b, bits .or .i64 ((gf b : Nat) : Int) ((2 ^ i : Nat) : Int) = ((gf true : Nat) : Int)) := fun b => by
        cases b
        · rw [HG0.out, HG1.out]; exact hor0
        · rw [HG1.out]; exact hor1
      rw [← HG1.out, ← HG0.out] at STEP
      rw [← HG0.out]
      clear hor0 hor1 hgf HTS HT8 HKS HPW
      generalize wr = wA at *
      go_wp2_with fail
      go_loopw [4, 6] (fun g k wr => ∃ j : Nat, j ≤ i ∧ k = .int .i64 j ∧ g = .int .i64 (gf (dgnK (rk l) i j) : Nat) ∧ Hid (Below wA.heap.size wA wr)) (fun _ k _ => i - (intOf k).toNat)
      case atStart => exact ⟨0, Nat.zero_le _, rfl, by rw [K0.out], Below.refl _ _⟩
      case round =>
        obtain ⟨j, hj, rfl, rfl, HV⟩ := hrel
        have hWr := HW.out.trans (HV.out.mono HW.out.size)
        by_cases hjl : j < i
        · have hjli : (j : Int) < (i : Int) := by omega
          have hj8 : j < 8 := by omega
          have hpj : 2 ^ j < 256 := pow_lt256 hj8
          obtain ⟨_, p2⟩ := HPi.out j (by omega)
          have p1 : 2 ^ j < T := by rw [← HT.out]; exact Nat.pow_lt_pow_right (by decide) (by omega)
          have horj : bits .or .i64 ((2 ^ j : Nat) : Int) ((2 ^ i : Nat) : Int) = ((2 ^ j ||| 2 ^ i : Nat) : Int) := i64_or_nat _ _ (Nat.lt_trans hpj (by decide)) (Nat.lt_trans hpi (by decide))
          have hpwj := pow8 hj8
          have hpWj := powW hj8
          obtain ⟨b', off', cp', e0, h1', h2'⟩ := HR1.out.below hWr
          obtain ⟨⟨rfl, rfl⟩, rfl⟩ : (rb = b' ∧ roff = off') ∧ rcap = cp' := by simpa using e0
          have c1 := h2' _ p1
          have c2 := h2' _ p2
          have q1 := HR8.out (2 ^ j)
          have q2 := HR8.out (2 ^ j ||| 2 ^ i)
          have KS := hid (HKi.out j)
          have i1 : ((2 ^ j : Nat) : Int) < (T : Int) := Int.ofNat_lt.2 p1
          have i2 : ((2 ^ j ||| 2 ^ i : Nat) : Int) < (T : Int) := Int.ofNat_lt.2 p2
          have ORB := HORB.out (dgnK (rk l) i j)
          clear h2' e0 HKi HPi HR8
          generalize rk l (2 ^ j ||| 2 ^ i) = ra at *
          generalize rk l (2 ^ j) = rc at *
          generalize 2 ^ j ||| 2 ^ i = oj at *
          generalize 2 ^ j = pj at *
          generalize hpii : 2 ^ i = pi at *
          clear hpii
          generalize dgnK (rk l) i j = dk at *
          by_cases ha : ra = 1
          · have ha' : ((ra : Int) == 1) = true := by rw [ha]; rfl
            by_cases hc : rc = 1
            · have hc' : ((rc : Int) == 1) = true := by rw [hc]; rfl
              have E : Hid (dgnK (rk l) i (j + 1) = true) := by show _ = _; rw [KS.out, ha, hc]; simp
              clear ha hc KS
              go_wp2_with fail
              go_quiet (fail)
              go_wp2_with fail
              exact ⟨⟨j + 1, by omega, by go_num, by rw [E.out], HV.out.trans (drewN_below _ _ _)⟩, by simp [intOf]; omega⟩
            · have hc' : ((rc : Int) == 1) = false := by rw [beq_eq_false_iff_ne]; omega
              have E : Hid (dgnK (rk l) i (j + 1) = dk) := by
                show _ = _
                rw [KS.out]
                simp [hc]
              clear ha hc KS
              go_wp2_with fail
              go_quiet (fail)
              go_wp2_with fail
              exact ⟨⟨j + 1, by omega, by go_num, by rw [E.out], HV.out.trans (drewN_below _ _ _)⟩, by simp [intOf]; omega⟩
          · have ha' : ((ra : Int) == 1) = false := by rw [beq_eq_false_iff_ne]; omega
            have E : Hid (dgnK (rk l) i (j + 1) = dk) := by
              show _ = _
              rw [KS.out]
              simp [ha]
            clear ha KS
            go_wp2_with fail
            go_quiet (fail)
            go_wp2_with fail
            exact ⟨⟨j + 1, by omega, by go_num, by rw [E.out], HV.out.trans (drewN_below _ _ _)⟩, by simp [intOf]; omega⟩
        · obtain rfl : j = i := by omega
          obtain ⟨p1, _⟩ := HPi.out j hlt
          obtain ⟨b', off', cp', e0, h1', h2'⟩ := HR1.out.below hWr
          obtain ⟨⟨rfl, rfl⟩, rfl⟩ : (rb = b' ∧ roff = off') ∧ rcap = cp' := by simpa using e0
          have c1 := h2' _ p1
          have i1 : ((2 ^ j : Nat) : Int) < (T : Int) := Int.ofNat_lt.2 p1
          have ORB := HORB.out (dgnK (rk l) j j)
          have HWr := hid hWr
          clear h2' e0 HKi HPi HR8 hWr HG0 HG1
          generalize rk l (2 ^ j) = rc at *
          generalize hpii : 2 ^ j = pi at *
          clear hpii
          generalize dgnK (rk l) j j = dk at *
          by_cases hc : rc = 0
          · have hc' : ((rc : Int) == 0) = true := by rw [hc]; rfl
            have E : Hid (dgnT (rk l) (j + 1) = gf true) := by show _ = _; rw [STEP.out, hc]; simp
            clear hc STEP
            go_wp2_with fail
            go_roundw
            case rel => exact ⟨j + 1, by omega, by go_num, by rw [E.out], HWr.out⟩
            case measure => simp [intOf]; omega
          · have hc' : ((rc : Int) == 0) = false := by rw [beq_eq_false_iff_ne]; omega
            have E : Hid (dgnT (rk l) (j + 1) = gf dk) := by
              show _ = _
              rw [STEP.out]
              cases dk <;> simp [hc]
            clear hc STEP
            go_wp2_with fail
            go_roundw
            case rel => exact ⟨j + 1, by omega, by go_num, by rw [E.out], HWr.out⟩
            case measure => simp [intOf]; omega
    · obtain rfl : i = m := by omega
      have HBW := hid (HB1.out.trans (HW.out.mono HB1.out.size))
      have D1 := hid (DEL.out wr HBW.out)
      have hsw : w1.heap.size ≤ wr.heap.size := HW.out.size
      have HZ2 := hid ((HW.out.block (w.heap.size + 1) (by omega)).trans HY2.out)
      clear HTS HKS HPW HT8 HR8
      go_wp2_with fail
      refine D1.out.mono ?_
      rintro e w4 ⟨r4, rfl, hr4, hb4⟩
      obtain ⟨ra, rc, hr⟩ := ownsRow_form' hr4
      subst hr
      have hxx := (hb4.block (w.heap.size + 1) (by omega)).trans HZ2.out
      obtain ⟨y2, y3, g2, g3⟩ := two_cells hxx
      have HC := hid (set_two (x := .int .i64 M) (y := .slice ra acc.length rc) hxx)
      have HB4 := hid (HBW.out.trans (hb4.mono HBW.out.size))
      have HD := hid (below_two (b := w.heap.size + 1) (x := .int .i64 M) (y := .slice ra acc.length rc) HB4.out (by omega))
      have HII := hid ((hr4.set2 (b := w.heap.size + 1) (x := .int .i64 M) (y := .slice ra acc.length rc) (by omega)).mono (by omega : w.heap.size ≤ _))
      clear hb4 hr4 hxx x0 x1
      go_wp2_with fail
      obtain ⟨c0, c1⟩ := HC.out
      refine bodyPost_ret (v := .agg #[.int .i64 M, .slice ra _ rc]) ?_ rfl ⟨_, rfl, HII.out, HD.out⟩
      simp [results, Tryz.f12, go_sem, c0, c1]
end Go.Proofs.YthbldeloocmakabGreat
