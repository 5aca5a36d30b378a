/- join.Weak. -/
import Derived.Test.YthbcnolpjcppoabPkDQ
namespace Go.Proofs.Ythbcnolpjcppoab
open Go.RowKit

set_option maxRecDepth 20000 in
set_option maxHeartbeats 2000000 in
theorem Weak_ok (m R : Nat) (v : Value) (l : List Nat) (w : World) (hP : Pk m l R) (h : Ints w v (N l)) :
    Calls Try.prog 40 #[.agg #[.int .i64 m, v]] w fun e w' => e = .returned (.tuple #[.int .i64 ((weS m (rk l) (2 ^ m)).1 : Nat), .int .i64 0]) ∧ Below w.heap.size w w' := by
  have hm := hP.n8
  have HB0 := hid (below_box w #[.int .i64 m, v])
  have hR := hP.rank
  have hpos := hP.pos
  have R1 := hid (ran_good m v l _ hm hP.fam hP.bas (h.below HB0.out) (by omega))
  have WS := hid (fun w => wholeSet_any m w hm)
  have HK := hid (rk_small hm hP.fam)
  have hfl := full_lt m
  have hT := (pow_wrap m hm).2
  have HLE : Hid (∀ t, t < 2 ^ m → rk l t ≤ R) := fun t ht => by
    have := (hP.bas.rkOn m).mono t _ ht (full_lt m) (full_sub ht)
    rwa [hR] at this
  have HPM : Hid (∀ t, t < 2 ^ m → pop t ≤ m) := fun t ht => by
    have := pop_sub (full_sub ht)
    rwa [pop_fuln m hm] at this
  have HW0 : Hid (weS m (rk l) 0 = (0, m / R)) := by show _ = _; rw [weS, hR]
  have HST : Hid (∀ j, weS m (rk l) (j + 1) = if rk l j ≠ R ∧ (m - pop j) / (R - rk l j) < (weS m (rk l) j).2 then (j, (m - pop j) / (R - rk l j)) else weS m (rk l) j) := fun j => by rw [weS, hR]
  have HI := hid (fun j hj => weS_inv hP j hj)
  obtain ⟨T, HT⟩ : ∃ T, Hid (2 ^ m = T) := ⟨2 ^ m, Eq.refl (2 ^ m)⟩
  rw [HT.out] at R1 WS hfl hT hR HLE HPM HI
  rw [HT.out]
  have hR8 := HK.out (T - 1)
  rw [hR] at hR8
  obtain ⟨a, cap, hv, -, -⟩ := h.nats
  subst hv
  clear h
  go_enter Try.func40, Try.ntmps40
  go_wp2_with fail
  refine R1.out.mono ?_
  rintro e w1 ⟨r1, rfl, hr1, hb1⟩
  have HR1 := hid hr1
  obtain ⟨rb, roff, rcap, rfl, hrb, hrc⟩ := hr1
  have HB1 := hid (HB0.out.trans (hb1.mono HB0.out.size))
  obtain ⟨x0, x1⟩ := box_cells hb1
  have hs1 := hb1.size
  rw [World.size_alloc] at hs1
  have cF := hrc _ hfl
  rw [hR] at cF
  clear hrc hb1 R1
  generalize hfm : T - 1 = fm at *
  have hfl' : (fm : Int) < (T : Int) := by omega
  obtain ⟨q0, hq0, HQ0⟩ : ∃ q0 : Nat, (m : Int) / (R : Int) = (q0 : Int) ∧ Hid (m / R = q0) := ⟨m / R, (Int.natCast_ediv m R).symm, rfl⟩
  have hq8 : q0 ≤ 8 := by rw [← HQ0.out]; exact Nat.le_trans (Nat.div_le_self _ _) hm
  have hR0 : ((R : Int) == 0) = false := by rw [beq_eq_false_iff_ne]; omega
  have hR0' : ¬ (R : Int) = 0 := by omega
  go_wp2_with fail
  refine (WS.out _).mono ?_
  rintro e w' ⟨rfl, h1⟩
  obtain rfl := h1.symm
  go_wp2_with fail
  go_quiet (fail)
  go_wp2_with fail
  go_loopw [7, 8, 31] (fun d u i wr => ∃ k : Nat, k ≤ T ∧ i = .int .i64 k ∧ d = .int .i64 ((weS m (rk l) k).1 : Nat) ∧ u = .int .i64 ((weS m (rk l) k).2 : Nat) ∧ Hid (Below w1.heap.size w1 wr)) (fun _ _ i _ => T - (intOf i).toNat)
  case atStart => exact ⟨0, Nat.zero_le _, rfl, by rw [HW0.out]; rfl, by rw [HW0.out, HQ0.out], drewN_below _ _ _⟩
  case round =>
    obtain ⟨k, hk, rfl, rfl, rfl, HW⟩ := hrel
    by_cases hlt : k < T
    · have hck : wr.cell? ⟨rb, roff + k, none⟩ = some (.int .i64 (rk l k : Nat)) := by
        obtain ⟨b', off', cp', e, h1, h2⟩ := HR1.out.below HW.out
        obtain ⟨⟨rfl, rfl⟩, rfl⟩ : (rb = b' ∧ roff = off') ∧ rcap = cp' := by simpa using e
        exact h2 k hlt
      have c0 := (HW.out.cell (p := ⟨w.heap.size, 0, none⟩) (by show w.heap.size < _; omega)).trans x0
      have HS := hid (fun w' => size_any k w' (by omega))
      have hpm := HPM.out k hlt
      have hle := HLE.out k hlt
      obtain ⟨-, i1, -, i3⟩ := HI.out k hk
      have h16 : (weS m (rk l) k).2 ≤ 8 := by rw [i3]; exact Nat.le_trans (Nat.div_le_self _ _) (by omega)
      have HSP := hid (HST.out k)
      clear i3
      generalize hc2 : (weS m (rk l) k).2 = c2 at *
      generalize rk l k = x at *
      generalize pop k = y at *
      by_cases hxR : x = R
      · subst hxR
        have e : weS m (rk l) (k + 1) = weS m (rk l) k := by rw [HSP.out, if_neg (fun h => h.1 rfl)]
        have HE := hid e
        clear e HSP
        go_wp2_with fail
        go_roundw
        case rel => exact ⟨k + 1, by omega, by go_num, by rw [HE.out], by rw [HE.out, hc2], HW⟩
        case measure => simp [intOf]; omega
      · have hxR' : ((x : Int) == (R : Int)) = false := by rw [beq_eq_false_iff_ne]; omega
        have hxR'' : ¬ (x : Int) = (R : Int) := by omega
        obtain ⟨q, hq, HQ⟩ : ∃ q : Nat, ((m : Int) - (y : Int)) / ((R : Int) - (x : Int)) = (q : Int) ∧ Hid ((m - y) / (R - x) = q) := by
          refine ⟨(m - y) / (R - x), ?_, rfl⟩
          rw [Int.natCast_ediv]
          congr 1 <;> omega
        have hq16 : q ≤ 8 := by rw [← HQ.out]; exact Nat.le_trans (Nat.div_le_self _ _) (by omega)
        rw [HQ.out] at HSP
        have hx0 : ¬ ((R : Int) - (x : Int)) = 0 := by omega
        have hx0' : (((R : Int) - (x : Int)) == 0) = false := by rw [beq_eq_false_iff_ne]; omega
        by_cases hgt : q < c2
        · have hgt' : (q : Int) < (c2 : Int) := by omega
          have e : weS m (rk l) (k + 1) = (k, q) := by rw [HSP.out, if_pos ⟨hxR, hgt⟩]
          have HE := hid e
          clear e HSP
          go_wp2_with fail
          go_quiet ((go_at_call 52; refine (HS.out _).mono ?_; rintro e w' ⟨rfl, rfl⟩; exact ⟨rfl, _, rfl⟩))
          go_wp2_with fail
          exact ⟨⟨k + 1, by omega, by go_num, by rw [HE.out], by rw [HE.out, hq], below_drewN HW.out _⟩, by simp [intOf]; omega⟩
        · have hgt' : ¬ (q : Int) < (c2 : Int) := by omega
          have e : weS m (rk l) (k + 1) = weS m (rk l) k := by rw [HSP.out, if_neg (fun h => hgt h.2)]
          have HE := hid e
          clear e HSP
          go_wp2_with fail
          go_quiet ((go_at_call 52; refine (HS.out _).mono ?_; rintro e w' ⟨rfl, rfl⟩; exact ⟨rfl, _, rfl⟩))
          go_wp2_with fail
          exact ⟨⟨k + 1, by omega, by go_num, by rw [HE.out], by rw [HE.out, hc2], below_drewN HW.out _⟩, by simp [intOf]; omega⟩
    · obtain rfl : k = T := by omega
      have HBF := hid (HB1.out.trans (HW.out.mono HB1.out.size))
      go_wp2_with fail
      go_ret2
      exact ⟨rfl, HBF.out⟩
end Go.Proofs.Ythbcnolpjcppoab
