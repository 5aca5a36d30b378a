/- rotaref.Thick, rotaref.Thin. -/
import Derived.Test.YthbcnolpjcppoabRefAxCQ
import Derived.Test.YthbcnolpjcppoabPlainAll
import Derived.Test.YthbcnolpjcppoabQBelW
import Derived.Test.YthbcnolpjcppoabJcLawW
namespace Go.Proofs.Ythbcnolpjcppoab
open Go.RowKit

/-- What Thin's walk has found. -/
def thS (m : Nat) (l : List Nat) (k : Nat) : Int × Nat := if k = 0 then (-1, 0) else (((weS m (rk l) k).1 : Int), (weS m (rk l) k).2)
set_option maxRecDepth 20000 in
set_option maxHeartbeats 2000000 in
theorem Thin_ok (m R : Nat) (v : Value) (l : List Nat) (w : World) (hP : Pk m l R) (h : Ints w v (N l)) :
    Calls Try.prog 35 #[.agg #[.int .i64 m, v]] w fun e w' => e = .returned (.int .i64 ((weS m (rk l) (2 ^ m)).1 : Nat)) ∧ Below w.heap.size w w' := by
  have hm := hP.n8
  have HB0 := hid (below_box w #[.int .i64 m, v])
  have R1 := hid (Ranks_ref m v l _ hm (hP.fam.lt256 hm) (h.below HB0.out))
  have AL := hid (fun w' => All_nat m w' hm)
  have hR := hP.rank
  have hpos := hP.pos
  have HLE : Hid (∀ t, t < 2 ^ m → rk l t ≤ R) := fun t ht => by
    have := (hP.bas.rkOn m).mono t _ ht (full_lt m) (full_sub ht)
    rwa [hR] at this
  have HPM : Hid (∀ t, t < 2 ^ m → pop t ≤ m) := fun t ht => by
    have := pop_sub (full_sub ht)
    rwa [pop_fuln m hm] at this
  have h0R : rk l 0 = 0 := (hP.bas.rkOn m).zero
  have HST : Hid (∀ j, weS m (rk l) (j + 1) = if rk l j ≠ R ∧ (m - pop j) / (R - rk l j) < (weS m (rk l) j).2 then (j, (m - pop j) / (R - rk l j)) else weS m (rk l) j) := fun j => by rw [weS, hR]
  have HW0 : Hid (weS m (rk l) 1 = (0, m / R)) := by
    show _ = _
    rw [HST.out 0, show weS m (rk l) 0 = (0, m / R) from by rw [weS, hR], h0R, show pop 0 = 0 by decide]
    simp
  have HI := hid (fun j hj => weS_inv hP j hj)
  have hfl := full_lt m
  have hT := (pow_wrap m hm).2
  have hR8 := rk_le8 l (hP.fam.lt256 hm) (2 ^ m - 1)
  rw [hR] at hR8
  obtain ⟨T, HT⟩ : ∃ T, Hid (2 ^ m = T) := ⟨2 ^ m, Eq.refl (2 ^ m)⟩
  rw [HT.out] at R1 AL hfl hT hR HLE HPM HI
  rw [HT.out]
  obtain ⟨a, cap, hv, -, -⟩ := h.nats
  subst hv
  clear h
  go_enter Try.func35, Try.ntmps35
  go_wp2_with fail
  refine R1.out.mono ?_
  rintro e w1 ⟨r1, rfl, hr1, hb1⟩
  have HR1 := hid hr1
  obtain ⟨rb, roff, rcap, rfl, hrb, hrc⟩ := hr1
  obtain ⟨x0, x1⟩ := box_cells hb1
  have HB1 := hid (HB0.out.trans (hb1.mono HB0.out.size))
  have hs1 := hb1.size
  rw [World.size_alloc] at hs1
  have cF := hrc _ hfl
  rw [hR] at cF
  clear hrc hb1
  have hfl' : ((T - 1 : Nat) : Int) < (T : Int) := by omega
  go_wp2_with fail
  refine (AL.out _).mono ?_
  rintro e w' ⟨rfl, h1⟩
  obtain rfl := h1.symm
  clear h1
  go_wp2_with fail
  go_loopw [5, 6, 7] (fun d u i wr => ∃ k : Nat, k ≤ T ∧ i = .int .i64 k ∧ d = .int .i64 (thS m l k).1 ∧ u = .int .i64 ((thS m l k).2 : Nat) ∧ Hid (Below w1.heap.size w1 wr)) (fun _ _ i _ => T - (intOf i).toNat)
  case atStart => exact ⟨0, Nat.zero_le _, rfl, rfl, rfl, Below.refl _ _⟩
  case round =>
    obtain ⟨k, hk, rfl, rfl, rfl, HW⟩ := hrel
    have c0 := (HW.out.cell (p := ⟨w.heap.size, 0, none⟩) (by show w.heap.size < _; omega)).trans x0
    by_cases hlt : k < T
    · have hck : wr.cell? ⟨rb, roff + k, none⟩ = some (.int .i64 (rk l k : Nat)) := (HR1.out.below HW.out).at hlt
      have hki : (k : Int) ≤ ((T - 1 : Nat) : Int) := by omega
      have kTi : (k : Int) < (T : Int) := by omega
      have HS := hid (fun w' => Size_any k w' (by omega))
      have hpm := HPM.out k hlt
      have hle := HLE.out k hlt
      have hHS := HST.out k
      have hTH : Hid (thS m l (k + 1) = (((weS m (rk l) (k + 1)).1 : Int), (weS m (rk l) (k + 1)).2)) := by show _ = _; unfold thS; rw [if_neg (by omega)]
      by_cases hxR : rk l k = R
      · have hk0 : k ≠ 0 := fun e => by rw [e, h0R] at hxR; omega
        have e : thS m l (k + 1) = thS m l k := by
          rw [hTH.out, hHS, if_neg (fun h => h.1 hxR)]
          unfold thS
          rw [if_neg hk0]
        have HE := hid e
        rw [hxR] at hck
        clear e hHS hTH
        go_wp2_with fail
        refine (AL.out _).mono ?_
        rintro e w' ⟨rfl, h1⟩
        obtain rfl := h1.symm
        go_wp2_with fail
        go_roundw
        case rel => exact ⟨k + 1, by omega, by go_num, by rw [HE.out], by rw [HE.out], HW⟩
        case measure => simp [intOf]; omega
      · have hxl : (rk l k : Int) < (R : Int) := by omega
        obtain ⟨q, hq, HQ⟩ : ∃ q : Nat, ((m : Int) - (pop k : Nat)) / ((R : Int) - (rk l k : Nat)) = (q : Int) ∧ Hid ((m - pop k) / (R - rk l k) = q) := by
          refine ⟨(m - pop k) / (R - rk l k), ?_, rfl⟩
          rw [Int.natCast_ediv]
          congr 1 <;> omega
        have hq16 : q ≤ 8 := by rw [← HQ.out]; exact Nat.le_trans (Nat.div_le_self _ _) (by omega)
        rw [HQ.out] at hHS
        have cR : ∀ x : Later wr, x.now.cell? ⟨rb, roff + k, none⟩ = some (.int .i64 (rk l k : Nat)) := (HR1.out.below HW.out).later hlt
        have cN : ∀ x : Later wr, x.now.cell? ⟨w.heap.size, 0, none⟩ = some (.int .i64 m) := fun x => (x.kept.cell (p := ⟨w.heap.size, 0, none⟩) (World.block_lt_of_cell? wr _ c0)).trans c0
        have hx0 : ¬ ((R : Int) - (rk l k : Nat)) = 0 := by omega
        have hx0' : (((R : Int) - (rk l k : Nat)) == 0) = false := by rw [beq_eq_false_iff_ne]; omega
        have FIN : Hid ((k = 0 ∧ thS m l (k + 1) = ((k : Int), q)) ∨ (k ≠ 0 ∧ q < (weS m (rk l) k).2 ∧ thS m l (k + 1) = ((k : Int), q)) ∨ (k ≠ 0 ∧ ¬ q < (weS m (rk l) k).2 ∧ thS m l (k + 1) = thS m l k)) := by
          by_cases hk0 : k = 0
          · left
            refine ⟨hk0, ?_⟩
            rw [hTH.out]
            subst hk0
            rw [HW0.out]
            have e : m / R = q := by
              rw [← HQ.out, h0R, show pop 0 = 0 by decide]
              rfl
            rw [e]
          · right
            by_cases hg : q < (weS m (rk l) k).2
            · left
              refine ⟨hk0, hg, ?_⟩
              rw [hTH.out, hHS, if_pos ⟨hxR, hg⟩]
            · right
              refine ⟨hk0, hg, ?_⟩
              rw [hTH.out, hHS, if_neg (fun h => hg h.2)]
              unfold thS
              rw [if_neg hk0]
        have hw8 : (weS m (rk l) k).2 ≤ 8 ∧ (weS m (rk l) k).1 ≤ 256 := by
          obtain ⟨-, i1, -, i3⟩ := HI.out k hk
          refine ⟨by rw [i3]; exact Nat.le_trans (Nat.div_le_self _ _) (by omega), by omega⟩
        have hts : Hid (k ≠ 0 → thS m l k = (((weS m (rk l) k).1 : Int), (weS m (rk l) k).2)) := fun h => by unfold thS; rw [if_neg h]
        have hts0 : Hid (k = 0 → thS m l k = (-1, 0)) := fun h => by unfold thS; rw [if_pos h]
        clear hHS hTH HQ
        generalize rk l k = x at *
        generalize pop k = y at *
        rcases FIN.out with ⟨e0, e1⟩ | ⟨e0, hg, e1⟩ | ⟨e0, hg, e1⟩
        · have E1 := hid e1
          rw [hts0.out e0]
          clear e1 FIN hts hts0 e0
          go_wp2_with fail
          refine (AL.out _).mono ?_
          rintro e w' ⟨rfl, h1⟩
          obtain rfl := h1.symm
          clear h1
          go_wp2_with fail
          refine region_later (by kernel_rfl) (by kernel_rfl) ?_
          repeat (go_big_quiet_step ((go_at_call 12; refine (HS.out _).mono ?_; rintro e w' ⟨rfl, hb9⟩; exact ⟨rfl, Later.on _ hb9⟩)))
          refine wpQuiet_nil ?_
          intro w6' hw'
          obtain ⟨⟨y6, hb6⟩, hw''⟩ := hw'
          dsimp only at hw''
          subst hw''
          have HB6 := hid (HW.out.trans (hb6.mono HW.out.size))
          clear hb6 cR cN
          go_wp2_with fail
          exact ⟨⟨k + 1, by omega, by go_num, by rw [E1.out], by rw [E1.out, hq], HB6⟩, by simp [intOf]; omega⟩
        · have E1 := hid e1
          rw [hts.out e0]
          generalize (weS m (rk l) k).2 = c2 at *
          generalize (weS m (rk l) k).1 = c1 at *
          have hg' : (q : Int) < (c2 : Int) := by omega
          have hc1 : ¬ (c1 : Int) < 0 := by omega
          clear e1 FIN hts hts0
          go_wp2_with fail
          refine (AL.out _).mono ?_
          rintro e w' ⟨rfl, h1⟩
          obtain rfl := h1.symm
          clear h1
          go_wp2_with fail
          refine region_later (by kernel_rfl) (by kernel_rfl) ?_
          repeat (go_big_quiet_step ((go_at_call 12; refine (HS.out _).mono ?_; rintro e w' ⟨rfl, hb9⟩; exact ⟨rfl, Later.on _ hb9⟩)))
          refine wpQuiet_nil ?_
          intro w6' hw'
          obtain ⟨⟨y6, hb6⟩, hw''⟩ := hw'
          dsimp only at hw''
          subst hw''
          have HB6 := hid (HW.out.trans (hb6.mono HW.out.size))
          clear hb6 cR cN
          go_wp2_with fail
          exact ⟨⟨k + 1, by omega, by go_num, by rw [E1.out], by rw [E1.out], HB6⟩, by simp [intOf]; omega⟩
        · have E1 := hid (e1.trans (hts.out e0))
          rw [hts.out e0]
          generalize (weS m (rk l) k).2 = c2 at *
          generalize (weS m (rk l) k).1 = c1 at *
          have hg' : ¬ (q : Int) < (c2 : Int) := by omega
          have hc1 : ¬ (c1 : Int) < 0 := by omega
          clear e1 FIN hts hts0
          go_wp2_with fail
          refine (AL.out _).mono ?_
          rintro e w' ⟨rfl, h1⟩
          obtain rfl := h1.symm
          clear h1
          go_wp2_with fail
          refine region_later (by kernel_rfl) (by kernel_rfl) ?_
          repeat (go_big_quiet_step ((go_at_call 12; refine (HS.out _).mono ?_; rintro e w' ⟨rfl, hb9⟩; exact ⟨rfl, Later.on _ hb9⟩)))
          refine wpQuiet_nil ?_
          intro w6' hw'
          obtain ⟨⟨y6, hb6⟩, hw''⟩ := hw'
          dsimp only at hw''
          subst hw''
          have HB6 := hid (HW.out.trans (hb6.mono HW.out.size))
          clear hb6 cR cN
          go_wp2_with fail
          go_roundw
          case rel => exact ⟨k + 1, by omega, by go_num, by rw [E1.out], by rw [E1.out], HB6⟩
          case measure => simp [intOf]; omega
    · obtain rfl : k = T := by omega
      have hki : ¬ (k : Int) ≤ ((k - 1 : Nat) : Int) := by omega
      have HBF := hid (HB1.out.trans (HW.out.mono HB1.out.size))
      have he : thS m l k = (((weS m (rk l) k).1 : Int), (weS m (rk l) k).2) := by unfold thS; rw [if_neg (by omega)]
      rw [he]
      clear he
      go_wp2_with fail
      refine (AL.out _).mono ?_
      rintro e w' ⟨rfl, h1⟩
      obtain rfl := h1.symm
      go_wp2_with fail
      go_ret
      exact ⟨rfl, HBF.out⟩

set_option maxRecDepth 20000 in
set_option maxHeartbeats 2000000 in
theorem Thick_ok (m : Nat) (v : Value) (l : List Nat) (w : World) (hm : m ≤ 8) (hf : Fam m l) (h : Ints w v (N l)) :
    Calls Try.prog 33 #[.agg #[.int .i64 m, v]] w fun e w' => ((NoLoop m (rk l) ∧ e = .returned (.tuple #[.int .i64 ((deS (rk l) (2 ^ m)).1 : Nat), .bool true])) ∨ (¬ NoLoop m (rk l) ∧ e = .returned (.tuple #[.int .i64 0, .bool false]))) ∧ Below w.heap.size w w' := by
  have HB0 := hid (below_box w #[.int .i64 m, v])
  have R1 := hid (Ranks_ref m v l _ hm (hf.lt256 hm) (h.below HB0.out))
  have AL := hid (fun w' => All_nat m w' hm)
  have HK := hid (rk_le8 l (hf.lt256 hm))
  have hfl := full_lt m
  have hT := (pow_wrap m hm).2
  have hT1 : 1 ≤ 2 ^ m := Nat.one_le_two_pow
  have HNL : Hid (NoLoop m (rk l) ↔ ∀ t, t < 2 ^ m → t ≠ 0 → 1 ≤ rk l t) := Iff.rfl
  have HDI := hid (fun j => deS_inv (rk l) j)
  have HST : Hid (∀ j, deS (rk l) (j + 1) = if j ≠ 0 ∧ (deS (rk l) j).2 < upB (rk l) j then (j, upB (rk l) j) else deS (rk l) j) := fun j => rfl
  obtain ⟨T, HT⟩ : ∃ T, Hid (2 ^ m = T) := ⟨2 ^ m, Eq.refl (2 ^ m)⟩
  rw [HT.out] at R1 AL hfl hT HNL hT1
  rw [HT.out]
  obtain ⟨a, cap, hv, -, -⟩ := h.nats
  subst hv
  clear h
  go_enter Try.func33, Try.ntmps33
  go_wp2_with fail
  refine R1.out.mono ?_
  rintro e w1 ⟨r1, rfl, hr1, hb1⟩
  have HR1 := hid hr1
  obtain ⟨rb, roff, rcap, rfl, -, -⟩ := hr1
  obtain ⟨x0, x1⟩ := box_cells hb1
  have HB1 := hid (HB0.out.trans (hb1.mono HB0.out.size))
  have hs1 := hb1.size
  rw [World.size_alloc] at hs1
  clear hb1
  go_wp2_with fail
  go_loopw [5, 6] (fun d i wr => ∃ k : Nat, 1 ≤ k ∧ k ≤ T ∧ i = .int .i64 k ∧ d = .int .i64 ((deS (rk l) k).1 : Nat) ∧ Hid (∀ t, t < k → t ≠ 0 → 1 ≤ rk l t) ∧ Hid (Below w1.heap.size w1 wr)) (fun _ i _ => T - (intOf i).toNat)
  case atStart => exact ⟨1, Nat.le_refl _, hT1, rfl, rfl, fun t h1 h2 => by omega, Below.refl _ _⟩
  case round =>
    obtain ⟨k, hk1, hk, rfl, rfl, HA, HW⟩ := hrel
    have c0 := (HW.out.cell (p := ⟨w.heap.size, 0, none⟩) (by show w.heap.size < _; omega)).trans x0
    by_cases hlt : k < T
    · have hck : wr.cell? ⟨rb, roff + k, none⟩ = some (.int .i64 (rk l k : Nat)) := (HR1.out.below HW.out).at hlt
      have hki : (k : Int) ≤ ((T - 1 : Nat) : Int) := by omega
      have kTi : (k : Int) < (T : Int) := by omega
      by_cases hz : rk l k = 0
      · have hN : ¬ NoLoop m (rk l) := fun h => by
          have := HNL.out.1 h k hlt (by omega)
          omega
        have HN := hid hN
        have HBF := hid (HB1.out.trans (HW.out.mono HB1.out.size))
        rw [hz] at hck
        clear hN
        go_wp2_with fail
        refine (AL.out _).mono ?_
        rintro e w' ⟨rfl, h1⟩
        obtain rfl := h1.symm
        go_wp2_with fail
        go_ret2
        exact ⟨Or.inr ⟨HN.out, rfl⟩, HBF.out⟩
      · have hzi : ((rk l k : Int) == 0) = false := by rw [beq_eq_false_iff_ne]; omega
        have hzi' : ¬ (rk l k : Int) = 0 := by omega
        have HA2 : Hid (∀ t, t < k + 1 → t ≠ 0 → 1 ≤ rk l t) := fun t h1 h2 => by
          rcases Nat.lt_or_ge t k with g | g
          · exact HA.out t g h2
          · obtain rfl : t = k := by omega
            omega
        have hp8 := pop_le k (by omega)
        have hr8 := HK.out k
        obtain ⟨d1, d2⟩ := HDI.out k
        have hst := HST.out k
        have hup : 1 ≤ upB (rk l) k := by
          rcases Nat.eq_zero_or_pos (upB (rk l) k) with g | g
          · have h1 : ¬ upB (rk l) k ≤ 0 := by
              unfold upB
              rw [up_le (by omega)]
              have : pop k ≠ 0 := fun e => by have := (pop_pos k (by omega)).1 e; omega
              omega
            omega
          · exact g
        rcases d2 with e0 | ⟨e0, e1, e2, e3, -⟩
        · have E1 : Hid (deS (rk l) (k + 1) = (k, upB (rk l) k)) := by
            show _ = _
            rw [hst, e0, if_pos ⟨by omega, by dsimp only; omega⟩]
          rw [e0]
          clear hst d1 e0 HA hz
          go_wp2_with fail
          refine (AL.out _).mono ?_
          rintro e w' ⟨rfl, h1⟩
          obtain rfl := h1.symm
          clear h1
          go_wp2_with fail
          refine region_later (by kernel_rfl) (by kernel_rfl) ?_
          repeat (go_big_quiet_step (fail))
          refine wpQuiet_nil ?_
          intro w6' hw'
          obtain ⟨⟨y6, hb6⟩, hw''⟩ := hw'
          dsimp only at hw''
          subst hw''
          have HB6 := hid (HW.out.trans (hb6.mono HW.out.size))
          clear hb6
          go_wp2_with fail
          exact ⟨⟨k + 1, by omega, by omega, by go_num, by rw [E1.out], HA2, HB6⟩, by simp [intOf]; omega⟩
        · have hdT : (deS (rk l) k).1 < T := by omega
          have hd1 := HA.out (deS (rk l) k).1 e1 e0
          have hd8 := HK.out (deS (rk l) k).1
          have hdp := pop_le (deS (rk l) k).1 (by omega)
          have cR : ∀ x : Later wr, x.now.cell? ⟨rb, roff + k, none⟩ = some (.int .i64 (rk l k : Nat)) := (HR1.out.below HW.out).later hlt
          have cD : ∀ x : Later wr, x.now.cell? ⟨rb, roff + (deS (rk l) k).1, none⟩ = some (.int .i64 (rk l (deS (rk l) k).1 : Nat)) := (HR1.out.below HW.out).later hdT
          have S1 := hid (fun w' => Size_any k w' (by omega))
          have S2 := hid (fun w' => Size_any (deS (rk l) k).1 w' (by omega))
          have U1 : Hid (∀ w', Calls Try.prog 80 #[.int .i64 (pop k : Nat), .int .i64 (rk l k : Nat)] w' fun e w'' => e = .returned (.int .i64 (upB (rk l) k : Nat)) ∧ w'' = w') := fun w' => Up_any (pop k) (rk l k) w' (by omega) (by omega) (by omega)
          have U2 : Hid (∀ w', Calls Try.prog 80 #[.int .i64 (pop (deS (rk l) k).1 : Nat), .int .i64 (rk l (deS (rk l) k).1 : Nat)] w' fun e w'' => e = .returned (.int .i64 ((deS (rk l) k).2 : Nat)) ∧ w'' = w') := fun w' => by rw [e2]; exact Up_any _ _ w' hd1 (by omega) (by omega)
          have hdi : ((deS (rk l) k).1 : Int) < (T : Int) := by omega
          have hd0 : (((deS (rk l) k).1 : Int) == 0) = false := by rw [beq_eq_false_iff_ne]; omega
          have hd0' : ¬ ((deS (rk l) k).1 : Int) = 0 := by omega
          have E1 : Hid ((deS (rk l) k).2 < upB (rk l) k → (deS (rk l) (k + 1)).1 = k) := fun h => by rw [hst, if_pos ⟨by omega, h⟩]
          have E2 : Hid (¬ (deS (rk l) k).2 < upB (rk l) k → (deS (rk l) (k + 1)).1 = (deS (rk l) k).1) := fun h => by rw [hst, if_neg (fun g => h g.2)]
          clear hst d1 e2 HA hz hd1 e0 e1
          generalize upB (rk l) k = z at *
          generalize (deS (rk l) k).2 = c2 at *
          generalize hc1 : (deS (rk l) k).1 = c1 at *
          generalize rk l c1 = x1 at *
          generalize rk l k = x2 at *
          generalize pop c1 = y1 at *
          generalize pop k = y2 at *
          by_cases hg : c2 < z
          · have hg' : (c2 : Int) < (z : Int) := by omega
            have F1 := hid (E1.out hg)
            clear E1 E2 hc1
            go_wp2_with fail
            refine (AL.out _).mono ?_
            rintro e w' ⟨rfl, h1⟩
            obtain rfl := h1.symm
            clear h1
            go_wp2_with fail
            refine region_later (by kernel_rfl) (by kernel_rfl) ?_
            repeat (go_big_quiet_step ((first
              | (go_at_call 12; (with_reducible refine (S1.out _).mono ?_); rintro e w' ⟨rfl, hb9⟩; exact ⟨rfl, Later.on _ hb9⟩)
              | (go_at_call 12; (with_reducible refine (S2.out _).mono ?_); rintro e w' ⟨rfl, hb9⟩; exact ⟨rfl, Later.on _ hb9⟩)
              | (go_at_call 80; (with_reducible refine (U1.out _).mono ?_); rintro e w' ⟨rfl, rfl⟩; exact ⟨rfl, Later.on _ (Below.refl _ _)⟩)
              | (go_at_call 80; (with_reducible refine (U2.out _).mono ?_); rintro e w' ⟨rfl, rfl⟩; exact ⟨rfl, Later.on _ (Below.refl _ _)⟩))))
            refine wpQuiet_nil ?_
            intro w6' hw'
            obtain ⟨⟨y6, hb6⟩, hw''⟩ := hw'
            dsimp only at hw''
            subst hw''
            have HB6 := hid (HW.out.trans (hb6.mono HW.out.size))
            clear hb6 cR cD
            go_wp2_with fail
            exact ⟨⟨k + 1, by omega, by omega, by go_num, by rw [F1.out], HA2, HB6⟩, by simp [intOf]; omega⟩
          · have hg' : ¬ (c2 : Int) < (z : Int) := by omega
            have F1 := hid (E2.out hg)
            clear E1 E2 hc1
            go_wp2_with fail
            refine (AL.out _).mono ?_
            rintro e w' ⟨rfl, h1⟩
            obtain rfl := h1.symm
            clear h1
            go_wp2_with fail
            refine region_later (by kernel_rfl) (by kernel_rfl) ?_
            repeat (go_big_quiet_step ((first
              | (go_at_call 12; (with_reducible refine (S1.out _).mono ?_); rintro e w' ⟨rfl, hb9⟩; exact ⟨rfl, Later.on _ hb9⟩)
              | (go_at_call 12; (with_reducible refine (S2.out _).mono ?_); rintro e w' ⟨rfl, hb9⟩; exact ⟨rfl, Later.on _ hb9⟩)
              | (go_at_call 80; (with_reducible refine (U1.out _).mono ?_); rintro e w' ⟨rfl, rfl⟩; exact ⟨rfl, Later.on _ (Below.refl _ _)⟩)
              | (go_at_call 80; (with_reducible refine (U2.out _).mono ?_); rintro e w' ⟨rfl, rfl⟩; exact ⟨rfl, Later.on _ (Below.refl _ _)⟩))))
            refine wpQuiet_nil ?_
            intro w6' hw'
            obtain ⟨⟨y6, hb6⟩, hw''⟩ := hw'
            dsimp only at hw''
            subst hw''
            have HB6 := hid (HW.out.trans (hb6.mono HW.out.size))
            clear hb6 cR cD
            go_wp2_with fail
            exact ⟨⟨k + 1, by omega, by omega, by go_num, by rw [F1.out], HA2, HB6⟩, by simp [intOf]; omega⟩
    · obtain rfl : k = T := by omega
      have hN : NoLoop m (rk l) := HNL.out.2 HA.out
      have HN := hid hN
      have hki : ¬ (k : Int) ≤ ((k - 1 : Nat) : Int) := by omega
      have HBF := hid (HB1.out.trans (HW.out.mono HB1.out.size))
      clear hN
      go_wp2_with fail
      refine (AL.out _).mono ?_
      rintro e w' ⟨rfl, h1⟩
      obtain rfl := h1.symm
      go_wp2_with fail
      go_ret2
      exact ⟨Or.inl ⟨HN.out, rfl⟩, HBF.out⟩
end Go.Proofs.Ythbcnolpjcppoab
