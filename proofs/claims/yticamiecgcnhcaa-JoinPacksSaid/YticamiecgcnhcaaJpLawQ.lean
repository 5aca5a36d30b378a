/- The law rotakeep.JoinPacks. -/
import Derived.Test.YticamiecgcnhcaaWkDQ
import Derived.Test.YticamiecgcnhcaaThoseQ
import Derived.Test.YticamiecgcnhcaaGrBQ
namespace Go.Proofs.Yticamiecgcnhcaa
open Go.RowKit

theorem two_pk : Pk 4 twoL 2 := ⟨by omega, two_fam, two_bas, by decide +kernel, by omega⟩
theorem two_pack : packL 4 twoL = [3, 12] := by decide +kernel
set_option maxRecDepth 100000 in
set_option maxHeartbeats 4000000 in
theorem jpacks_law (n : Int) (v : Value) (zs : List Int) (w : World) (h : Ints w v zs) :
    Calls Try.prog 5 #[.agg #[.int .i64 n, v]] w fun e w' => e = .returned (.bool true) ∧ Below w.heap.size w w' := by
  have B0 := below_box w #[.int .i64 n, v]
  have HV0 := hid (h.below B0)
  obtain ⟨a0, cap, rfl, -, -⟩ := h
  go_enter Try.func5, Try.ntmps5
  go_wp2_with fail
  refine (two_any _).mono ?_
  rintro e w1 ⟨v1, rfl, hi1, hb1⟩
  have CV := hid (Pack_ok 4 2 v1 twoL w1 two_pk hi1)
  go_wp2_with fail
  refine CV.out.mono ?_
  rintro e wa ⟨v2, rfl, ho2, hba⟩
  obtain ⟨b2, c2, hv⟩ := ownsRow_form' ho2
  subst hv
  rw [two_pack] at ho2
  rw [two_pack]
  have hbl : Below wa.heap.size wa (wa.alloc (.cells #[.int .i64 3, .int .i64 12] 3)) := (Below.refl _ _).alloc (Nat.le_refl _) _
  have SM := hid (Same_any _ _ (N [3, 12]) (N [3, 12]) _ ((ho2.ints (by decide)).below hbl) (litsAt wa [3, 12]))
  rw [decide_eq_true (p := N [3, 12] = N [3, 12]) rfl] at SM
  go_wp2_with fail
  refine SM.out.mono ?_
  rintro e w2 ⟨rfl, hb2⟩
  have hb1a := hb1.trans (hba.mono hb1.size)
  have hb1l := hb1a.trans (hbl.mono hb1a.size)
  have hb12 := hb1l.trans (hb2.mono hb1l.size)
  obtain ⟨z0, z1⟩ := box_cells hb12
  have HB2 := hid (B0.trans (hb12.mono B0.size))
  have HV2 := hid (HV0.out.below hb12)
  have hs2 := hb12.size
  rw [World.size_alloc] at hs2
  clear hb1 hb2 hba hbl hb1a hb1l hb12 hi1 ho2 CV B0 HV0 SM
  by_cases hq : ranQ n zs = 0
  · obtain ⟨m, l, rfl, hm, rfl, hf, hb, hP⟩ := ranQ_of hq
    clear hq
    rw [N_len] at *
    have C1 := hid (Pack_ok m _ _ l w2 hP HV2.out)
    go_wp2_with fail
    refine C1.out.mono ?_
    rintro e w3 ⟨v3, rfl, ho3, hb3⟩
    obtain ⟨b3, c3, hv⟩ := ownsRow_form' ho3
    subst hv
    have HO3 := hid ho3
    have y0 := (hb3.cell (p := ⟨w.heap.size, 0, none⟩) (by show w.heap.size < _; omega)).trans z0
    have y1 := (hb3.cell (p := ⟨w.heap.size, 1, none⟩) (by show w.heap.size < _; omega)).trans z1
    have HB3 := hid (HB2.out.trans (hb3.mono HB2.out.size))
    have HV3 := hid (HV2.out.below hb3)
    have hs3 : w.heap.size + 1 ≤ w3.heap.size := Nat.le_trans hs2 hb3.size
    have D1 := hid (Weak_ok m _ _ l w3 hP HV3.out)
    clear hb3 ho3 z0 z1 C1 HV2 HB2 hs2
    go_wp2_with fail
    refine D1.out.mono ?_
    rintro e w4 ⟨rfl, hb4⟩
    have HO4 := hid (HO3.out.below hb4)
    have x0 := (hb4.cell (p := ⟨w.heap.size, 0, none⟩) (by show w.heap.size < _; omega)).trans y0
    have x1 := (hb4.cell (p := ⟨w.heap.size, 1, none⟩) (by show w.heap.size < _; omega)).trans y1
    have HB4 := hid (HB3.out.trans (hb4.mono HB3.out.size))
    have HV4 := hid (HV3.out.below hb4)
    have hs4 : w.heap.size + 1 ≤ w4.heap.size := Nat.le_trans hs3 hb4.size
    have R1 := hid (Ranks_ok m _ l w4 hm hf hb HV4.out)
    clear hb4 HO3 y0 y1 D1 HV3 HB3 hs3
    go_wp2_with fail
    refine R1.out.mono ?_
    rintro e w5 ⟨r5, rfl, hr5, hb5⟩
    have HR5 := hid hr5
    obtain ⟨rb, roff, rcap, rfl, -, -⟩ := hr5
    have HO5 := hid (HO4.out.below hb5)
    have y0 := (hb5.cell (p := ⟨w.heap.size, 0, none⟩) (by show w.heap.size < _; omega)).trans x0
    have y1 := (hb5.cell (p := ⟨w.heap.size, 1, none⟩) (by show w.heap.size < _; omega)).trans x1
    have HV5 := hid (HV4.out.below hb5)
    have HB5 := hid (HB4.out.trans (hb5.mono HB4.out.size))
    have hs5 : w.heap.size + 1 ≤ w5.heap.size := Nat.le_trans hs4 hb5.size
    clear hb5 HO4 x0 x1 R1 HV4 HB4 hs4
    have HPA : Hid (∀ j, j < (packL m l).length → _) := fun j hj => pack_parts hP hj
    have hA0 : pkA m l 0 = 0 := Nat.eq_of_testBit_eq fun i => by unfold pkA restF; rw [dif_bit]; cases (2 ^ m - 1).testBit i <;> simp
    have HA0 := hid hA0
    have HAL : Hid (∀ j, pkA m l j < 256) := fun j => lt256 hm (difn_lt (full_lt m))
    have hc9 : (packL m l).length ≤ 9 := takeF_len_le _ 9 _
    have HK := hid (rk_small hm hf)
    have HWI := hid (weak_is hP)
    have hfull := full_lt m
    have HPM : Hid (∀ t, t < 2 ^ m → pop t ≤ m) := fun t ht => by
      have := pop_sub (full_sub ht)
      rwa [pop_fuln m hm] at this
    have hl8 := hf.lt256 hm
    obtain ⟨T, HT, hT2, hT1⟩ : ∃ T : Nat, Hid (2 ^ m = T) ∧ T ≤ 256 ∧ 1 ≤ T := ⟨2 ^ m, Eq.refl (2 ^ m), (pow_wrap _ hm).2, Nat.one_le_two_pow⟩
    rw [HT.out] at HR5 HWI hfull HPM
    rw [HT.out]
    obtain ⟨A, HA⟩ : ∃ A : Nat → Nat, Hid (pkA m l = A) := ⟨_, rfl⟩
    rw [HA.out] at HPA HA0 HAL
    generalize packL m l = L at *
    generalize (weS m (rk l) T).1 = d at *
    have hHO : Hid (0 < L.length → ∃ ob ooff, b3 = some ⟨ob, ooff, none⟩ ∧ ob < w5.heap.size ∧ ∀ i, i < L.length → w5.cell? ⟨ob, ooff + i, none⟩ = some (.int .i64 (L.getD i 0 : Nat))) := by
      obtain ⟨oa', oc', he, _, hco⟩ := (HO5.out.ints (by omega)).nats
      injection he with h1 h2 h3
      subst h1
      exact hco
    clear hA0 HA hP
    go_wp2_with fail
    go_loopw [11, 65] (fun u i wr => ∃ k : Nat, k ≤ L.length ∧ i = .int .i64 k ∧ u = .int .i64 (A k : Nat) ∧ Hid (Below w5.heap.size w5 wr)) (fun _ i _ => L.length - (intOf i).toNat)
    case atStart => exact ⟨0, Nat.zero_le _, rfl, by rw [HA0.out]; rfl, Below.refl _ _⟩
    case round =>
      obtain ⟨k, hk, rfl, rfl, HW⟩ := hrel
      by_cases hlt : k < L.length
      · obtain ⟨ob, ooff, rfl, hob, hoc⟩ := hHO.out (by omega)
        have hck := (HW.out.cell (p := ⟨ob, ooff + k, none⟩) hob).trans (hoc k hlt)
        obtain ⟨p1, p2, p4⟩ := HPA.out k hlt
        have hA1 := HAL.out k
        have c1 := (HW.out.cell (p := ⟨w.heap.size, 1, none⟩) (by show w.heap.size < _; omega)).trans y1
        clear hoc
        generalize L.getD k 0 = x at *
        have hx8 := hl8 x p1
        have CT := hid (ContainsZ_any _ (N l) x wr (HV5.out.below HW.out))
        rw [memZ_N x l, show memB x l = true from by unfold memB; exact decide_eq_true p1] at CT
        have hand : bits .and .i64 (A k : Int) (x : Int) = 0 := by
          rw [i64_and_nat (A k) x (by omega) (by omega), p2]
          rfl
        have hor : bits .or .i64 (A k : Int) (x : Int) = (A (k + 1) : Int) := by
          rw [i64_or_nat (A k) x (by omega) (by omega), p4]
        have hki : (k : Int) < (L.length : Int) := by omega
        clear p2 p4 p1
        go_wp2_with fail
        refine CT.out.mono ?_
        rintro e w' ⟨rfl, rfl⟩
        go_wp2_with fail
        go_roundw
        case rel => exact ⟨k + 1, by omega, by go_num, rfl, HW⟩
        case measure => simp [intOf]; omega
      · obtain rfl : k = L.length := by omega
        have c0 := (HW.out.cell (p := ⟨w.heap.size, 0, none⟩) (by show w.heap.size < _; omega)).trans y0
        have HBF := hid (HB5.out.trans (HW.out.mono HB5.out.size))
        obtain ⟨dT, dR, dL⟩ := HWI.out
        have cell : ∀ (y : Later wr) (i : Nat), i < T → y.now.cell? ⟨rb, roff + i, none⟩ = some (.int .i64 (rk l i : Nat)) := fun y i hi => by
          obtain ⟨b', off', cp', e, h1, h2⟩ := HR5.out.below (HW.out.trans (y.kept.mono HW.out.size))
          obtain ⟨⟨rfl, rfl⟩, rfl⟩ : (rb = b' ∧ roff = off') ∧ rcap = cp' := by simpa using e
          exact h2 i hi
        have cR : ∀ y : Later wr, y.now.cell? ⟨rb, roff + d, none⟩ = some (.int .i64 (rk l d : Nat)) := fun y => cell y d dT
        have cF : ∀ y : Later wr, y.now.cell? ⟨rb, roff + (T - 1), none⟩ = some (.int .i64 (rk l (T - 1) : Nat)) := fun y => cell y (T - 1) hfull
        have cN : ∀ y : Later wr, y.now.cell? ⟨w.heap.size, 0, none⟩ = some (.int .i64 m) := fun y => (y.kept.cell (p := ⟨w.heap.size, 0, none⟩) (World.block_lt_of_cell? wr _ c0)).trans c0
        have SZ := hid (fun w' => Size_any d w' (by omega))
        have AL := hid (fun w' => All_any m w' hm)
        rw [HT.out] at AL
        have hTT : (T : Int) - 1 = ((T - 1 : Nat) : Int) := by omega
        rw [hTT] at AL
        have hpm := HPM.out d dT
        have hk8 := HK.out (T - 1)
        obtain ⟨q, hq, hq2⟩ : ∃ q : Nat, ((m : Int) - (pop d : Nat)) / ((rk l (T - 1) : Nat) - (rk l d : Nat) : Int) = (q : Int) ∧ L.length = q := by
          refine ⟨L.length, ?_, rfl⟩
          rw [dL, Int.natCast_ediv]
          congr 1 <;> omega
        clear dL cell
        generalize pop d = y at *
        generalize rk l d = z at *
        generalize rk l (T - 1) = R at *
        generalize T - 1 = fm at *
        have dR' : (z : Int) < (R : Int) := by omega
        have hx0 : ¬ ((R : Int) - (z : Int)) = 0 := by omega
        have hx0' : (((R : Int) - (z : Int)) == 0) = false := by rw [beq_eq_false_iff_ne]; omega
        have dT' : (d : Int) < (T : Int) := by omega
        have fT' : (fm : Int) < (T : Int) := by omega
        have hq8 : q ≤ 9 := by omega
        have hql : ((L.length : Int) == (q : Int)) = true := by rw [hq2]; simp
        go_wp2_with fail
        refine (AL.out _).mono ?_
        rintro e w' ⟨rfl, h1⟩
        obtain rfl := h1.symm
        go_wp2_with fail
        refine region_later (by kernel_rfl) (by kernel_rfl) ?_
        repeat (go_big_quiet_step ((go_at_call 12; refine (SZ.out _).mono ?_; rintro e w' ⟨rfl, hb9⟩; exact ⟨rfl, Later.on _ hb9⟩)))
        refine wpQuiet_nil ?_
        intro w6' hw'
        obtain ⟨⟨y6, hb6⟩, hw''⟩ := hw'
        dsimp only at hw''
        subst hw''
        have HB6 := hid (HBF.out.trans (hb6.mono HBF.out.size))
        clear hb6 cR cN cF
        go_wp2_with fail
        go_ret
        exact ⟨ret_bool (by simp), HB6.out⟩
  · have C1 := hid (Pack_bad n _ zs w2 HV2.out hq)
    have D1 := hid (fun w' (hb' : Below w2.heap.size w2 w') => Weak_bad n _ zs w' (HV2.out.below hb') hq)
    generalize ranQ n zs = q at *
    have hq' : (q == 0) = false := by rw [beq_eq_false_iff_ne]; exact hq
    go_wp2_with fail
    refine C1.out.mono ?_
    rintro e w3 ⟨rfl, hb3⟩
    have y0 := (hb3.cell (p := ⟨w.heap.size, 0, none⟩) (by show w.heap.size < _; omega)).trans z0
    have y1 := (hb3.cell (p := ⟨w.heap.size, 1, none⟩) (by show w.heap.size < _; omega)).trans z1
    have D2 := hid (D1.out w3 hb3)
    have HB3 := hid (HB2.out.trans (hb3.mono HB2.out.size))
    clear hb3 z0 z1 D1 C1
    go_wp2_with fail
    refine D2.out.mono ?_
    rintro e w4 ⟨rfl, hb4⟩
    have HB4 := hid (HB3.out.trans (hb4.mono HB3.out.size))
    clear hb4
    go_wp2_with fail
    go_ret
    exact ⟨ret_bool (by simp), HB4.out⟩
end Go.Proofs.Yticamiecgcnhcaa
