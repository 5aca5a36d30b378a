/- Signed sums. -/
import Derived.Test.YtfajbmcdkhgipaaDoorBgNW
namespace Go.Proofs.YtfajbmcdkhgipaaDoor
open Go.RowKit

theorem wd_form2 {w : World} {v : Value} {x : Nat} (h : Wd w v x) : ∃ a n c, v = .slice a n c := h.form
set_option maxRecDepth 20000 in
set_option maxHeartbeats 2000000 in
theorem sum_s (x y : Int) (v u : Value) (w : World) (hv : Wd w v x.natAbs) (hu : Wd w u y.natAbs) (hb : x.natAbs + y.natAbs < 4294967296) :
    Calls Tryd.prog 37 #[.bool (decide (x < 0)), v, .bool (decide (y < 0)), u] w fun e w' => ∃ nb a n c, e = .returned (.tuple #[.bool nb, .slice a n c]) ∧ Wd w' (.slice a n c) (x + y).natAbs ∧ decide (x + y < 0) = (nb && decide (x + y ≠ 0)) ∧ Below w.heap.size w w' := by
  have AD := hid' (add_any _ _ v u w hv hu hb)
  have CP := hid' (cmp_any _ _ v u w hv hu)
  have S1 : Hid (y.natAbs ≤ x.natAbs → ∀ W, Below w.heap.size w W → Calls Tryd.prog 49 #[v, u] W fun e w' => ∃ t, e = .returned t ∧ Wd w' t (x.natAbs - y.natAbs) ∧ Below w.heap.size w w') := fun h W hW => (sub_any _ _ v u W (hv.below hW) (hu.below hW) h).mono fun e w' ⟨t, h1, h2, h3⟩ => ⟨t, h1, h2, hW.trans (h3.mono hW.size)⟩
  have S2 : Hid (x.natAbs ≤ y.natAbs → ∀ W, Below w.heap.size w W → Calls Tryd.prog 49 #[u, v] W fun e w' => ∃ t, e = .returned t ∧ Wd w' t (y.natAbs - x.natAbs) ∧ Below w.heap.size w w') := fun h W hW => (sub_any _ _ u v W (hu.below hW) (hv.below hW) h).mono fun e w' ⟨t, h1, h2, h3⟩ => ⟨t, h1, h2, hW.trans (h3.mono hW.size)⟩
  obtain ⟨va, vn, vc, rfl⟩ := hv.form
  obtain ⟨ua, un, uc, rfl⟩ := hu.form
  clear hv hu
  by_cases hx : x < 0
  · have hxd : decide (x < 0) = true := by simpa using hx
    rw [hxd]
    by_cases hy : y < 0
    · have hyd : decide (y < 0) = true := by simpa using hy
      rw [hyd]
      have e1 : x.natAbs + y.natAbs = (x + y).natAbs := by omega
      have e2 : decide (x + y < 0) = (true && decide (x + y ≠ 0)) := by
        have h1 : x + y < 0 := by omega
        have h2 : x + y ≠ 0 := by omega
        simp [h1, h2]
      rw [e1] at AD
      have E2 := hid' e2
      clear hx hy hxd hyd e1 e2 S1 S2 CP hb
      go_enter Tryd.func37, Tryd.ntmps37
      go_wp2_with fail
      refine AD.out.mono ?_
      rintro e w1 ⟨t, rfl, ht, hb1⟩
      obtain ⟨ta, tn, tc, rfl⟩ := ht.form
      have T := hid' ht
      have B := hid' hb1
      clear ht hb1 AD
      go_wp2_with fail
      exact bodyPost_ret (results_tmp2 rfl _ _ _) rfl ⟨_, _, _, _, rfl, T.out, E2.out, B.out⟩
    · have hyd : decide (y < 0) = false := by simpa using hy
      rw [hyd]
      by_cases hc : y.natAbs ≤ x.natAbs
      · have hcr : 0 ≤ cmpR x.natAbs y.natAbs := by unfold cmpR; split <;> (try split) <;> omega
        have e1 : x.natAbs - y.natAbs = (x + y).natAbs := by omega
        have e2 : decide (x + y < 0) = (true && decide (x + y ≠ 0)) := by rw [Bool.eq_iff_iff]; simp; omega
        have C := hid' (S1.out hc)
        rw [e1] at C
        have E2 := hid' e2
        generalize cmpR x.natAbs y.natAbs = q at *
        have hq : decide (0 ≤ q) = true := by simpa using hcr
        clear hx hy hxd hyd e1 e2 S1 S2 AD hb hc
        go_enter Tryd.func37, Tryd.ntmps37
        go_wp2_with fail
        refine CP.out.mono ?_
        rintro e w0 ⟨rfl, hb0⟩
        have C0 := hid' (C.out _ hb0)
        clear C hb0 CP
        go_wp2_with fail
        refine C0.out.mono ?_
        rintro e w1 ⟨t, rfl, ht, hb1⟩
        obtain ⟨ta, tn, tc, rfl⟩ := ht.form
        have T := hid' ht
        have B := hid' hb1
        clear ht hb1 C0
        go_wp2_with fail
        exact bodyPost_ret (results_tmp2 rfl _ _ _) rfl ⟨_, _, _, _, rfl, T.out, E2.out, B.out⟩
      · have hcr : ¬ 0 ≤ cmpR x.natAbs y.natAbs := by unfold cmpR; split <;> (try split) <;> omega
        have e1 : y.natAbs - x.natAbs = (x + y).natAbs := by omega
        have e2 : decide (x + y < 0) = (false && decide (x + y ≠ 0)) := by rw [Bool.eq_iff_iff]; simp; omega
        have C := hid' (S2.out (by omega))
        rw [e1] at C
        have E2 := hid' e2
        generalize cmpR x.natAbs y.natAbs = q at *
        have hq : decide (0 ≤ q) = false := by simpa using hcr
        clear hx hy hxd hyd e1 e2 S1 S2 AD hb hc
        go_enter Tryd.func37, Tryd.ntmps37
        go_wp2_with fail
        refine CP.out.mono ?_
        rintro e w0 ⟨rfl, hb0⟩
        have C0 := hid' (C.out _ hb0)
        clear C hb0 CP
        go_wp2_with fail
        refine C0.out.mono ?_
        rintro e w1 ⟨t, rfl, ht, hb1⟩
        obtain ⟨ta, tn, tc, rfl⟩ := ht.form
        have T := hid' ht
        have B := hid' hb1
        clear ht hb1 C0
        go_wp2_with fail
        exact bodyPost_ret (results_tmp2 rfl _ _ _) rfl ⟨_, _, _, _, rfl, T.out, E2.out, B.out⟩
  · have hxd : decide (x < 0) = false := by simpa using hx
    rw [hxd]
    by_cases hy : y < 0
    · have hyd : decide (y < 0) = true := by simpa using hy
      rw [hyd]
      by_cases hc : y.natAbs ≤ x.natAbs
      · have hcr : 0 ≤ cmpR x.natAbs y.natAbs := by unfold cmpR; split <;> (try split) <;> omega
        have e1 : x.natAbs - y.natAbs = (x + y).natAbs := by omega
        have e2 : decide (x + y < 0) = (false && decide (x + y ≠ 0)) := by rw [Bool.eq_iff_iff]; simp; omega
        have C := hid' (S1.out hc)
        rw [e1] at C
        have E2 := hid' e2
        generalize cmpR x.natAbs y.natAbs = q at *
        have hq : decide (0 ≤ q) = true := by simpa using hcr
        clear hx hy hxd hyd e1 e2 S1 S2 AD hb hc
        go_enter Tryd.func37, Tryd.ntmps37
        go_wp2_with fail
        refine CP.out.mono ?_
        rintro e w0 ⟨rfl, hb0⟩
        have C0 := hid' (C.out _ hb0)
        clear C hb0 CP
        go_wp2_with fail
        refine C0.out.mono ?_
        rintro e w1 ⟨t, rfl, ht, hb1⟩
        obtain ⟨ta, tn, tc, rfl⟩ := ht.form
        have T := hid' ht
        have B := hid' hb1
        clear ht hb1 C0
        go_wp2_with fail
        exact bodyPost_ret (results_tmp2 rfl _ _ _) rfl ⟨_, _, _, _, rfl, T.out, E2.out, B.out⟩
      · have hcr : ¬ 0 ≤ cmpR x.natAbs y.natAbs := by unfold cmpR; split <;> (try split) <;> omega
        have e1 : y.natAbs - x.natAbs = (x + y).natAbs := by omega
        have e2 : decide (x + y < 0) = (true && decide (x + y ≠ 0)) := by rw [Bool.eq_iff_iff]; simp; omega
        have C := hid' (S2.out (by omega))
        rw [e1] at C
        have E2 := hid' e2
        generalize cmpR x.natAbs y.natAbs = q at *
        have hq : decide (0 ≤ q) = false := by simpa using hcr
        clear hx hy hxd hyd e1 e2 S1 S2 AD hb hc
        go_enter Tryd.func37, Tryd.ntmps37
        go_wp2_with fail
        refine CP.out.mono ?_
        rintro e w0 ⟨rfl, hb0⟩
        have C0 := hid' (C.out _ hb0)
        clear C hb0 CP
        go_wp2_with fail
        refine C0.out.mono ?_
        rintro e w1 ⟨t, rfl, ht, hb1⟩
        obtain ⟨ta, tn, tc, rfl⟩ := ht.form
        have T := hid' ht
        have B := hid' hb1
        clear ht hb1 C0
        go_wp2_with fail
        exact bodyPost_ret (results_tmp2 rfl _ _ _) rfl ⟨_, _, _, _, rfl, T.out, E2.out, B.out⟩
    · have hyd : decide (y < 0) = false := by simpa using hy
      rw [hyd]
      have e1 : x.natAbs + y.natAbs = (x + y).natAbs := by omega
      have e2 : decide (x + y < 0) = (false && decide (x + y ≠ 0)) := by
        have h1 : ¬ x + y < 0 := by omega
        simp [h1]
      rw [e1] at AD
      have E2 := hid' e2
      clear hx hy hxd hyd e1 e2 S1 S2 CP hb
      go_enter Tryd.func37, Tryd.ntmps37
      go_wp2_with fail
      refine AD.out.mono ?_
      rintro e w1 ⟨t, rfl, ht, hb1⟩
      obtain ⟨ta, tn, tc, rfl⟩ := ht.form
      have T := hid' ht
      have B := hid' hb1
      clear ht hb1 AD
      go_wp2_with fail
      exact bodyPost_ret (results_tmp2 rfl _ _ _) rfl ⟨_, _, _, _, rfl, T.out, E2.out, B.out⟩
end Go.Proofs.YtfajbmcdkhgipaaDoor
