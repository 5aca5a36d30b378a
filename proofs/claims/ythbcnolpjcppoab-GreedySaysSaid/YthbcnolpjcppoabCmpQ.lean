/- slices.Compare. -/
import Derived.Test.YthbcnolpjcppoabPlainAll
import Derived.Test.YthbcnolpjcppoabCmpIQ
namespace Go.Proofs.Ythbcnolpjcppoab
open Go.RowKit

theorem drop_cons {l : List Nat} {k : Nat} (h : k < l.length) : l.drop k = l.getD k 0 :: l.drop (k + 1) := by rw [List.drop_eq_getElem_cons h]; simp [List.getD, h]
theorem cmpI_N (x y : Nat) : cmpI (x : Int) (y : Int) = if x < y then -1 else if y < x then 1 else 0 := by
  unfold cmpI
  by_cases h1 : x < y
  · rw [if_pos h1, if_pos (by omega)]
  · rw [if_neg h1, if_neg (by omega)]
    by_cases h2 : y < x
    · rw [if_pos h2, if_pos (by omega)]
    · rw [if_neg h2, if_neg (by omega)]
set_option maxRecDepth 20000 in
set_option maxHeartbeats 2000000 in
theorem Compare_any (v u : Value) (xs ys : List Nat) (w : World) (h : Ints w v (N xs)) (hu : Ints w u (N ys)) :
    Calls Try.prog 70 #[v, u] w fun e w' => e = .returned (.int .i64 (cmpL xs ys)) ∧ w' = w := by
  obtain ⟨a, cap, rfl, hl, hc⟩ := h.nats
  obtain ⟨b, cap2, rfl, hl2, hc2⟩ := hu.nats
  obtain ⟨Z, HZ⟩ : ∃ Z, Hid (cmpL xs ys = Z) := ⟨_, Eq.refl (cmpL xs ys)⟩
  rw [HZ.out]
  go_enter Try.func70, Try.ntmps70
  go_wp2_with fail
  go_loop [11] (fun i => ∃ k : Nat, k ≤ xs.length ∧ k ≤ ys.length ∧ i = .int .i64 k ∧ Hid (cmpL (xs.drop k) (ys.drop k) = Z)) (fun i => xs.length - (intOf i).toNat)
  case atStart => exact ⟨0, Nat.zero_le _, Nat.zero_le _, rfl, HZ⟩
  case round =>
    obtain ⟨k, hk, hk2, rfl, HK⟩ := hrel
    by_cases hlt : k < xs.length
    · have hki : (k : Int) < (xs.length : Int) := by omega
      obtain ⟨xb, xo, rfl, _, hxc⟩ := hc (by omega)
      have hcx := hxc k hlt
      rw [drop_cons hlt] at HK
      by_cases hlt2 : k < ys.length
      · have hki2 : (k : Int) < (ys.length : Int) := by omega
        have hd2 : decide ((ys.length : Int) ≤ (k : Int)) = false := by simp; omega
        have hd3 : decide (ys.length ≤ k) = false := by simp; omega
        obtain ⟨yb, yo, rfl, _, hyc⟩ := hc2 (by omega)
        have hcy := hyc k hlt2
        rw [drop_cons hlt2] at HK
        have CM := hid (fun w => compare_any ((xs.getD k 0 : Nat) : Int) ((ys.getD k 0 : Nat) : Int) w)
        rw [cmpI_N] at CM
        have HE : Hid (cmpL (xs.getD k 0 :: xs.drop (k + 1)) (ys.getD k 0 :: ys.drop (k + 1)) = if xs.getD k 0 < ys.getD k 0 then -1 else if ys.getD k 0 < xs.getD k 0 then 1 else cmpL (xs.drop (k + 1)) (ys.drop (k + 1))) := by show _ = _; rw [cmpL]
        rw [HE.out] at HK
        clear hxc hyc HE
        generalize xs.getD k 0 = x at *
        generalize ys.getD k 0 = y at *
        by_cases h1 : x < y
        · rw [if_pos h1] at CM HK
          have HKK := hid HK.out.symm
          go_wp2_with fail
          refine (CM.out _).mono ?_
          rintro e w' ⟨rfl, hw'⟩
          obtain rfl := hw'.symm
          go_wp2_with fail
          go_ret
          exact ⟨by rw [HKK.out]; rfl, rfl⟩
        · rw [if_neg h1] at CM HK
          by_cases h2 : y < x
          · rw [if_pos h2] at CM HK
            have HKK := hid HK.out.symm
            go_wp2_with fail
            refine (CM.out _).mono ?_
            rintro e w' ⟨rfl, hw'⟩
            obtain rfl := hw'.symm
            go_wp2_with fail
            go_ret
            exact ⟨by rw [HKK.out]; rfl, rfl⟩
          · rw [if_neg h2] at CM HK
            go_wp2_with fail
            refine (CM.out _).mono ?_
            rintro e w' ⟨rfl, hw'⟩
            obtain rfl := hw'.symm
            go_wp2_with fail
            go_round
            case rel => exact ⟨k + 1, by omega, by omega, by go_num, HK⟩
            case measure => simp [intOf]; omega
      · obtain rfl : k = ys.length := by omega
        rw [List.drop_length] at HK
        have HKK : Hid (Z = 1) := HK.out.symm
        go_wp2_with fail
        go_ret
        exact ⟨by rw [HKK.out]; rfl, rfl⟩
    · obtain rfl : k = xs.length := by omega
      rw [List.drop_length] at HK
      by_cases hlt2 : xs.length < ys.length
      · rw [drop_cons hlt2] at HK
        have HKK : Hid (Z = -1) := HK.out.symm
        have hd2 : decide ((xs.length : Int) < (ys.length : Int)) = true := by simp; omega
        go_wp2_with fail
        go_ret
        exact ⟨by rw [HKK.out]; rfl, rfl⟩
      · have e : ys.drop xs.length = [] := List.drop_of_length_le (by omega)
        rw [e] at HK
        have HKK : Hid (Z = 0) := HK.out.symm
        have hd2 : decide ((xs.length : Int) < (ys.length : Int)) = false := by simp; omega
        have hd3 : decide (xs.length < ys.length) = false := by simp; omega
        go_wp2_with fail
        go_ret
        exact ⟨by rw [HKK.out]; rfl, rfl⟩
end Go.Proofs.Ythbcnolpjcppoab
