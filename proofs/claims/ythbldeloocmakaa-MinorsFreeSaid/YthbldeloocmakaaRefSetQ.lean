/- rotaref.All, IsSet. -/
import Derived.Test.YthbldeloocmakaaRefQ
import Derived.Test.YthbldeloocmakaaRefShfQ
import Derived.Test.YthbldeloocmakaaPlainAll
namespace Go.Proofs.Ythbldeloocmakaa
open Go.RowKit

theorem All_any (n : Nat) (w : World) (hn : n ≤ 8) :
    Calls Try.prog 42 #[.int .i64 n] w fun e w' => e = .returned (.int .i64 (((2 ^ n : Nat) : Int) - 1)) ∧ w' = w := by
  obtain ⟨T, hT, HT, hT2⟩ : ∃ T : Nat, wrap64 (2 ^ n) = (T : Int) ∧ Hid (T = 2 ^ n) ∧ T ≤ 256 := ⟨2 ^ n, (pow_wrap _ hn).1, rfl, (pow_wrap _ hn).2⟩
  have h1 : 1 ≤ T := by rw [HT.out]; exact Nat.one_le_two_pow
  go_enter Try.func42, Try.ntmps42
  go_wp2
  go_ret
  exact ⟨ret_int (by rw [← HT.out]), rfl⟩

/-- Is s a set of n elements? -/
def setB (n s : Int) : Bool := decide (0 ≤ n ∧ n ≤ 8 ∧ 0 ≤ s ∧ s < 2 ^ n.toNat)
theorem IsSet_any (n s : Int) (w : World) :
    Calls Try.prog 16 #[.int .i64 n, .int .i64 s] w fun e w' => e = .returned (.bool (setB n s)) ∧ w' = w := by
  by_cases h0 : 0 ≤ n
  · obtain ⟨m, rfl⟩ := Int.eq_ofNat_of_zero_le h0
    by_cases h1 : m ≤ 8
    · have e2 : ((2 ^ m : Nat) : Int) = (2 : Int) ^ m := by simp
      by_cases h2 : 0 ≤ s
      · obtain ⟨T, HT⟩ : ∃ T : Nat, Hid (T = 2 ^ m) := ⟨_, rfl⟩
        have HA := hid (fun w => All_any m w h1)
        rw [← HT.out] at HA
        have F : Hid (setB m s = decide (s ≤ (T : Int) - 1)) := by
          show setB m s = _
          unfold setB
          rw [HT.out, e2, decide_eq_decide, Int.toNat_natCast]
          omega
        clear e2
        go_enter Try.func16, Try.ntmps16
        go_wp2_with fail
        refine (HA.out _).mono ?_
        rintro e w1 ⟨rfl, rfl⟩
        go_wp2_with fail
        go_ret
        exact ⟨ret_bool F.out.symm, rfl⟩
      · have F : Hid (setB m s = false) := by show setB m s = false; unfold setB; rw [decide_eq_false_iff_not]; omega
        have h3 : decide (0 ≤ s) = false := by simpa using h2
        clear e2
        go_enter Try.func16, Try.ntmps16
        go_wp2_with fail
        go_ret
        exact ⟨ret_bool F.out.symm, rfl⟩
    · have F : Hid (setB m s = false) := by show setB m s = false; unfold setB; rw [decide_eq_false_iff_not]; omega
      have h3 : decide ((m : Int) ≤ 8) = false := by simp; omega
      have h4 : decide (m ≤ 8) = false := by simpa using h1
      go_enter Try.func16, Try.ntmps16
      go_wp2_with fail
      go_ret
      exact ⟨ret_bool F.out.symm, rfl⟩
  · have F : Hid (setB n s = false) := by show setB n s = false; unfold setB; rw [decide_eq_false_iff_not]; omega
    have h3 : decide (0 ≤ n) = false := by simpa using h0
    go_enter Try.func16, Try.ntmps16
    go_wp2_with fail
    go_ret
    exact ⟨ret_bool F.out.symm, rfl⟩
end Go.Proofs.Ythbldeloocmakaa
