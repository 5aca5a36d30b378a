/- Contracts of rotalaw.bad, rotaref.IsSet, rotaref.IsFamily, rotalaw.list. -/
import Derived.Test.YtokdldnbanpgbaaThoseQ
namespace Go.Proofs.Ytokdldnbanpgbaa
open Go.RowKit

theorem bad_yes (e : Int) (w : World) : Calls Try.prog 4 #[.bool true, .int .i64 e] w fun r w' => r = .returned (.int .i64 0) ∧ w' = w := by
  go_enter Try.func4, Try.ntmps4
  go_wp2
  go_ret
  exact ⟨rfl, rfl⟩
theorem bad_no (e : Int) (w : World) : Calls Try.prog 4 #[.bool false, .int .i64 e] w fun r w' => r = .returned (.int .i64 e) ∧ w' = w := by
  go_enter Try.func4, Try.ntmps4
  go_wp2
  go_ret
  exact ⟨rfl, rfl⟩

/-- Is s a set of n elements? -/
def setB (n s : Int) : Bool := decide (0 ≤ n ∧ n ≤ 8 ∧ 0 ≤ s ∧ s < 2 ^ n.toNat)
theorem IsSet_any (n s : Int) (w : World) :
    Calls Try.prog 6 #[.int .i64 n, .int .i64 s] w fun e w' => e = .returned (.bool (setB n s)) ∧ w' = w := by
  by_cases h0 : 0 ≤ n
  · obtain ⟨m, rfl⟩ := Int.eq_ofNat_of_zero_le h0
    by_cases h1 : m ≤ 8
    · have e2 : ((2 ^ m : Nat) : Int) = (2 : Int) ^ m := by simp
      by_cases h2 : 0 ≤ s
      · obtain ⟨T, HT⟩ : ∃ T : Nat, Hid (T = 2 ^ m) := ⟨_, rfl⟩
        have HA := hid (fun w => All_any m w h1)
        rw [← HT.out] at HA
        have F : Hid (setB m s = decide (s ≤ (T : Int) - 1)) := by
          show setB m s = _
          unfold setB
          rw [HT.out, e2, decide_eq_decide, Int.toNat_natCast]
          omega
        clear e2
        go_enter Try.func6, Try.ntmps6
        go_wp2_with fail
        refine (HA.out _).mono ?_
        rintro e w1 ⟨rfl, rfl⟩
        go_wp2_with fail
        go_ret
        exact ⟨ret_bool F.out.symm, rfl⟩
      · have F : Hid (setB m s = false) := by show setB m s = false; unfold setB; rw [decide_eq_false_iff_not]; omega
        have h3 : decide (0 ≤ s) = false := by simpa using h2
        clear e2
        go_enter Try.func6, Try.ntmps6
        go_wp2_with fail
        go_ret
        exact ⟨ret_bool F.out.symm, rfl⟩
    · have F : Hid (setB m s = false) := by show setB m s = false; unfold setB; rw [decide_eq_false_iff_not]; omega
      have h3 : decide ((m : Int) ≤ 8) = false := by simp; omega
      have h4 : decide (m ≤ 8) = false := by simpa using h1
      go_enter Try.func6, Try.ntmps6
      go_wp2_with fail
      go_ret
      exact ⟨ret_bool F.out.symm, rfl⟩
  · have F : Hid (setB n s = false) := by show setB n s = false; unfold setB; rw [decide_eq_false_iff_not]; omega
    have h3 : decide (0 ≤ n) = false := by simpa using h0
    go_enter Try.func6, Try.ntmps6
    go_wp2_with fail
    go_ret
    exact ⟨ret_bool F.out.symm, rfl⟩

def famB (n : Int) (zs : List Int) : Bool := famR n zs == 0
theorem famB_step {n : Nat} {zs : List Int} {T : Int} (hn : n ≤ 8) (hT : T = 2 ^ n) (k : Nat) (R : risesB T (-1) zs = risesB T (lastB zs k) (zs.drop k)) :
    famB n zs = risesB T (lastB zs k) (zs.drop k) := by
  unfold famB
  rw [famR_step hn hT k R]
  cases risesB T (lastB zs k) (zs.drop k) <;> rfl

theorem list_bad (w : World) (a : Value) (e : Int) (ha : a = .slice none 0 0) (he : (e != 0) = true) (v : Value) :
    Calls Try.prog 12 #[a, .int .i64 e, v, .int .i64 e] w fun r w' => r = .returned (.bool true) ∧ w' = w := by
  subst ha
  have h2 : (e == e) = true := by simp
  go_enter Try.func12, Try.ntmps12
  go_wp2_with fail
  go_ret
  exact ⟨rfl, rfl⟩
theorem list_good (w : World) (u v : Value) (zs : List Int) (h1 : Ints w u zs) (h2 : Ints w v zs) :
    Calls Try.prog 12 #[u, .int .i64 0, v, .int .i64 0] w fun r w' => r = .returned (.bool true) ∧ Below w.heap.size w w' := by
  have HS := hid (Same_any u v zs zs w h1 h2)
  rw [decide_eq_true rfl] at HS
  obtain ⟨a, cap, hv, -⟩ := h1
  obtain ⟨a2, cap2, hv2, -⟩ := h2
  subst hv hv2
  go_enter Try.func12, Try.ntmps12
  go_wp2_with fail
  refine HS.out.mono ?_
  rintro e w1 ⟨rfl, hb⟩
  go_wp2_with fail
  go_ret
  exact ⟨rfl, hb⟩
end Go.Proofs.Ytokdldnbanpgbaa
