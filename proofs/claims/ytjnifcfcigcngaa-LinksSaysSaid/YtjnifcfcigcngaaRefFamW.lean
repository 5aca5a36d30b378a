/- Contracts over a function value: rotaref.Those; for whatever function answers as p does. rotaref.All, Has; slices.Index, Contains at []int. -/
import Derived.Test.YtjnifcfcigcngaaRefQ
import Derived.Test.YtjnifcfcigcngaaSieveQ
namespace Go.Proofs.Ytjnifcfcigcngaa
open Go.RowKit

theorem pow_less : ∀ n : Nat, n ≤ 8 → wrap64 (wrap64 (2 ^ n) - 1) = ((2 ^ n : Nat) : Int) - 1 := by decide +kernel
theorem pow_less' : ∀ n : Nat, n ≤ 8 → IntKind.i64.wrap (wrap64 (2 ^ n) - 1) = ((2 ^ n : Nat) : Int) - 1 := by decide +kernel
theorem All_any (n : Nat) (w : World) (hn : n ≤ 8) :
    Calls Try.prog 15 #[.int .i64 n] w fun e w' => e = .returned (.int .i64 (((2 ^ n : Nat) : Int) - 1)) ∧ w' = w := by
  obtain ⟨T, hT, HT, hT2⟩ : ∃ T : Nat, wrap64 (2 ^ n) = (T : Int) ∧ Hid (T = 2 ^ n) ∧ T ≤ 256 := ⟨2 ^ n, (pow_wrap _ hn).1, rfl, (pow_wrap _ hn).2⟩
  have h1 : 1 ≤ T := by rw [HT.out]; exact Nat.one_le_two_pow
  go_enter Try.func15, Try.ntmps15
  go_wp2
  go_ret
  exact ⟨ret_int (by rw [← HT.out]), rfl⟩

set_option maxRecDepth 20000 in
set_option maxHeartbeats 800000 in
theorem Index_any (v : Value) (l : List Nat) (x : Nat) (w : World) (h : Ints w v (N l)) :
    Calls Try.prog 39 #[v, .int .i64 x] w fun e w' => ∃ r : Int, e = .returned (.int .i64 r) ∧ decide (0 ≤ r) = memB x l ∧ w' = w := by
  obtain ⟨a, cap, rfl, hlen, hc⟩ := h.nats
  clear h
  go_enter Try.func39, Try.ntmps39
  go_wp2_with fail
  go_loop [8] (fun i => ∃ k : Nat, k ≤ l.length ∧ i = .int .i64 k ∧ Hid (x ∈ l ↔ x ∈ l.drop k)) (fun i => l.length - (intOf i).toNat)
  case atStart => exact ⟨0, Nat.zero_le _, rfl, Iff.rfl⟩
  case round =>
    obtain ⟨k, hk, rfl, R⟩ := hrel
    by_cases hlt : k < l.length
    · obtain ⟨b, off, rfl, hb, hcell⟩ := hc (by omega)
      have hck := hcell k hlt
      have D : Hid (l.drop k = l.getD k 0 :: l.drop (k + 1)) := by
        show l.drop k = _
        rw [List.drop_eq_getElem_cons hlt]; simp [List.getD, hlt]
      clear hcell hc
      generalize l.getD k 0 = y at *
      by_cases hxy : x = y
      · have hxy' : ((x : Int) == (y : Int)) = true := by rw [hxy]; simp
        have F : Hid (memB x l = true) := by
          show decide (x ∈ l) = true
          rw [decide_eq_true_iff, R.out, D.out, hxy]; simp
        clear hxy
        go_wp2_with fail
        go_ret
        exact ⟨_, rfl, by rw [F.out]; simp, rfl⟩
      · have hxy' : ((x : Int) == (y : Int)) = false := by rw [beq_eq_false_iff_ne]; omega
        go_wp2_with fail
        go_round
        case rel => exact ⟨k + 1, by omega, by go_num, by show x ∈ l ↔ _; rw [R.out, D.out]; simp [hxy]⟩
        case measure => simp [intOf]; omega
    · have F : Hid (memB x l = false) := by
        show decide (x ∈ l) = false
        rw [decide_eq_false_iff_not, R.out, List.drop_of_length_le (by omega)]; simp
      go_wp2_with fail
      go_ret
      exact ⟨_, rfl, by rw [F.out]; simp, rfl⟩
theorem Contains_any (v : Value) (l : List Nat) (x : Nat) (w : World) (h : Ints w v (N l)) :
    Calls Try.prog 33 #[v, .int .i64 x] w fun e w' => e = .returned (.bool (memB x l)) ∧ w' = w := by
  obtain ⟨a, cap, hv, hlen, hc⟩ := h.nats
  have HI := hid h
  clear h hc
  subst hv
  go_enter Try.func33, Try.ntmps33
  go_wp2_with fail
  refine (Index_any _ l x _ HI.out).mono ?_
  rintro e w1 ⟨r, rfl, hr, rfl⟩
  have HR := hid hr
  clear hr
  go_wp2_with fail
  go_ret
  exact ⟨ret_bool HR.out, rfl⟩
end Go.Proofs.Ytjnifcfcigcngaa

namespace Go.Proofs.Ytjnifcfcigcngaa
open Go.RowKit

theorem bad_yes (e : Int) (w : World) : Calls Try.prog 4 #[.bool true, .int .i64 e] w fun r w' => r = .returned (.int .i64 0) ∧ w' = w := by
  go_enter Try.func4, Try.ntmps4
  go_wp2
  go_ret
  exact ⟨rfl, rfl⟩
theorem bad_no (e : Int) (w : World) : Calls Try.prog 4 #[.bool false, .int .i64 e] w fun r w' => r = .returned (.int .i64 e) ∧ w' = w := by
  go_enter Try.func4, Try.ntmps4
  go_wp2
  go_ret
  exact ⟨rfl, rfl⟩

/-- Is s a set of n elements? -/
def setB (n s : Int) : Bool := decide (0 ≤ n ∧ n ≤ 8 ∧ 0 ≤ s ∧ s < 2 ^ n.toNat)
theorem IsSet_any (n s : Int) (w : World) :
    Calls Try.prog 6 #[.int .i64 n, .int .i64 s] w fun e w' => e = .returned (.bool (setB n s)) ∧ w' = w := by
  by_cases h0 : 0 ≤ n
  · obtain ⟨m, rfl⟩ := Int.eq_ofNat_of_zero_le h0
    by_cases h1 : m ≤ 8
    · have e2 : ((2 ^ m : Nat) : Int) = (2 : Int) ^ m := by simp
      by_cases h2 : 0 ≤ s
      · obtain ⟨T, HT⟩ : ∃ T : Nat, Hid (T = 2 ^ m) := ⟨_, rfl⟩
        have HA := hid (fun w => All_any m w h1)
        rw [← HT.out] at HA
        have F : Hid (setB m s = decide (s ≤ (T : Int) - 1)) := by
          show setB m s = _
          unfold setB
          rw [HT.out, e2, decide_eq_decide, Int.toNat_natCast]
          omega
        clear e2
        go_enter Try.func6, Try.ntmps6
        go_wp2_with fail
        refine (HA.out _).mono ?_
        rintro e w1 ⟨rfl, rfl⟩
        go_wp2_with fail
        go_ret
        exact ⟨ret_bool F.out.symm, rfl⟩
      · have F : Hid (setB m s = false) := by show setB m s = false; unfold setB; rw [decide_eq_false_iff_not]; omega
        have h3 : decide (0 ≤ s) = false := by simpa using h2
        clear e2
        go_enter Try.func6, Try.ntmps6
        go_wp2_with fail
        go_ret
        exact ⟨ret_bool F.out.symm, rfl⟩
    · have F : Hid (setB m s = false) := by show setB m s = false; unfold setB; rw [decide_eq_false_iff_not]; omega
      have h3 : decide ((m : Int) ≤ 8) = false := by simp; omega
      have h4 : decide (m ≤ 8) = false := by simpa using h1
      go_enter Try.func6, Try.ntmps6
      go_wp2_with fail
      go_ret
      exact ⟨ret_bool F.out.symm, rfl⟩
  · have F : Hid (setB n s = false) := by show setB n s = false; unfold setB; rw [decide_eq_false_iff_not]; omega
    have h3 : decide (0 ≤ n) = false := by simpa using h0
    go_enter Try.func6, Try.ntmps6
    go_wp2_with fail
    go_ret
    exact ⟨ret_bool F.out.symm, rfl⟩

def famB (n : Int) (zs : List Int) : Bool := famR n zs == 0
theorem famB_step {n : Nat} {zs : List Int} {T : Int} (hn : n ≤ 8) (hT : T = 2 ^ n) (k : Nat) (R : risesB T (-1) zs = risesB T (lastB zs k) (zs.drop k)) :
    famB n zs = risesB T (lastB zs k) (zs.drop k) := by
  unfold famB
  rw [famR_step hn hT k R]
  cases risesB T (lastB zs k) (zs.drop k) <;> rfl

end Go.Proofs.Ytjnifcfcigcngaa
