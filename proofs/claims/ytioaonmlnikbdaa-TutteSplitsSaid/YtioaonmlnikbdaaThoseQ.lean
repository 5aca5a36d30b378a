/- Contracts over a function value: rotaref.Those; for whatever function answers as p does. rotaref.All, Has; slices.Index, Contains at []int. -/
import Derived.Test.YtioaonmlnikbdaaRefQ
import Derived.Test.YtioaonmlnikbdaaSieveQ
namespace Go.Proofs.Ytioaonmlnikbdaa
open Go.RowKit

theorem pow_less : ∀ n : Nat, n ≤ 8 → wrap64 (wrap64 (2 ^ n) - 1) = ((2 ^ n : Nat) : Int) - 1 := by decide +kernel
theorem pow_less' : ∀ n : Nat, n ≤ 8 → IntKind.i64.wrap (wrap64 (2 ^ n) - 1) = ((2 ^ n : Nat) : Int) - 1 := by decide +kernel
theorem All_any (n : Nat) (w : World) (hn : n ≤ 8) :
    Calls Try.prog 16 #[.int .i64 n] w fun e w' => e = .returned (.int .i64 (((2 ^ n : Nat) : Int) - 1)) ∧ w' = w := by
  obtain ⟨T, hT, HT, hT2⟩ : ∃ T : Nat, wrap64 (2 ^ n) = (T : Int) ∧ Hid (T = 2 ^ n) ∧ T ≤ 256 := ⟨2 ^ n, (pow_wrap _ hn).1, rfl, (pow_wrap _ hn).2⟩
  have h1 : 1 ≤ T := by rw [HT.out]; exact Nat.one_le_two_pow
  go_enter Try.func16, Try.ntmps16
  go_wp2
  go_ret
  exact ⟨ret_int (by rw [← HT.out]), rfl⟩

set_option maxRecDepth 20000 in
set_option maxHeartbeats 800000 in
theorem Index_any (v : Value) (l : List Nat) (x : Nat) (w : World) (h : Ints w v (N l)) :
    Calls Try.prog 73 #[v, .int .i64 x] w fun e w' => ∃ r : Int, e = .returned (.int .i64 r) ∧ decide (0 ≤ r) = memB x l ∧ w' = w := by
  obtain ⟨a, cap, rfl, hlen, hc⟩ := h.nats
  clear h
  go_enter Try.func73, Try.ntmps73
  go_wp2_with fail
  go_loop [8] (fun i => ∃ k : Nat, k ≤ l.length ∧ i = .int .i64 k ∧ Hid (x ∈ l ↔ x ∈ l.drop k)) (fun i => l.length - (intOf i).toNat)
  case atStart => exact ⟨0, Nat.zero_le _, rfl, Iff.rfl⟩
  case round =>
    obtain ⟨k, hk, rfl, R⟩ := hrel
    by_cases hlt : k < l.length
    · obtain ⟨b, off, rfl, hb, hcell⟩ := hc (by omega)
      have hck := hcell k hlt
      have D : Hid (l.drop k = l.getD k 0 :: l.drop (k + 1)) := by
        show l.drop k = _
        rw [List.drop_eq_getElem_cons hlt]; simp [List.getD, hlt]
      clear hcell hc
      generalize l.getD k 0 = y at *
      by_cases hxy : x = y
      · have hxy' : ((x : Int) == (y : Int)) = true := by rw [hxy]; simp
        have F : Hid (memB x l = true) := by
          show decide (x ∈ l) = true
          rw [decide_eq_true_iff, R.out, D.out, hxy]; simp
        clear hxy
        go_wp2_with fail
        go_ret
        exact ⟨_, rfl, by rw [F.out]; simp, rfl⟩
      · have hxy' : ((x : Int) == (y : Int)) = false := by rw [beq_eq_false_iff_ne]; omega
        go_wp2_with fail
        go_round
        case rel => exact ⟨k + 1, by omega, by go_num, by show x ∈ l ↔ _; rw [R.out, D.out]; simp [hxy]⟩
        case measure => simp [intOf]; omega
    · have F : Hid (memB x l = false) := by
        show decide (x ∈ l) = false
        rw [decide_eq_false_iff_not, R.out, List.drop_of_length_le (by omega)]; simp
      go_wp2_with fail
      go_ret
      exact ⟨_, rfl, by rw [F.out]; simp, rfl⟩
theorem Contains_any (v : Value) (l : List Nat) (x : Nat) (w : World) (h : Ints w v (N l)) :
    Calls Try.prog 59 #[v, .int .i64 x] w fun e w' => e = .returned (.bool (memB x l)) ∧ w' = w := by
  obtain ⟨a, cap, hv, hlen, hc⟩ := h.nats
  have HI := hid h
  clear h hc
  subst hv
  go_enter Try.func59, Try.ntmps59
  go_wp2_with fail
  refine (Index_any _ l x _ HI.out).mono ?_
  rintro e w1 ⟨r, rfl, hr, rfl⟩
  have HR := hid hr
  clear hr
  go_wp2_with fail
  go_ret
  exact ⟨ret_bool HR.out, rfl⟩
end Go.Proofs.Ytioaonmlnikbdaa
