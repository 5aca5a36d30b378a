/- Package wide: whole numbers of 128 bits: Of, Plus, Times, minus, isLess, isBelowNought, doubled. -/
import Derived.Test.YtkmpnaohdijpnaaGreatDoorOwnW
import Derived.Lib.Mul64
import Derived.Laws.Bits64b
import Derived.Laws.Externs
import Derived.Shelf.Spec.BitsCarry
import Derived.Shelf.Bits.Mul64
namespace Go.Proofs.YtkmpnaohdijpnaaGreatDoor
open Go.RowKit Go.Lib

/-- A number of 128 bits, as it lies. -/
def wv (u : Nat) : Value := .agg #[.int .u64 (u / 18446744073709551616 : Nat), .int .u64 (u % 18446744073709551616 : Nat)]
theorem wv_parts (h l : Nat) (hl : l < 18446744073709551616) : Value.agg #[.int .u64 (h : Nat), .int .u64 (l : Nat)] = wv (h * 18446744073709551616 + l) := by
  unfold wv
  rw [show (h * 18446744073709551616 + l) / 18446744073709551616 = h by omega, show (h * 18446744073709551616 + l) % 18446744073709551616 = l by omega]
theorem add64_run (x y c : Nat) (hc : c ≤ 1) (w : World) : (callFunc 71 #[.int .u64 x, .int .u64 y, .int .u64 c]).run Tryz.prog w = .ok (.value (.tuple #[.int .u64 (((x + y + c) % 18446744073709551616 : Nat) : Int), .int .u64 (((x + y + c) / 18446744073709551616 : Nat) : Int)])) w := by
  rw [run_callFunc_extern Tryz.func71 (by kernel_rfl) (by kernel_rfl) (by kernel_rfl) (e := add64Entry) (by kernel_rfl), run_add64 x y c (by omega) (by omega) (by omega) (by omega)]
  simp only [Result.andThen]
  congr 5 <;> omega
theorem sub64_run (x y b : Nat) (hb : b ≤ 1) (w : World) : (callFunc 91 #[.int .u64 x, .int .u64 y, .int .u64 b]).run Tryz.prog w = .ok (.value (.tuple #[.int .u64 (((x + 18446744073709551616 - y - b) % 18446744073709551616 : Nat) : Int), .int .u64 ((if x < y + b then 1 else 0 : Nat) : Int)])) w := by
  rw [run_callFunc_extern Tryz.func91 (by kernel_rfl) (by kernel_rfl) (by kernel_rfl) (e := sub64Entry) (by kernel_rfl), run_sub64 x y b hb]
  rfl
set_option maxHeartbeats 1000000 in
theorem mul64_any (x y : Nat) (hx : x < 18446744073709551616) (hy : y < 18446744073709551616) (w : World) :
    Calls Tryz.prog 70 #[.int .u64 x, .int .u64 y] w fun e w' => e = .returned (.tuple #[.int .u64 ((x * y / 18446744073709551616 : Nat) : Int), .int .u64 ((x * y % 18446744073709551616 : Nat) : Int)]) ∧ w' = w := by
  obtain ⟨bd, bt, bw, hhi⟩ := Lib.mul64_hi x y hx hy
  have ba := Lib.half_mul_le (a := x / 4294967296) (b := y / 4294967296) (by omega) (by omega)
  have bb := Lib.half_mul_le (a := x / 4294967296) (b := y % 4294967296) (by omega) (by omega)
  have bc := Lib.half_mul_le (a := x % 4294967296) (b := y / 4294967296) (by omega) (by omega)
  have ba' : x / 4294967296 * (y / 4294967296) < 18446744073709551616 := by omega
  have bb' : x / 4294967296 * (y % 4294967296) < 18446744073709551616 := by omega
  have bc' : x % 4294967296 * (y / 4294967296) < 18446744073709551616 := by omega
  have bh1 : x / 4294967296 * (y / 4294967296) + (x / 4294967296 * (y % 4294967296) + x % 4294967296 * (y % 4294967296) / 4294967296) / 4294967296 < 18446744073709551616 := by omega
  have bh : x / 4294967296 * (y / 4294967296) + (x / 4294967296 * (y % 4294967296) + x % 4294967296 * (y % 4294967296) / 4294967296) / 4294967296 + ((x / 4294967296 * (y % 4294967296) + x % 4294967296 * (y % 4294967296) / 4294967296) % 4294967296 + x % 4294967296 * (y / 4294967296)) / 4294967296 < 18446744073709551616 := by omega
  go_enter Tryz.func70, Tryz.ntmps70
  go_wp2
  simp only [Mul64.maskN x hx, Mul64.maskN y hy, Mul64.divN, Mul64.mulN, Mul64.addN, Mul64.wrapN _ bd, Mul64.wrapN _ bb', Mul64.wrapN _ bt, Mul64.maskN _ bt, Mul64.wrapN _ bc', Mul64.wrapN _ bw, Mul64.wrapN _ ba', Mul64.wrapN _ bh1, Mul64.wrapN _ bh, Mul64.wrapM (x * y)]
  rw [hhi]
  go_ret2
  exact ⟨rfl, rfl⟩
theorem wv_open (a : Nat) (ha : a < 340282366920938463463374607431768211456) : ∃ h l : Nat, h < 18446744073709551616 ∧ l < 18446744073709551616 ∧ Hid (a = h * 18446744073709551616 + l) ∧ wv a = .agg #[.int .u64 (h : Nat), .int .u64 (l : Nat)] :=
  ⟨a / 18446744073709551616, a % 18446744073709551616, by omega, by omega, by show _ = _; omega, rfl⟩
theorem wv_shut {h l u : Nat} (hl : l < 18446744073709551616) (e : u = h * 18446744073709551616 + l) : Value.agg #[.int .u64 (h : Nat), .int .u64 (l : Nat)] = wv u := by rw [wv_parts h l hl, e]
theorem or_even (a c : Nat) (ha : a < 9223372036854775808) (hc : c ≤ 1) : bits .or .u64 ((2 * a : Nat) : Int) (c : Int) = ((2 * a + c : Nat) : Int) := by
  have h := bits_or_u64_nat (2 * a) c (by omega) (by omega)
  rw [h]
  have := Nat.two_pow_add_eq_or_of_lt (i := 1) (b := c) (by omega) a
  rw [Nat.pow_one] at this
  rw [← this]
theorem below3 (w : World) (x y z : Obj) : Below w.heap.size w (((w.alloc x).alloc y).alloc z) := (((Below.refl _ _).alloc (Nat.le_refl _) _).alloc (by simp) _).alloc (by simp; omega) _
theorem Of_any (n : Int) (w : World) (h1 : -9223372036854775808 ≤ n) (h2 : n ≤ 9223372036854775807) : Calls Tryz.prog 49 #[.int .i64 n] w fun e w' => e = .returned (wv (n % 340282366920938463463374607431768211456).toNat) ∧ Below w.heap.size w w' := by
  go_enter Tryz.func49, Tryz.ntmps49
  go_wp2_with fail
  refine bodyPost_ret (v := .agg #[.int .u64 (IntKind.u64.wrap (n / 9223372036854775808)), .int .u64 (IntKind.u64.wrap n)]) ?_ rfl ⟨?_, ?_⟩
  · simp [results, Tryz.f49, go_sem]
  · rw [IntKind.wrap_u64, IntKind.wrap_u64]
    have e1 : (n / 9223372036854775808) % 18446744073709551616 = (((n % 340282366920938463463374607431768211456).toNat / 18446744073709551616 : Nat) : Int) := by omega
    have e2 : n % 18446744073709551616 = (((n % 340282366920938463463374607431768211456).toNat % 18446744073709551616 : Nat) : Int) := by omega
    rw [e1, e2]
    rfl
  · exact (Below.refl _ _).alloc (Nat.le_refl _) _
theorem WPlus_any (a b : Nat) (w : World) (ha : a < 340282366920938463463374607431768211456) (hb : b < 340282366920938463463374607431768211456) : Calls Tryz.prog 50 #[wv a, wv b] w fun e w' => e = .returned (wv ((a + b) % 340282366920938463463374607431768211456)) ∧ Below w.heap.size w w' := by
  obtain ⟨ah, al, h1, h2, HA, ea⟩ := wv_open a ha
  obtain ⟨bh, bl, h3, h4, HB, eb⟩ := wv_open b hb
  rw [ea, eb]
  obtain ⟨c, hc, HC⟩ : ∃ c : Nat, c ≤ 1 ∧ Hid ((al + bl + 0) / 18446744073709551616 = c) := ⟨_, by omega, rfl⟩
  have A1 : ∀ w, (callFunc 71 #[.int .u64 (al : Nat), .int .u64 (bl : Nat), .int .u64 0]).run Tryz.prog w = _ := fun w => add64_run al bl 0 (by omega) w
  have A2 := fun w => add64_run ah bh c hc w
  rw [HC.out] at A1
  obtain ⟨sl, HSL⟩ : ∃ sl : Nat, Hid ((al + bl + 0) % 18446744073709551616 = sl) := ⟨_, rfl⟩
  obtain ⟨sh, HSH⟩ : ∃ sh : Nat, Hid ((ah + bh + c) % 18446744073709551616 = sh) := ⟨_, rfl⟩
  obtain ⟨d, HDD⟩ : ∃ d : Nat, Hid ((ah + bh + c) / 18446744073709551616 = d) := ⟨_, rfl⟩
  rw [HSL.out] at A1
  rw [HSH.out, HDD.out] at A2
  have R : Hid (Value.agg #[.int .u64 (sh : Nat), .int .u64 (sl : Nat)] = wv ((a + b) % 340282366920938463463374607431768211456)) := wv_shut (by have := HSL.out; omega) (by have := HSL.out; have := HSH.out; have := HC.out; have := HA.out; have := HB.out; omega)
  clear ea eb
  go_enter Tryz.func50, Tryz.ntmps50
  go_wp2_with fail
  refine bodyPost_ret (v := .agg #[.int .u64 (sh : Nat), .int .u64 (sl : Nat)]) ?_ rfl ⟨by rw [R.out], ?_⟩
  · simp [results, Tryz.f50, go_sem]
  · exact below3 w _ _ _
set_option maxHeartbeats 1000000 in
theorem WTimes_any (a b : Nat) (w : World) (ha : a < 340282366920938463463374607431768211456) (hb : b < 340282366920938463463374607431768211456) : Calls Tryz.prog 48 #[wv a, wv b] w fun e w' => e = .returned (wv ((a * b) % 340282366920938463463374607431768211456)) ∧ Below w.heap.size w w' := by
  obtain ⟨ah, al, h1, h2, HA, ea⟩ := wv_open a ha
  obtain ⟨bh, bl, h3, h4, HB, eb⟩ := wv_open b hb
  rw [ea, eb]
  have M1 := hid (fun w => mul64_any al bl h2 h4 w)
  obtain ⟨ph, HPH⟩ : ∃ ph : Nat, Hid (al * bl / 18446744073709551616 = ph) := ⟨_, rfl⟩
  obtain ⟨pl, HPL⟩ : ∃ pl : Nat, Hid (al * bl % 18446744073709551616 = pl) := ⟨_, rfl⟩
  rw [HPH.out, HPL.out] at M1
  obtain ⟨q1, HQ1⟩ : ∃ q1 : Nat, Hid (ah * bl = q1) := ⟨_, rfl⟩
  obtain ⟨q2, HQ2⟩ : ∃ q2 : Nat, Hid (al * bh = q2) := ⟨_, rfl⟩
  have e1 : (ah : Int) * (bl : Int) = (q1 : Int) := by rw [← HQ1.out, Int.natCast_mul]
  have e2 : (al : Int) * (bh : Int) = (q2 : Int) := by rw [← HQ2.out, Int.natCast_mul]
  have R : Hid (Value.agg #[.int .u64 ((ph + q1 % 18446744073709551616 + q2) % 18446744073709551616 : Nat), .int .u64 (pl : Nat)] = wv ((a * b) % 340282366920938463463374607431768211456)) := by
    refine wv_shut (by have := HPL.out; omega) ?_
    have ex : a * b = ah * bh * 340282366920938463463374607431768211456 + (q1 + q2) * 18446744073709551616 + al * bl := by
      rw [HA.out, HB.out, ← HQ1.out, ← HQ2.out, Nat.add_mul, Nat.mul_add, Nat.mul_add, Nat.add_mul]
      have t1 : ah * 18446744073709551616 * (bh * 18446744073709551616) = ah * bh * 340282366920938463463374607431768211456 := by
        rw [Nat.mul_assoc, Nat.mul_left_comm 18446744073709551616 bh 18446744073709551616, ← Nat.mul_assoc ah bh]
      have t2 : ah * 18446744073709551616 * bl = ah * bl * 18446744073709551616 := by rw [Nat.mul_right_comm]
      have t3 : al * (bh * 18446744073709551616) = al * bh * 18446744073709551616 := by rw [Nat.mul_assoc]
      rw [t1, t2, t3]; omega
    have := HPH.out
    have := HPL.out
    generalize ah * bh = z at *
    generalize al * bl = y at *
    rw [ex]
    omega
  clear ea eb
  go_enter Tryz.func48, Tryz.ntmps48
  go_wp2_with (go_at_call 70; refine (M1.out _).mono ?_; rintro e w' ⟨rfl, rfl⟩)
  have W1 : IntKind.u64.wrap (IntKind.u64.wrap ((ph : Int) + IntKind.u64.wrap (q1 : Int)) + IntKind.u64.wrap (q2 : Int)) = (((ph + q1 % 18446744073709551616 + q2) % 18446744073709551616 : Nat) : Int) := by
    simp only [IntKind.wrap_u64]
    omega
  rw [W1]
  refine bodyPost_ret (v := .agg #[.int .u64 ((ph + q1 % 18446744073709551616 + q2) % 18446744073709551616 : Nat), .int .u64 (pl : Nat)]) ?_ rfl ⟨by rw [R.out], ?_⟩
  · simp [results, Tryz.f48, go_sem]
  · exact below3 w _ _ _
theorem WMinus_any (a b : Nat) (w : World) (ha : a < 340282366920938463463374607431768211456) (hb : b < 340282366920938463463374607431768211456) : Calls Tryz.prog 72 #[wv a, wv b] w fun e w' => e = .returned (wv ((a + 340282366920938463463374607431768211456 - b) % 340282366920938463463374607431768211456)) ∧ Below w.heap.size w w' := by
  obtain ⟨ah, al, h1, h2, HA, ea⟩ := wv_open a ha
  obtain ⟨bh, bl, h3, h4, HB, eb⟩ := wv_open b hb
  rw [ea, eb]
  obtain ⟨c, hc, HC⟩ : ∃ c : Nat, c ≤ 1 ∧ Hid ((if al < bl + 0 then 1 else 0) = c) := ⟨_, by split <;> omega, rfl⟩
  have A1 : ∀ w, (callFunc 91 #[.int .u64 (al : Nat), .int .u64 (bl : Nat), .int .u64 0]).run Tryz.prog w = _ := fun w => sub64_run al bl 0 (by omega) w
  have A2 := fun w => sub64_run ah bh c hc w
  rw [HC.out] at A1
  obtain ⟨sl, HSL⟩ : ∃ sl : Nat, Hid ((al + 18446744073709551616 - bl - 0) % 18446744073709551616 = sl) := ⟨_, rfl⟩
  obtain ⟨sh, HSH⟩ : ∃ sh : Nat, Hid ((ah + 18446744073709551616 - bh - c) % 18446744073709551616 = sh) := ⟨_, rfl⟩
  obtain ⟨d, HDD⟩ : ∃ d : Nat, Hid ((if ah < bh + c then 1 else 0) = d) := ⟨_, rfl⟩
  rw [HSL.out] at A1
  rw [HSH.out, HDD.out] at A2
  have R : Hid (Value.agg #[.int .u64 (sh : Nat), .int .u64 (sl : Nat)] = wv ((a + 340282366920938463463374607431768211456 - b) % 340282366920938463463374607431768211456)) := by
    refine wv_shut (by have := HSL.out; omega) ?_
    have e1 := HSL.out; have e2 := HSH.out; have e3 := HC.out; have e4 := HA.out; have e5 := HB.out
    split at e3 <;> omega
  clear ea eb
  go_enter Tryz.func72, Tryz.ntmps72
  go_wp2_with fail
  refine bodyPost_ret (v := .agg #[.int .u64 (sh : Nat), .int .u64 (sl : Nat)]) ?_ rfl ⟨by rw [R.out], ?_⟩
  · simp [results, Tryz.f72, go_sem]
  · exact below3 w _ _ _
theorem WLess_any (a b : Nat) (w : World) (ha : a < 340282366920938463463374607431768211456) (hb : b < 340282366920938463463374607431768211456) : Calls Tryz.prog 93 #[wv a, wv b] w fun e w' => e = .returned (.bool (decide (a < b))) ∧ Below w.heap.size w w' := by
  obtain ⟨ah, al, h1, h2, HA, ea⟩ := wv_open a ha
  obtain ⟨bh, bl, h3, h4, HB, eb⟩ := wv_open b hb
  rw [ea, eb]
  obtain ⟨c, hc, HC⟩ : ∃ c : Nat, c ≤ 1 ∧ Hid ((if al < bl + 0 then 1 else 0) = c) := ⟨_, by split <;> omega, rfl⟩
  have A1 : ∀ w, (callFunc 91 #[.int .u64 (al : Nat), .int .u64 (bl : Nat), .int .u64 0]).run Tryz.prog w = _ := fun w => sub64_run al bl 0 (by omega) w
  have A2 := fun w => sub64_run ah bh c hc w
  rw [HC.out] at A1
  obtain ⟨sl, HSL⟩ : ∃ sl : Nat, Hid ((al + 18446744073709551616 - bl - 0) % 18446744073709551616 = sl) := ⟨_, rfl⟩
  obtain ⟨sh, HSH⟩ : ∃ sh : Nat, Hid ((ah + 18446744073709551616 - bh - c) % 18446744073709551616 = sh) := ⟨_, rfl⟩
  obtain ⟨d, HDD⟩ : ∃ d : Nat, Hid ((if ah < bh + c then 1 else 0) = d) := ⟨_, rfl⟩
  rw [HSL.out] at A1
  rw [HSH.out, HDD.out] at A2
  have R : Hid (((d : Int) == 1) = decide (a < b)) := by
    show _ = _
    have e3 := HC.out; have e4 := HA.out; have e5 := HB.out; have e6 := HDD.out
    rw [Bool.eq_iff_iff, beq_iff_eq, decide_eq_true_iff]
    split at e3 <;> split at e6 <;> omega
  clear ea eb
  go_enter Tryz.func93, Tryz.ntmps93
  go_wp2_with fail
  go_ret
  exact ⟨ret_bool R.out, ((Below.refl _ _).alloc (Nat.le_refl _) _).alloc (by simp) _⟩
theorem WNeg_any (a : Nat) (w : World) (ha : a < 340282366920938463463374607431768211456) : Calls Tryz.prog 51 #[wv a] w fun e w' => e = .returned (.bool (decide (170141183460469231731687303715884105728 ≤ a))) ∧ Below w.heap.size w w' := by
  obtain ⟨ah, al, h1, h2, HA, ea⟩ := wv_open a ha
  rw [ea]
  have R : Hid (((ah : Int) / 9223372036854775808 == 1) = decide (170141183460469231731687303715884105728 ≤ a)) := by
    show _ = _
    have e4 := HA.out
    rw [Bool.eq_iff_iff, beq_iff_eq, decide_eq_true_iff]
    omega
  clear ea
  go_enter Tryz.func51, Tryz.ntmps51
  go_wp2_with fail
  go_ret
  exact ⟨ret_bool R.out, (Below.refl _ _).alloc (Nat.le_refl _) _⟩
theorem WDoub_any (a c : Nat) (w : World) (ha : a < 340282366920938463463374607431768211456) (hc : c ≤ 1) : Calls Tryz.prog 92 #[wv a, .int .u64 (c : Nat)] w fun e w' => e = .returned (wv ((2 * a + c) % 340282366920938463463374607431768211456)) ∧ Below w.heap.size w w' := by
  obtain ⟨ah, al, h1, h2, HA, ea⟩ := wv_open a ha
  rw [ea]
  clear ea
  go_enter Tryz.func92, Tryz.ntmps92
  go_wp2_with fail
  have W1 : bits .or .u64 (IntKind.u64.wrap ((ah : Int) * 2)) ((al : Int) / 9223372036854775808) = ((2 * (ah % 9223372036854775808) + al / 9223372036854775808 : Nat) : Int) := by
    rw [IntKind.wrap_u64, show (ah : Int) * 2 % 18446744073709551616 = ((2 * (ah % 9223372036854775808) : Nat) : Int) by omega, show (al : Int) / 9223372036854775808 = ((al / 9223372036854775808 : Nat) : Int) by omega]
    exact or_even _ _ (by omega) (by omega)
  have W2 : bits .or .u64 (IntKind.u64.wrap ((al : Int) * 2)) (c : Int) = ((2 * (al % 9223372036854775808) + c : Nat) : Int) := by
    rw [IntKind.wrap_u64, show (al : Int) * 2 % 18446744073709551616 = ((2 * (al % 9223372036854775808) : Nat) : Int) by omega]
    exact or_even _ _ (by omega) hc
  rw [W1, W2]
  refine bodyPost_ret (v := .agg #[.int .u64 (2 * (ah % 9223372036854775808) + al / 9223372036854775808 : Nat), .int .u64 (2 * (al % 9223372036854775808) + c : Nat)]) ?_ rfl ⟨?_, ?_⟩
  · simp [results, Tryz.f92, go_sem]
  · rw [wv_shut (u := (2 * a + c) % 340282366920938463463374607431768211456) (by omega) (by have := HA.out; omega)]
  · exact ((Below.refl _ _).alloc (Nat.le_refl _) _).alloc (by simp) _
end Go.Proofs.YtkmpnaohdijpnaaGreatDoor
