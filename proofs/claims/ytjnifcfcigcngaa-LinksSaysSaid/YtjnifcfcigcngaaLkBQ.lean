/- links.cut. -/
import Derived.Test.YtjnifcfcigcngaaLkAW
import Derived.Test.YtjnifcfcigcngaaWholeQ
namespace Go.Proofs.Ytjnifcfcigcngaa
open Go.RowKit

set_option maxRecDepth 20000 in
set_option maxHeartbeats 2000000 in
theorem lcut_any (n L F T : Nat) (f : Nat → Nat) (v : Value) (w : World) (hn : n ≤ 8) (hL : L < 2 ^ n) (hF : F < 2 ^ n) (hT : T < 2 ^ n) (hf : ∀ i, i < n → f i < 256) (h : RkAt w v n f) :
    Calls Try.prog 25 #[v, .int .i64 L, .int .i64 F, .int .i64 T] w fun e w' => e = .returned (.int .i64 (cutV f n L F T : Nat)) ∧ w' = w := by
  have WH := hid (fun w => wholeSet_any n w hn)
  have RC : Hid (∀ S, Calls Try.prog 37 #[v, .int .i64 ((dif L S : Nat) : Int), .int .i64 F] w fun e w' => e = .returned (.int .i64 (rchS f n (dif L S) F : Nat)) ∧ w' = w) := fun S => reached_any n (dif L S) F f v w hn (dif_ltn hL) hF hf h
  obtain ⟨b, off, cap, rfl, -, -⟩ := h
  have h256 : 2 ^ n ≤ 256 := Nat.pow_le_pow_right (by decide) hn
  have h1 : 1 ≤ 2 ^ n := Nat.one_le_two_pow
  have HV : Hid (cutV f n L F T = fewF (cutB f n L F T) (2 ^ n - 1) (2 ^ n - 1)) := rfl
  have HB : Hid (∀ S, cutB f n L F T S = (rchS f n (dif L S) F &&& T == 0)) := fun _ => rfl
  have HRL : Hid (∀ S, rchS f n (dif L S) F < 256) := fun S => lt256 hn (rch_lt (dif_ltn hL))
  have HD : Hid (∀ S, dif L S = L ^^^ (L &&& S)) := fun _ => rfl
  have HFS : Hid (∀ k, fewF (cutB f n L F T) (2 ^ n - 1) (k + 1) = if pop k < pop (fewF (cutB f n L F T) (2 ^ n - 1) k) ∧ cutB f n L F T k = true then k else fewF (cutB f n L F T) (2 ^ n - 1) k) := fun _ => rfl
  have HFL : Hid (∀ k, k ≤ 2 ^ n - 1 → fewF (cutB f n L F T) (2 ^ n - 1) k < 256) := fun k hk => by have := (fewF_spec (p := cutB f n L F T) k hk).1.1; omega
  have HF0 : Hid (fewF (cutB f n L F T) (2 ^ n - 1) 0 = 2 ^ n - 1) := rfl
  have hT8 := lt256 hn hT
  have hL8 := lt256 hn hL
  clear hf
  generalize hqq : fewF (cutB f n L F T) (2 ^ n - 1) = q at *
  generalize cutB f n L F T = p at *
  clear hqq
  obtain ⟨M, hM⟩ : ∃ M : Nat, M = 2 ^ n - 1 := ⟨_, rfl⟩
  rw [← hM] at WH HV HFL HF0
  have hM8 : M < 256 := by omega
  clear hM h256 h1
  go_enter Try.func25, Try.ntmps25
  go_wp2_with fail
  refine (WH.out _).mono ?_
  rintro e w' ⟨rfl, rfl⟩
  go_wp2_with fail
  go_loop [9, 10, 15] (fun u _ i => ∃ k : Nat, k ≤ M ∧ i = .int .i64 k ∧ u = .int .i64 (q k : Nat)) (fun _ _ i => M - (intOf i).toNat)
  case atStart => exact ⟨0, Nat.zero_le _, rfl, by rw [HF0.out]⟩
  case round =>
    obtain ⟨k, hk, rfl, rfl⟩ := hrel
    by_cases hlt : k < M
    · have hki : (k : Int) < (M : Int) := by omega
      have hqk := HFL.out k hk
      have S1 := hid (size_any k w' (by omega))
      have S2 := hid (size_any (q k) w' hqk)
      have S := hid (HFS.out k)
      have R := hid (RC.out k)
      have P := hid (HB.out k)
      have hr := HRL.out k
      have han : bits .andNot .i64 (L : Int) (k : Int) = ((dif L k : Nat) : Int) := i64_andNot_nat _ _ (by omega) (by omega)
      have han2 : bits .and .i64 (rchS f n (dif L k) F : Nat) (T : Int) = ((rchS f n (dif L k) F &&& T : Nat) : Int) := i64_and_nat _ _ (by omega) (by omega)
      have p1 := pop_le k (by omega)
      have p2 := pop_le (q k) hqk
      generalize hq1 : q (k + 1) = Q1 at *
      generalize q k = Q at *
      generalize rchS f n (dif L k) F = r at *
      generalize dif L k = d at *
      by_cases hless : pop k < pop Q
      · have hli : (pop k : Int) < (pop Q : Int) := by omega
        by_cases hz : r &&& T = 0
        · have hpk : Hid (p k = true) := by show _ = _; rw [P.out, hz]; rfl
          rw [hz] at han2
          go_wp2_with fail
          refine S1.out.mono ?_
          rintro e w2 ⟨rfl, rfl⟩
          go_wp2_with fail
          refine S2.out.mono ?_
          rintro e w2 ⟨rfl, rfl⟩
          go_wp2_with fail
          refine R.out.mono ?_
          rintro e w2 ⟨rfl, rfl⟩
          go_wp2_with fail
          go_round
          case rel => exact ⟨k + 1, by omega, by go_num, by rw [hq1, S.out, if_pos ⟨hless, hpk.out⟩]⟩
          case measure => simp [intOf]; omega
        · have hpk : Hid (p k = false) := by show _ = _; rw [P.out]; simpa using hz
          have hz2 : ((r &&& T : Nat) : Int) ≠ 0 := by omega
          have hz3 : (((r &&& T : Nat) : Int) == 0) = false := by simpa using hz
          generalize r &&& T = z at *
          go_wp2_with fail
          refine S1.out.mono ?_
          rintro e w2 ⟨rfl, rfl⟩
          go_wp2_with fail
          refine S2.out.mono ?_
          rintro e w2 ⟨rfl, rfl⟩
          go_wp2_with fail
          refine R.out.mono ?_
          rintro e w2 ⟨rfl, rfl⟩
          go_wp2_with fail
          go_round
          case rel => exact ⟨k + 1, by omega, by go_num, by rw [hq1, S.out, if_neg (by rw [hpk.out]; simp)]⟩
          case measure => simp [intOf]; omega
      · have hli : ¬ (pop k : Int) < (pop Q : Int) := by omega
        go_wp2_with fail
        refine S1.out.mono ?_
        rintro e w2 ⟨rfl, rfl⟩
        go_wp2_with fail
        refine S2.out.mono ?_
        rintro e w2 ⟨rfl, rfl⟩
        go_wp2_with fail
        go_round
        case rel => exact ⟨k + 1, by omega, by go_num, by rw [hq1, S.out, if_neg (fun c => hless c.1)]⟩
        case measure => simp [intOf]; omega
    · obtain rfl : k = M := by omega
      go_wp2_with fail
      go_ret
      exact ⟨by rw [HV.out]; rfl, rfl⟩
end Go.Proofs.Ytjnifcfcigcngaa
