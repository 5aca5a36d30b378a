/- Contracts of rotalaw.bad, rotaref.IsSet, rotaref.IsFamily, rotalaw.list. -/
import Derived.Test.YtbfklamboicddaaThoseQ
namespace Go.Proofs.Ytbfklamboicddaa
open Go.RowKit

theorem bad_yes (e : Int) (w : World) : Calls Try.prog 15 #[.bool true, .int .i64 e] w fun r w' => r = .returned (.int .i64 0) ∧ w' = w := by
  go_enter Try.func15, Try.ntmps15
  go_wp2
  go_ret
  exact ⟨rfl, rfl⟩
theorem bad_no (e : Int) (w : World) : Calls Try.prog 15 #[.bool false, .int .i64 e] w fun r w' => r = .returned (.int .i64 e) ∧ w' = w := by
  go_enter Try.func15, Try.ntmps15
  go_wp2
  go_ret
  exact ⟨rfl, rfl⟩

/-- Is s a set of n elements? -/
def setB (n s : Int) : Bool := decide (0 ≤ n ∧ n ≤ 8 ∧ 0 ≤ s ∧ s < 2 ^ n.toNat)
theorem IsSet_any (n s : Int) (w : World) :
    Calls Try.prog 18 #[.int .i64 n, .int .i64 s] w fun e w' => e = .returned (.bool (setB n s)) ∧ w' = w := by
  by_cases h0 : 0 ≤ n
  · obtain ⟨m, rfl⟩ := Int.eq_ofNat_of_zero_le h0
    by_cases h1 : m ≤ 8
    · have e2 : ((2 ^ m : Nat) : Int) = (2 : Int) ^ m := by simp
      by_cases h2 : 0 ≤ s
      · obtain ⟨T, HT⟩ : ∃ T : Nat, Hid (T = 2 ^ m) := ⟨_, rfl⟩
        have HA := hid (fun w => All_any m w h1)
        rw [← HT.out] at HA
        have F : Hid (setB m s = decide (s ≤ (T : Int) - 1)) := by
          show setB m s = _
          unfold setB
          rw [HT.out, e2, decide_eq_decide, Int.toNat_natCast]
          omega
        clear e2
        go_enter Try.func18, Try.ntmps18
        go_wp2_with fail
        refine (HA.out _).mono ?_
        rintro e w1 ⟨rfl, rfl⟩
        go_wp2_with fail
        go_ret
        exact ⟨ret_bool F.out.symm, rfl⟩
      · have F : Hid (setB m s = false) := by show setB m s = false; unfold setB; rw [decide_eq_false_iff_not]; omega
        have h3 : decide (0 ≤ s) = false := by simpa using h2
        clear e2
        go_enter Try.func18, Try.ntmps18
        go_wp2_with fail
        go_ret
        exact ⟨ret_bool F.out.symm, rfl⟩
    · have F : Hid (setB m s = false) := by show setB m s = false; unfold setB; rw [decide_eq_false_iff_not]; omega
      have h3 : decide ((m : Int) ≤ 8) = false := by simp; omega
      have h4 : decide (m ≤ 8) = false := by simpa using h1
      go_enter Try.func18, Try.ntmps18
      go_wp2_with fail
      go_ret
      exact ⟨ret_bool F.out.symm, rfl⟩
  · have F : Hid (setB n s = false) := by show setB n s = false; unfold setB; rw [decide_eq_false_iff_not]; omega
    have h3 : decide (0 ≤ n) = false := by simpa using h0
    go_enter Try.func18, Try.ntmps18
    go_wp2_with fail
    go_ret
    exact ⟨ret_bool F.out.symm, rfl⟩

def famB (n : Int) (zs : List Int) : Bool := famR n zs == 0
theorem famB_step {n : Nat} {zs : List Int} {T : Int} (hn : n ≤ 8) (hT : T = 2 ^ n) (k : Nat) (R : risesB T (-1) zs = risesB T (lastB zs k) (zs.drop k)) :
    famB n zs = risesB T (lastB zs k) (zs.drop k) := by
  unfold famB
  rw [famR_step hn hT k R]
  cases risesB T (lastB zs k) (zs.drop k) <;> rfl

set_option maxHeartbeats 1600000 in
set_option maxRecDepth 100000 in
theorem IsFamily_good (n : Nat) (v : Value) (zs : List Int) (w : World) (hn : n ≤ 8) (h : Ints w v zs) :
    Calls Try.prog 17 #[.int .i64 n, v] w fun e w' => e = .returned (.bool (famB n zs)) ∧ Below w.heap.size w w' := by
  obtain ⟨a, cap, rfl, hl, hc⟩ := h
  obtain ⟨T, HT, HT2⟩ : ∃ T : Nat, Hid (T = 2 ^ n) ∧ Hid ((T : Int) = 2 ^ n) := ⟨2 ^ n, rfl, by show ((2 ^ n : Nat) : Int) = _; simp⟩
  have HA := hid (fun w => All_any n w hn)
  rw [← HT.out] at HA
  have h8 : decide ((8 : Int) < (n : Int)) = false := by simp; omega
  have h8' : decide (8 < n) = false := by simp; omega
  go_enter Try.func17, Try.ntmps17
  go_wp2_with fail
  go_loopw [5] (fun i wr => ∃ k : Nat, k ≤ zs.length ∧ i = .int .i64 k ∧ Below w.heap.size w wr ∧ Hid (-1 ≤ lastB zs k) ∧ Hid (risesB T (-1) zs = risesB T (lastB zs k) (zs.drop k))) (fun i _ => zs.length - (intOf i).toNat)
  case atStart => exact ⟨0, Nat.zero_le _, rfl, Below.refl _ _, (by decide : (-1 : Int) ≤ -1), rfl⟩
  case round =>
    obtain ⟨k, hk, rfl, hnx, L, R⟩ := hrel
    have F := hid (famB_step hn HT2.out k R.out)
    by_cases hlt : k < zs.length
    · obtain ⟨b, off, rfl, hb, hcell⟩ := hc (by omega)
      have hck : wr.cell? ⟨b, off + k, none⟩ = some (.int .i64 (zs.getD k 0)) := (hnx.cell (p := ⟨b, off + k, none⟩) hb).trans (hcell k hlt)
      have D := hid (drop_getD hlt)
      have S := hid (lastB_succ zs k)
      have hki : (k : Int) < (zs.length : Int) := by omega
      have K2 : Hid (0 < k → wr.cell? ⟨b, off + (k - 1), none⟩ = some (.int .i64 (lastB zs k))) := fun h0 => by
        have := (hnx.cell (p := ⟨b, off + (k - 1), none⟩) hb).trans (hcell (k - 1) (by omega))
        rw [this]
        obtain ⟨j, rfl⟩ : ∃ j, k = j + 1 := ⟨k - 1, by omega⟩
        rfl
      have K0 : Hid (k = 0 → lastB zs k = -1) := fun h0 => by rw [h0]; rfl
      clear hcell hc
      generalize zs.getD k 0 = x at *
      generalize lastB zs k = y at *
      by_cases hneg : x < 0
      · have F2 : Hid (famB n zs = false) := by show famB n zs = false; rw [F.out, D.out]; have := L.out; simp [risesB]; intros; omega
        go_wp2_with fail
        go_quiet (fail)
        go_wp2_with fail
        go_ret
        exact ⟨ret_bool F2.out.symm, below_drewN hnx _⟩
      · have hneg' : decide (x < 0) = false := by simpa using hneg
        by_cases hbig : (T : Int) - 1 < x
        · have F2 : Hid (famB n zs = false) := by show famB n zs = false; rw [F.out, D.out]; simp [risesB]; intros; omega
          go_wp2_with fail
          go_quiet ((go_at_call 12; exact Calls.quiet_of_same (HA.out _)))
          go_wp2_with fail
          go_ret
          exact ⟨ret_bool F2.out.symm, below_drewN hnx _⟩
        · have hbig' : decide ((T : Int) - 1 < x) = false := by simpa using hbig
          by_cases hk0 : k = 0
          · have hy := K0.out hk0
            subst hk0
            have F2 : Hid (risesB T (-1) zs = risesB T x (zs.drop 1)) := by show risesB T (-1) zs = _; rw [R.out, D.out, hy]; simp [risesB]; intros; omega
            clear hy
            have h00 : decide ((0 : Int) < 0) = false := by simp
            have hck0 : wr.cell? ⟨b, off, none⟩ = some (.int .i64 x) := hck
            go_wp2_with fail
            go_quiet ((go_at_call 12; exact Calls.quiet_of_same (HA.out _)))
            go_wp2_with fail
            go_roundw
            case rel => exact ⟨1, by omega, by go_num, below_drewN hnx _, by rw [show lastB zs 1 = x from S.out]; show (-1 : Int) ≤ x; omega, by show risesB T (-1) zs = _; rw [F2.out, show lastB zs 1 = x from S.out]⟩
            case measure => simp [intOf]; omega
          · have hkp : 0 < k := by omega
            have hck2 := K2.out hkp
            obtain ⟨j, rfl⟩ : ∃ j, k = j + 1 := ⟨k - 1, by omega⟩
            simp only [Nat.add_sub_cancel] at hck2
            have hkp' : (0 : Int) < (j : Int) + 1 := by omega
            by_cases hyx : x ≤ y
            · have F2 : Hid (famB n zs = false) := by show famB n zs = false; rw [F.out, D.out]; simp [risesB]; intros; omega
              go_wp2_with fail
              go_quiet ((go_at_call 12; exact Calls.quiet_of_same (HA.out _)))
              go_wp2_with fail
              go_ret
              exact ⟨ret_bool F2.out.symm, below_drewN hnx _⟩
            · have hyx' : decide (x ≤ y) = false := by simpa using hyx
              have F2 : Hid (risesB T (-1) zs = risesB T x (zs.drop (j + 1 + 1))) := by show risesB T (-1) zs = _; rw [R.out, D.out]; simp [risesB]; intros; omega
              go_wp2_with fail
              go_quiet ((go_at_call 12; exact Calls.quiet_of_same (HA.out _)))
              go_wp2_with fail
              go_roundw
              case rel => exact ⟨j + 1 + 1, by omega, by go_num, below_drewN hnx _, by rw [S.out]; show (-1 : Int) ≤ x; omega, by show risesB T (-1) zs = _; rw [F2.out, S.out]⟩
              case measure => simp [intOf]; omega
    · have F2 : Hid (famB n zs = true) := by show famB n zs = true; rw [F.out, List.drop_of_length_le (by omega)]; rfl
      go_wp2_with fail
      go_ret
      exact ⟨ret_bool F2.out.symm, hnx⟩
theorem IsFamily_any (n : Int) (v : Value) (zs : List Int) (w : World) (h : Ints w v zs) :
    Calls Try.prog 17 #[.int .i64 n, v] w fun e w' => e = .returned (.bool (famB n zs)) ∧ Below w.heap.size w w' := by
  by_cases hn : 0 ≤ n ∧ n ≤ 8
  · obtain ⟨m, rfl⟩ := Int.eq_ofNat_of_zero_le hn.1
    exact IsFamily_good m v zs w (by omega) h
  · have F : Hid (famB n zs = false) := by show famB n zs = false; unfold famB famR; rw [if_neg (by omega)]; rfl
    obtain ⟨a, cap, rfl, hl, hc⟩ := h
    clear hc
    by_cases h0 : n < 0
    · go_enter Try.func17, Try.ntmps17
      go_wp2_with fail
      go_ret
      exact ⟨ret_bool F.out.symm, Below.refl _ _⟩
    · have h0' : decide (n < 0) = false := by simpa using h0
      have h8 : 8 < n := by omega
      go_enter Try.func17, Try.ntmps17
      go_wp2_with fail
      go_ret
      exact ⟨ret_bool F.out.symm, Below.refl _ _⟩

theorem list_bad (w : World) (a : Value) (e : Int) (ha : a = .slice none 0 0) (he : (e != 0) = true) (v : Value) :
    Calls Try.prog 14 #[a, .int .i64 e, v, .int .i64 e] w fun r w' => r = .returned (.bool true) ∧ w' = w := by
  subst ha
  have h2 : (e == e) = true := by simp
  go_enter Try.func14, Try.ntmps14
  go_wp2_with fail
  go_ret
  exact ⟨rfl, rfl⟩
theorem list_good (w : World) (u v : Value) (zs : List Int) (h1 : Ints w u zs) (h2 : Ints w v zs) :
    Calls Try.prog 14 #[u, .int .i64 0, v, .int .i64 0] w fun r w' => r = .returned (.bool true) ∧ Below w.heap.size w w' := by
  have HS := hid (Same_any u v zs zs w h1 h2)
  rw [decide_eq_true rfl] at HS
  obtain ⟨a, cap, hv, -⟩ := h1
  obtain ⟨a2, cap2, hv2, -⟩ := h2
  subst hv hv2
  go_enter Try.func14, Try.ntmps14
  go_wp2_with fail
  refine HS.out.mono ?_
  rintro e w1 ⟨rfl, hb⟩
  go_wp2_with fail
  go_ret
  exact ⟨rfl, hb⟩
end Go.Proofs.Ytbfklamboicddaa
