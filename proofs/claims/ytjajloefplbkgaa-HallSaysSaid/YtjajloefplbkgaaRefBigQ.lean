/- rotaref.biggest, Lists; rotalaw.told. -/
import Derived.Test.YtjajloefplbkgaaKLamMQ
import Derived.Test.YtjajloefplbkgaaRefFamQ
namespace Go.Proofs.Ytjajloefplbkgaa
open Go.RowKit

theorem setB_R (n s : Int) : setB n s = (setR n s == 0) := by
  unfold setB setR
  by_cases h : 0 ≤ n ∧ n ≤ 8 ∧ 0 ≤ s ∧ s < 2 ^ n.toNat
  · rw [if_pos h, decide_eq_true h]; rfl
  · rw [if_neg h, decide_eq_false h]; rfl

set_option maxHeartbeats 400000 in
theorem Lists_any (n : Int) (v : Value) (zs : List Int) (w : World) (h : Ints w v zs) :
    Calls Try.prog 4 #[.int .i64 n, v] w fun e w' => e = .returned (.int .i64 (lisR n zs)) ∧ w' = w := by
  have IS := hid (fun s => IsSet_any n s w)
  obtain ⟨a, cap, rfl, hlen, hc⟩ := h
  by_cases hn : 0 ≤ n ∧ n ≤ 8
  · have HF : Hid (lisR n zs = if zs.all (fun s => setR n s == 0) = true then (if 8 < zs.length then 2 else 0) else 1) := by
      show _ = _
      unfold lisR
      simp only [hn, and_true]
    have hn1 : ¬ n < 0 := by omega
    have hn2 : ¬ 8 < n := by omega
    have hn3 : decide (n < 0) = false := by simp; omega
    have hn4 : decide (8 < n) = false := by simp; omega
    clear hn
    go_enter Try.func4, Try.ntmps4
    go_wp2_with fail
    go_loop [5] (fun i => ∃ k : Nat, k ≤ zs.length ∧ i = .int .i64 k ∧ Hid (zs.all (fun s => setR n s == 0) = (zs.drop k).all (fun s => setR n s == 0))) (fun i => zs.length - (intOf i).toNat)
    case atStart => exact ⟨0, Nat.zero_le _, rfl, rfl⟩
    case round =>
      obtain ⟨k, hk, rfl, R⟩ := hrel
      by_cases hlt : k < zs.length
      · obtain ⟨b, off, rfl, hb, hcell⟩ := hc (by omega)
        have hck := hcell k hlt
        have D := hid (allI_drop (p := fun s => setR n s == 0) hlt)
        have C1 := hid (IS.out (zs.getD k 0))
        rw [setB_R] at C1
        have hki : (k : Int) < (zs.length : Int) := by omega
        clear hcell hc
        generalize zs.getD k 0 = x at *
        rcases h1 : (setR n x == 0) with _ | _
        · rw [h1] at C1 D
          have F : Hid (lisR n zs = 1) := by
            show _ = _
            rw [HF.out, if_neg]
            rw [R.out, D.out]
            simp
          go_wp2_with fail
          refine C1.out.mono ?_
          rintro e w' ⟨rfl, hw'⟩
          subst hw'
          go_wp2_with fail
          go_ret
          exact ⟨ret_int F.out.symm, rfl⟩
        · rw [h1] at C1 D
          go_wp2_with fail
          refine C1.out.mono ?_
          rintro e w' ⟨rfl, hw'⟩
          subst hw'
          go_wp2_with fail
          go_round
          case rel => exact ⟨k + 1, by omega, by go_num, by show _ = _; rw [R.out, D.out]; rfl⟩
          case measure => simp [intOf]; omega
      · have hall : zs.all (fun s => setR n s == 0) = true := by rw [R.out, List.drop_of_length_le (by omega)]; rfl
        rw [if_pos hall] at HF
        by_cases h8 : 8 < zs.length
        · have h8' : (8 : Int) < (zs.length : Int) := by omega
          rw [if_pos h8] at HF
          go_wp2_with fail
          go_ret
          exact ⟨ret_int HF.out.symm, rfl⟩
        · have h8' : ¬ (8 : Int) < (zs.length : Int) := by omega
          rw [if_neg h8] at HF
          go_wp2_with fail
          go_ret
          exact ⟨ret_int HF.out.symm, rfl⟩
  · have F : Hid (lisR n zs = 1) := by show _ = _; unfold lisR; rw [if_neg (fun c => hn c.2)]
    by_cases hn1 : n < 0
    · have hn3 : decide (n < 0) = true := by simp; omega
      go_enter Try.func4, Try.ntmps4
      go_wp2_with fail
      go_ret
      exact ⟨ret_int F.out.symm, rfl⟩
    · have hn2 : 8 < n := by omega
      have hn3 : decide (n < 0) = false := by simp; omega
      have hn4 : decide (8 < n) = true := by simp; omega
      go_enter Try.func4, Try.ntmps4
      go_wp2_with fail
      go_ret
      exact ⟨ret_int F.out.symm, rfl⟩
end Go.Proofs.Ytjajloefplbkgaa
