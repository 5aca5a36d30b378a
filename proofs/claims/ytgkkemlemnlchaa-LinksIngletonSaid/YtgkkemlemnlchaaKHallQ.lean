/- kinds.meetings, canBeGiven, keepsTo, crossesOne. -/
import Derived.Test.YtgkkemlemnlchaaQuietQ
import Derived.Test.YtgkkemlemnlchaaPlainAll
import Derived.Deep.QuietTactic
import Derived.BigQuiet
namespace Go.Proofs.Ytgkkemlemnlchaa
open Go.RowKit

set_option maxHeartbeats 400000 in
theorem meetings_any (v : Value) (l : List Nat) (s : Nat) (w : World) (hs : s < 256) (hl : ∀ s ∈ l, s < 256) (h : Ints w v (N l)) :
    Calls Try.prog 32 #[v, .int .i64 s] w fun e w' => e = .returned (.int .i64 (meets l s : Nat)) ∧ w' = w := by
  obtain ⟨a, cap, rfl, hlen, hc⟩ := h.nats
  clear h
  go_enter Try.func32, Try.ntmps32
  go_wp2_with fail
  go_loop [5, 10] (fun u i => ∃ k : Nat, k ≤ l.length ∧ i = .int .i64 k ∧ u = .int .i64 (meets (l.take k) s : Nat)) (fun _ i => l.length - (intOf i).toNat)
  case atStart => exact ⟨0, Nat.zero_le _, rfl, rfl⟩
  case round =>
    obtain ⟨k, hk, rfl, rfl⟩ := hrel
    by_cases hlt : k < l.length
    · obtain ⟨b, off, rfl, hb, hcell⟩ := hc (by omega)
      have hck := hcell k hlt
      have D := hid (meets_take (t := s) hlt)
      have hx := getD_lt hl k
      have hle := meets_le (l.take k) s
      rw [List.length_take] at hle
      clear hcell hc
      generalize l.getD k 0 = x at hck D hx
      generalize meets (l.take k) s = y at *
      have hand : bits .and .i64 (x : Int) (s : Int) = ((x &&& s : Nat) : Int) := i64_and_nat x s (by omega) (by omega)
      by_cases h1 : x &&& s = 0
      · have h1' : (((x &&& s : Nat) : Int) != 0) = false := by rw [h1]; rfl
        go_wp2_with fail
        go_round
        case rel => exact ⟨k + 1, by omega, by go_num, by rw [D.out]; simp [meetB, h1]⟩
        case measure => simp [intOf]; omega
      · have h1' : (((x &&& s : Nat) : Int) != 0) = true := by rw [bne_iff_ne]; omega
        go_wp2_with fail
        go_round
        case rel => exact ⟨k + 1, by omega, by go_num, by rw [D.out]; simp [meetB, h1]⟩
        case measure => simp [intOf]; omega
    · have hk' : k = l.length := by omega
      subst hk'
      rw [List.take_length]
      go_wp2_with fail
      go_ret
      exact ⟨rfl, rfl⟩
set_option maxHeartbeats 400000 in
theorem canGive_any (v : Value) (l : List Nat) (s : Nat) (w : World) (hs : s < 256) (hl : ∀ s ∈ l, s < 256) (h : Ints w v (N l)) :
    Calls Try.prog 23 #[v, .int .i64 s] w fun e w' => e = .returned (.bool (hallTo l s s)) ∧ w' = w := by
  have MT := hid (fun c (hc : c < 256) => meetings_any v l c w hc hl h)
  have SZ := hid (fun c (hc : c < 256) => size_any c w hc)
  obtain ⟨a, cap, rfl, hlen, hc⟩ := h.nats
  clear h hc
  go_enter Try.func23, Try.ntmps23
  go_wp2_with fail
  go_loop [5] (fun u => ∃ c : Nat, c ≤ s ∧ u = .int .i64 c ∧ Hid (subB c s = true ∧ hallTo l s s = hallTo l s c)) (fun u => (intOf u).toNat)
  case atStart => exact ⟨s, Nat.le_refl _, rfl, subB_iff.2 fun _ h => h, rfl⟩
  case round =>
    obtain ⟨c, hcs, rfl, R⟩ := hrel
    by_cases h0 : c = 0
    · subst h0
      have F : Hid (hallTo l s s = true) := by show _ = _; rw [R.out.2, hall_zero]
      go_wp2_with fail
      go_ret
      exact ⟨ret_bool F.out.symm, rfl⟩
    · have D := hid (hall_step (l := l) R.out.1 h0 (by omega : c < 256))
      have hc0 : ((c : Int) != 0) = true := by rw [bne_iff_ne]; omega
      have hc1 : ((c : Int) - 1) = ((c - 1 : Nat) : Int) := by omega
      have hand : bits .and .i64 ((c - 1 : Nat) : Int) (s : Int) = (((c - 1) &&& s : Nat) : Int) := i64_and_nat (c - 1) s (by omega) (by omega)
      have MC := hid (MT.out c (by omega))
      have SC := hid (SZ.out c (by omega))
      have NX := hid (next_sub c s)
      have hlt := next_lt s h0
      by_cases hm : meets l c < pop c
      · have hm' : ((meets l c : Nat) : Int) < ((pop c : Nat) : Int) := by omega
        have F : Hid (hallTo l s s = false) := by
          show _ = _
          rw [R.out.2, D.out, decide_eq_false (by omega : ¬ pop c ≤ meets l c)]
          rfl
        clear hand hc1 hlt
        generalize meets l c = x at *
        generalize pop c = y at *
        go_wp2_with fail
        refine MC.out.mono ?_
        rintro e w' ⟨rfl, hw'⟩
        subst hw'
        go_wp2_with fail
        refine SC.out.mono ?_
        rintro e w'' ⟨rfl, hw''⟩
        subst hw''
        go_wp2_with fail
        go_ret
        exact ⟨ret_bool F.out.symm, rfl⟩
      · have hm' : ¬ ((meets l c : Nat) : Int) < ((pop c : Nat) : Int) := by omega
        have F : Hid (hallTo l s s = hallTo l s ((c - 1) &&& s)) := by
          show _ = _
          rw [R.out.2, D.out, decide_eq_true (by omega : pop c ≤ meets l c)]
          rfl
        generalize (c - 1) &&& s = d at *
        generalize meets l c = x at *
        generalize pop c = y at *
        go_wp2_with fail
        refine MC.out.mono ?_
        rintro e w' ⟨rfl, hw'⟩
        subst hw'
        go_wp2_with fail
        refine SC.out.mono ?_
        rintro e w'' ⟨rfl, hw''⟩
        subst hw''
        go_wp2_with fail
        go_round
        case rel => exact ⟨d, by omega, rfl, NX.out, F.out⟩
        case measure => simp [intOf]; omega
end Go.Proofs.Ytgkkemlemnlchaa
