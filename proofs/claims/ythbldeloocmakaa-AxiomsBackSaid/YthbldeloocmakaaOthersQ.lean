/- Contracts of hasOtherWithin, hasOtherAround, canSpareOne. -/
import Derived.Test.YthbldeloocmakaaIntsQ
namespace Go.Proofs.Ythbldeloocmakaa
open Go.RowKit

set_option maxHeartbeats 400000 in
theorem hasOtherAround_any (v : Value) (l : List Nat) (s : Nat) (w : World) (hs : s < 256) (hl : ∀ s ∈ l, s < 256) (h : Ints w v (N l)) :
    Calls Try.prog 99 #[v, .int .i64 s] w fun e w' => e = .returned (.bool (l.any (otherOut s))) ∧ w' = w := by
  obtain ⟨a, cap, rfl, hlen, hc⟩ := h.nats
  clear h
  go_enter Try.func99, Try.ntmps99
  go_wp2_with fail
  go_loop [9] (fun i => ∃ k : Nat, k ≤ l.length ∧ i = .int .i64 k ∧ Hid (l.any (otherOut s) = (l.drop k).any (otherOut s))) (fun i => l.length - (intOf i).toNat)
  case atStart => exact ⟨0, Nat.zero_le _, rfl, rfl⟩
  case round =>
    obtain ⟨k, hk, rfl, R⟩ := hrel
    by_cases hlt : k < l.length
    · obtain ⟨b, off, rfl, hb, hcell⟩ := hc (by omega)
      have hck := hcell k hlt
      have D := hid (any_drop (p := otherOut s) hlt)
      have hx := getD_lt hl k
      clear hcell hc
      generalize l.getD k 0 = x at hck D hx
      by_cases h1 : x = s
      · have h1' : ((x : Int) != (s : Int)) = false := by rw [h1]; simp
        have P1 : Hid (otherOut s x = false) := by show otherOut s x = false; simp [otherOut, h1]
        clear h1
        go_wp2_with fail
        go_round
        case rel => exact ⟨k + 1, by omega, by go_num, by show l.any (otherOut s) = _; rw [R.out, D.out, P1.out]; rfl⟩
        case measure => simp [intOf]; omega
      · have h1' : ((x : Int) != (s : Int)) = true := by rw [bne_iff_ne]; omega
        rcases hsub : subB s x with _ | _
        · have P1 : Hid (otherOut s x = false) := by show otherOut s x = false; simp [otherOut, hsub]
          go_wp2_with fail
          refine (within_any _ _ _ hs hx).mono ?_
          rintro e w' ⟨rfl, rfl⟩
          go_wp2_with fail
          go_round
          case rel => exact ⟨k + 1, by omega, by go_num, by show l.any (otherOut s) = _; rw [R.out, D.out, P1.out]; rfl⟩
          case measure => simp [intOf]; omega
        · have P1 : Hid (otherOut s x = true) := by show otherOut s x = true; simp [otherOut, hsub, h1]
          go_wp2_with fail
          refine (within_any _ _ _ hs hx).mono ?_
          rintro e w' ⟨rfl, rfl⟩
          go_wp2_with fail
          go_ret
          exact ⟨ret_bool (by rw [R.out, D.out, P1.out]; rfl), rfl⟩
    · go_wp2_with fail
      go_ret
      exact ⟨ret_bool (by rw [R.out, List.drop_of_length_le (by omega)]; rfl), rfl⟩
end Go.Proofs.Ythbldeloocmakaa
