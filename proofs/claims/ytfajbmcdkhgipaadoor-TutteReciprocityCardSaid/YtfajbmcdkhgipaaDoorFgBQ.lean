/- Powers; slices.ContainsFunc over numbers of whatever sign. -/
import Derived.Test.YtfajbmcdkhgipaaDoorSieveQ
namespace Go.Proofs.YtfajbmcdkhgipaaDoor
open Go.RowKit

theorem anyZ_drop {p : Int → Bool} {l : List Int} {k : Nat} (hk : k < l.length) : (l.drop k).any p = (p (l.getD k 0) || (l.drop (k + 1)).any p) := by
  conv => lhs; rw [List.drop_eq_getElem_cons hk, List.any_cons]
  simp [List.getD, hk]
/-- A function value that answers as p does at each of l, wherever nothing below B has turned. -/
def AnswersZ (B : Nat) (w : World) (g : Nat) (cs : Array Value) (l : List Int) (p : Int → Bool) : Prop :=
  ∀ x ∈ l, ∀ w1, Below B w w1 → B ≤ w1.heap.size → Calls Tryd.prog g (#[.int .i64 x] ++ cs) w1 fun e w2 => e = .returned (.bool (p x)) ∧ Below w1.heap.size w1 w2
theorem pow_le_3 {a k : Nat} (ha : a ≤ 3) (hk : k ≤ 8) : a ^ k ≤ 6561 := Nat.le_trans (Nat.pow_le_pow_left ha k) (Nat.le_trans (Nat.pow_le_pow_right (by decide) hk) (by decide))
set_option maxHeartbeats 800000 in
theorem Power_ok (a b : Nat) (w : World) (ha : a ≤ 3) (hb : b ≤ 8) :
    Calls Tryd.prog 9 #[.int .i64 a, .int .i64 b] w fun e w' => e = .returned (.int .i64 (a ^ b : Nat)) ∧ w' = w := by
  go_enter Tryd.func9, Tryd.ntmps9
  go_wp2_with fail
  go_loopw [5, 7] (fun z i W => ∃ k : Nat, k ≤ b ∧ z = .int .i64 (a ^ k : Nat) ∧ i = .int .i64 k ∧ W = w) (fun _ i _ => b - (intOf i).toNat)
  case atStart => exact ⟨0, by omega, by simp, rfl, rfl⟩
  case round =>
    obtain ⟨k, hk, rfl, rfl, rfl⟩ := hrel
    by_cases hlt : k < b
    · have hi : (k : Int) < (b : Int) := by omega
      have hp := pow_le_3 (a := a) (k := k + 1) ha (by omega)
      have hmk : b - (k + 1) < b - k := by omega
      have hmul : ((a ^ k : Nat) : Int) * (a : Int) = ((a ^ (k + 1) : Nat) : Int) := by rw [Nat.pow_succ, Int.natCast_mul]
      obtain ⟨z1, hz1⟩ : ∃ z1, a ^ (k + 1) = z1 := ⟨_, rfl⟩
      obtain ⟨z0, hz0⟩ : ∃ z0, a ^ k = z0 := ⟨_, rfl⟩
      rw [hz0, hz1] at hmul
      rw [hz0]
      rw [hz1] at hp
      have HZ := hid hz1
      have HLT := hid hlt
      have hw3 : IntKind.i64.wrap ((z0 : Int) * (a : Int)) = (z1 : Nat) := by rw [hmul]; exact IntWalk.i64_in _ (by omega)
      clear hz1 hz0 hlt
      go_wp2_with fail
      go_roundw
      case rel => exact ⟨k + 1, HLT.out, by rw [HZ.out], by go_num, trivial⟩
      case measure => exact hmk
    · obtain rfl : k = b := by omega
      have hn : ¬ (k : Int) < (k : Int) := by omega
      obtain ⟨z0, hz0⟩ : ∃ z0, a ^ k = z0 := ⟨_, rfl⟩
      have HZ := hid hz0
      rw [hz0]
      clear hz0
      go_wp2_with fail
      go_ret
      refine ⟨ret_int ?_, rfl⟩
      rw [← HZ.out]
      simp
end Go.Proofs.YtfajbmcdkhgipaaDoor
