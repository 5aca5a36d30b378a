/- wide.divided. -/
import Derived.Test.YtfajbmcdkhgipaaDoorWdAQ
import Derived.Test.YtfajbmcdkhgipaaDoorEqQ
namespace Go.Proofs.YtfajbmcdkhgipaaDoor
open Go.RowKit Go.Lib

theorem set_heap_other (W : World) (p : Addr) (x : Value) {k : Nat} (h : p.block ≠ k) : (W.setCell p x).heap[k]? = W.heap[k]? := by
  unfold World.setCell
  dsimp only
  rw [Array.getElem?_modify]
  simp [h]
theorem set_heap_0 {W : World} {b : Nat} {p q x : Value} {t : TypeId} (h : W.heap[b]? = some (.cells #[p, q] t (0, 0))) : (W.setCell ⟨b, 0, none⟩ x).heap[b]? = some (.cells #[x, q] t (0, 0)) := by
  unfold World.setCell
  dsimp only
  rw [Array.getElem?_modify, h]
  simp
theorem set_heap_1 {W : World} {b : Nat} {p q x : Value} {t : TypeId} (h : W.heap[b]? = some (.cells #[p, q] t (0, 0))) : (W.setCell ⟨b, 1, none⟩ x).heap[b]? = some (.cells #[p, x] t (0, 0)) := by
  unfold World.setCell
  dsimp only
  rw [Array.getElem?_modify, h]
  simp
end Go.Proofs.YtfajbmcdkhgipaaDoor

namespace Go.Proofs.YtfajbmcdkhgipaaDoor
open Go.RowKit Go.Lib

/-- How far a division has come: k bits of A are taken. -/
structure Dvd (A B k a q r : Nat) : Prop where
  ex : ∃ p, A * 2 ^ k = p * 340282366920938463463374607431768211456 + a ∧ p < 2 ^ k ∧ q = p / B ∧ r = p % B
theorem Dvd.start (A B : Nat) : Dvd A B 0 A 0 0 := ⟨0, by simp, by simp, by simp, by simp⟩
theorem pow_half {k : Nat} (hk : k < 128) : 2 ^ k * 2 ≤ 340282366920938463463374607431768211456 := by
  have : 2 ^ (k + 1) ≤ 2 ^ 128 := Nat.pow_le_pow_right (by omega) (by omega)
  rwa [Nat.pow_succ] at this
theorem Dvd.q_lt {A B k a q r : Nat} (h : Dvd A B k a q r) (hk : k < 128) : 2 * q + 1 < 340282366920938463463374607431768211456 := by
  obtain ⟨p, h1, h2, h3, h4⟩ := h
  have := pow_half hk
  have h5 : q ≤ p := by rw [h3]; exact Nat.div_le_self _ _
  omega
theorem Dvd.r_lt {A B k a q r : Nat} (h : Dvd A B k a q r) (hB : 0 < B) : r < B := by
  obtain ⟨p, h1, h2, h3, h4⟩ := h
  rw [h4]; exact Nat.mod_lt _ hB
theorem Dvd.step {A B k a q r : Nat} (h : Dvd A B k a q r) (ha : a < 340282366920938463463374607431768211456) (hB : 0 < B) : (2 * r + a / 170141183460469231731687303715884105728 < B → Dvd A B (k + 1) (2 * a % 340282366920938463463374607431768211456) (2 * q) (2 * r + a / 170141183460469231731687303715884105728)) ∧ (¬ 2 * r + a / 170141183460469231731687303715884105728 < B → Dvd A B (k + 1) (2 * a % 340282366920938463463374607431768211456) (2 * q + 1) (2 * r + a / 170141183460469231731687303715884105728 - B)) := by
  have hr := h.r_lt hB
  obtain ⟨p, h1, h2, h3, h4⟩ := h
  have hp := Nat.div_add_mod p B
  rw [← h3, ← h4] at hp
  have e1 : A * 2 ^ (k + 1) = (2 * p + a / 170141183460469231731687303715884105728) * 340282366920938463463374607431768211456 + 2 * a % 340282366920938463463374607431768211456 := by
    rw [Nat.pow_succ, ← Nat.mul_assoc, h1]; omega
  have e2 : 2 * p + a / 170141183460469231731687303715884105728 < 2 ^ (k + 1) := by rw [Nat.pow_succ]; omega
  have e3 : 2 * p = B * (2 * q) + 2 * r := by rw [← hp, Nat.mul_add, Nat.mul_left_comm]
  have hc : a / 170141183460469231731687303715884105728 ≤ 1 := by omega
  generalize a / 170141183460469231731687303715884105728 = c at *
  constructor
  · intro hlt
    have e4 : 2 * p + c = B * (2 * q) + (2 * r + c) := by omega
    refine ⟨2 * p + c, e1, e2, ?_, ?_⟩
    · rw [e4, Nat.mul_add_div hB, Nat.div_eq_of_lt hlt, Nat.add_zero]
    · rw [e4, Nat.mul_add_mod, Nat.mod_eq_of_lt hlt]
  · intro hlt
    have e4 : 2 * p + c = B * (2 * q + 1) + (2 * r + c - B) := by rw [Nat.mul_add, Nat.mul_one]; omega
    have hl2 : 2 * r + c - B < B := by omega
    refine ⟨2 * p + c, e1, e2, ?_, ?_⟩
    · rw [e4, Nat.mul_add_div hB, Nat.div_eq_of_lt hl2, Nat.add_zero]
    · rw [e4, Nat.mul_add_mod, Nat.mod_eq_of_lt hl2]
theorem Dvd.done {A B a q r : Nat} (h : Dvd A B 128 a q r) (ha : a < 340282366920938463463374607431768211456) : q = A / B ∧ r = A % B := by
  obtain ⟨p, h1, h2, h3, h4⟩ := h
  have e : (2 : Nat) ^ 128 = 340282366920938463463374607431768211456 := by decide
  rw [e] at h1
  have : p = A := by omega
  rw [h3, h4, this]; exact ⟨rfl, rfl⟩
end Go.Proofs.YtfajbmcdkhgipaaDoor
