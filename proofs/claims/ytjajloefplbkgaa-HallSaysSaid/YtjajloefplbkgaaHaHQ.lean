/- What is answered of a list that stands: for the laws of HALL. -/
import Derived.Test.YtjajloefplbkgaaHaGQ
import Derived.Test.YtjajloefplbkgaaPlainAll
import Derived.Test.YtjajloefplbkgaaRefQ
namespace Go.Proofs.Ytjajloefplbkgaa
open Go.RowKit

theorem ints_two (w : World) (a b : Nat) : Ints (w.alloc (.cells #[.int .i64 a, .int .i64 b] 3)) (.slice (some ⟨w.heap.size, 0, none⟩) 2 2) (N [a, b]) := by
  refine ⟨_, 2, rfl, by simp [N], fun _ => ⟨_, 0, rfl, by simp, fun i hi => ?_⟩⟩
  rw [World.cell?_alloc_at _ _ _ _ rfl]
  have hi2 : i < 2 := hi
  match i, hi2 with
  | 0, _ => rfl
  | 1, _ => rfl
/-- What is taken, and what stands, of a list that was found. -/
structure Stands (m : Nat) (r : Nat → Nat) (q L : List Nat) : Prop where
  len : L.length ≤ q.length
  lt : ∀ k, k < L.length → L.getD k 0 < m
  isin : ∀ k, k < L.length → (q.getD k 0).testBit (L.getD k 0) = true
  new : ∀ k, k < L.length → (usT 0 L k).testBit (L.getD k 0) = false
  small : ∀ k, k ≤ L.length → usT 0 L k < 2 ^ m
  free : r (usT 0 L L.length) = pop (usT 0 L L.length)
theorem stands_of {m : Nat} {r : Nat → Nat} {q L : List Nat} (hm : m ≤ 8) (hr : RkOn m r) (hq : ∀ x ∈ q, x < 2 ^ m) (h : staF r 0 q = some L) : Stands m r q L := by
  obtain ⟨h1, h2⟩ := sta_spec hm q 0 L hq h
  refine ⟨by omega, fun k hk => (h2 k (by omega)).1, fun k hk => (h2 k (by omega)).2.1, fun k hk => (h2 k (by omega)).2.2.1, fun k hk => us_lt (Nat.two_pow_pos m) k fun j hj => (h2 j (by omega)).1, ?_⟩
  rcases hL : L.length with _ | k
  · exact rk_null hr
  · exact (h2 k (by omega)).2.2.2
theorem stands_nil {m : Nat} {r : Nat → Nat} (q : List Nat) (hr : RkOn m r) : Stands m r q [] := ⟨Nat.zero_le _, fun k hk => absurd hk (Nat.not_lt_zero _), fun k hk => absurd hk (Nat.not_lt_zero _), fun k hk => absurd hk (Nat.not_lt_zero _), fun k hk => by
  have : k = 0 := Nat.le_zero.1 hk
  subst this
  exact Nat.two_pow_pos m, rk_null hr⟩
theorem StaE.yes {w w' : World} {L : List Nat} {e : Ending} (h : StaE w (some L) e w') : ∃ v, e = .returned (.tuple #[v, .int .i64 0]) ∧ Own w.heap.size w' v L ∧ Below w.heap.size w w' := by
  obtain ⟨⟨h1, _⟩, h2⟩ := h
  obtain ⟨v, e1, h3⟩ := h1 L rfl
  exact ⟨v, e1, h3, h2⟩
theorem StaE.no {w w' : World} {e : Ending} (h : StaE w none e w') : ∃ v, e = .returned (.tuple #[v, .int .i64 5]) ∧ Own w.heap.size w' v [] ∧ Below w.heap.size w w' := by
  obtain ⟨⟨_, h1⟩, h2⟩ := h
  exact ⟨_, h1 rfl, Own.nil _ _, h2⟩
end Go.Proofs.Ytjajloefplbkgaa
