/- One number of a row of one's own is put. -/
import Derived.Test.YtomajfpincehnaaOrdBW
namespace Go.Proofs.Ytomajfpincehnaa
open Go.RowKit

/-- One number of a row is put. -/
theorem Own.put {B : Nat} {W : World} {g n c j x : Nat} {L : List Nat} (h : Own B W (.slice (some ⟨g, 0, none⟩) n c) L) (_hj : j < L.length) : Own B (W.setCell ⟨g, j, none⟩ (.int .i64 (x : Nat))) (.slice (some ⟨g, 0, none⟩) n c) (L.set j x) := by
  have hlen := h.len
  obtain ⟨h0, h1⟩ := h
  rcases h1 with ⟨hv, _⟩ | ⟨g', cap, cur, hv, hg, hh, hn, hm, hs, ht⟩
  · cases hv
  · simp only [Value.slice.injEq, Option.some.injEq, Addr.mk.injEq, and_true] at hv
    obtain ⟨rfl, rfl, rfl⟩ := hv
    rw [Nat.mul_one] at hs ht
    refine ⟨by simp [V], .inr ⟨g, c, cur.set! j (.int .i64 (x : Nat)), by simp, hg, ?_, by simpa using hn, hm, by rw [Nat.mul_one]; simpa using hs, ?_⟩⟩
    · obtain ⟨hlt, hk⟩ := Array.getElem?_eq_some_iff.1 hh
      simp only [World.setCell, Array.getElem?_modify, ↓reduceIte, hh, Option.map_some]
      rfl
    · rw [Nat.mul_one, List.length_set]
      simp only [Array.set!_eq_setIfInBounds, Array.toList_setIfInBounds, List.take_set, ht]
      unfold V
      rw [List.map_set]
theorem Own.frozenAt {B : Nat} {W : World} {g n c j : Nat} {L : List Nat} (h : Own B W (.slice (some ⟨g, 0, none⟩) n c) L) : W.frozen? ⟨g, j, none⟩ = false := by
  obtain ⟨h0, h1⟩ := h
  rcases h1 with ⟨hv, _⟩ | ⟨g', cap, cur, hv, hg, hh, _⟩
  · cases hv
  · simp only [Value.slice.injEq, Option.some.injEq, Addr.mk.injEq, and_true] at hv
    obtain ⟨rfl, rfl, rfl⟩ := hv
    simp [World.frozen?, hh]
end Go.Proofs.Ytomajfpincehnaa
