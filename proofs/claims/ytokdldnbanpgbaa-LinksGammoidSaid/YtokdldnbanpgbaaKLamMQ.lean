/- kinds.Laminar. -/
import Derived.Test.YtokdldnbanpgbaaKTransW
namespace Go.Proofs.Ytokdldnbanpgbaa
open Go.RowKit

theorem lam_step {l : List Nat} {ms : List Int} {k : Nat} (hk : k < l.length) : lamR l ms (l.length - k) = if lamAt l ms k = 0 then lamR l ms (l.length - (k + 1)) else lamAt l ms k := by
  obtain ⟨j, hj⟩ : ∃ j, l.length - k = j + 1 := ⟨l.length - k - 1, by omega⟩
  have e : l.length - (j + 1) = k := by omega
  have e2 : l.length - (k + 1) = j := by omega
  rw [hj, e2]
  show (if lamAt l ms (l.length - (j + 1)) = 0 then lamR l ms j else lamAt l ms (l.length - (j + 1))) = _
  rw [e]
/-- What is wrong with a family and its numbers. -/
def lamE (n : Int) (zs ms : List Int) : Int := if famR n zs = 0 then (if ms.length = zs.length then lamR (zs.map Int.toNat) ms zs.length else 3) else 1
theorem Ints.takeP {w : World} {a : Option Addr} {L cap k : Nat} {l : List Nat} (h : Ints w (.slice a L cap) (N l)) (hk : k ≤ l.length) : Ints w (.slice a k cap) (N (l.take k)) := by
  obtain ⟨a', cap', e, hl, hc⟩ := h
  obtain ⟨⟨rfl, rfl⟩, rfl⟩ : (a = a' ∧ L = (N l).length) ∧ cap = cap' := by simpa [and_assoc] using e
  rw [N_len] at hl hc
  have ht : (l.take k).length = k := by simp; omega
  refine ⟨a, cap, by rw [N_len, ht], by rw [N_len, ht]; omega, fun h0 => ?_⟩
  rw [N_len, ht] at h0
  obtain ⟨b, off, e1, hb, hcell⟩ := hc (by omega)
  refine ⟨b, off, e1, hb, fun i hi => ?_⟩
  rw [N_len, ht] at hi
  rw [hcell i (by omega), N_getD, N_getD]
  simp [List.getD, hi]
theorem slot3 {w : World} {b c : Value} : (((w.alloc (.cells #[b] 29)).alloc (.cells #[c] 29)).alloc (.cells #[.int .i64 0, .slice none 0 0] 31)).heap[w.heap.size]? = some (.cells #[b] 29 (0, 0)) ∧ (((w.alloc (.cells #[b] 29)).alloc (.cells #[c] 29)).alloc (.cells #[.int .i64 0, .slice none 0 0] 31)).heap[w.heap.size + 1]? = some (.cells #[c] 29 (0, 0)) ∧
    (((w.alloc (.cells #[b] 29)).alloc (.cells #[c] 29)).alloc (.cells #[.int .i64 0, .slice none 0 0] 31)).heap[w.heap.size + 1 + 1]? = some (.cells #[.int .i64 0, .slice none 0 0] 31 (0, 0)) := by
  refine ⟨?_, ?_, ?_⟩
  · rw [Below.heap_alloc _ _ _ (by simp; omega), Below.heap_alloc _ _ _ (by simp)]
    exact World.alloc_heap_new w _
  · rw [Below.heap_alloc _ _ _ (by simp)]
    have := World.alloc_heap_new (w.alloc (.cells #[b] 29)) (.cells #[c] 29)
    rwa [World.size_alloc] at this
  · have := World.alloc_heap_new ((w.alloc (.cells #[b] 29)).alloc (.cells #[c] 29)) (.cells #[.int .i64 0, .slice none 0 0] 31)
    rwa [World.size_alloc, World.size_alloc] at this

end Go.Proofs.Ytokdldnbanpgbaa
