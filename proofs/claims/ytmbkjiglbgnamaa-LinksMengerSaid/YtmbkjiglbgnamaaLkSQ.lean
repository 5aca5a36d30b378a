/- links.Sets. -/
import Derived.Test.YtmbkjiglbgnamaaLkDQ
import Derived.Test.YtmbkjiglbgnamaaOwnQ
namespace Go.Proofs.Ytmbkjiglbgnamaa
open Go.RowKit

/-- Of each of the first k vertices that T has not, it and where edges lead from it. -/
def setsF (f : Nat → Nat) (T k : Nat) : List Nat := ((List.range k).filter fun v => !T.testBit v).map fun v => f v ||| 2 ^ v
theorem setsF_hit {f : Nat → Nat} {T k : Nat} (h : T.testBit k = false) : setsF f T (k + 1) = setsF f T k ++ [f k ||| 2 ^ k] := by
  unfold setsF
  rw [List.range_succ, List.filter_append]
  simp [h]
theorem setsF_miss {f : Nat → Nat} {T k : Nat} (h : T.testBit k = true) : setsF f T (k + 1) = setsF f T k := by
  unfold setsF
  rw [List.range_succ, List.filter_append]
  simp [h]
theorem setsF_le (f : Nat → Nat) (T k : Nat) : (setsF f T k).length ≤ k := by
  unfold setsF
  rw [List.length_map]
  have := List.length_filter_le (fun v => !T.testBit v) (List.range k)
  rwa [List.length_range] at this
theorem RkAt.cellS {w w' : World} {g c T : Nat} {r : Nat → Nat} (h : RkAt w (.slice (some ⟨g, 0, none⟩) T c) T r) (hb : Below w.heap.size w w') {i : Nat} (hi : i < T) : w'.cell? ⟨g, i, none⟩ = some (.int .i64 (r i : Nat)) := by
  obtain ⟨b, off, c', e, h1, h2⟩ := h.below hb
  obtain ⟨⟨rfl, rfl⟩, rfl⟩ : (g = b ∧ 0 = off) ∧ c = c' := by simpa using e
  have := h2 i hi
  rwa [Nat.zero_add] at this
end Go.Proofs.Ytmbkjiglbgnamaa
