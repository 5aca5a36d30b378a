/- Contracts of the document's own helpers: rotaref.In, Elements, Size, Within; rotalaw.Same[int]. -/
import Derived.Test.YtcmcgpmjjionnaaOwnQ
import Derived.Deep.QuietTactic
import Derived.BigQuiet
namespace Go.Proofs.Ytcmcgpmjjionnaa
open Go.RowKit

theorem in_fact : ∀ s : Nat, s < 256 → ∀ i : Nat, i < 8 → ((s : Int) / 2 ^ i % 2 == 1) = s.testBit i := by decide +kernel

theorem range_hit' {p : Nat → Bool} {k : Nat} (hp : p k = true) : (List.range (k + 1)).filter p = (List.range k).filter p ++ [k] := by
  rw [List.range_succ, List.filter_append, List.filter_cons, hp]; simp
theorem range_miss' {p : Nat → Bool} {k : Nat} (hp : p k = false) : (List.range (k + 1)).filter p = (List.range k).filter p := by
  rw [List.range_succ, List.filter_append, List.filter_cons, hp]; simp
theorem range_le' (p : Nat → Bool) (k : Nat) : ((List.range k).filter p).length ≤ k := by
  have := List.length_filter_le p (List.range k); simpa using this

theorem Own.form {B : Nat} {w : World} {v : Value} {l : List Nat} (h : Own B w v l) : ∃ a cap, v = .slice a l.length cap := by
  rcases Go.Joins.ownsRow_forms h with ⟨rfl, h0⟩ | ⟨g, cap, rfl⟩
  · exact ⟨none, 0, by rw [h0]⟩
  · exact ⟨_, cap, rfl⟩

theorem same_step {zs ys : List Int} {k : Nat} (hl : zs.length = ys.length) (hk : k < zs.length) : decide (zs.drop k = ys.drop k) = (decide (zs.getD k 0 = ys.getD k 0) && decide (zs.drop (k + 1) = ys.drop (k + 1))) := by
  rw [drop_getD hk, drop_getD (by omega : k < ys.length), Bool.eq_iff_iff]
  simp

end Go.Proofs.Ytcmcgpmjjionnaa
