/- axioms.closure. -/
import Derived.Test.YtomajfpincehnaaIndQ
import Derived.Test.YtomajfpincehnaaIsIndQ
import Derived.Test.YtomajfpincehnaaPlainAll
namespace Go.Proofs.Ytomajfpincehnaa
open Go.RowKit Go.Shelf
attribute [local go_sem] Oper.semAt_some

/-- What closure has reckoned when some have come. -/
def cloTo (r : Nat → Nat) (s : Nat) (l : List Nat) : Nat := l.foldl (fun a i => if r (s ||| 2 ^ i) = r s then a ||| 2 ^ i else a) s
theorem cloTo_snoc (r : Nat → Nat) (s : Nat) (l : List Nat) (i : Nat) : cloTo r s (l ++ [i]) = if r (s ||| bt i) = r s then cloTo r s l ||| bt i else cloTo r s l := by
  unfold cloTo bt
  rw [List.foldl_append]
  rfl
theorem cloTo_lt (r : Nat → Nat) (s : Nat) (hs : s < 256) : ∀ (l : List Nat), (∀ i ∈ l, i < 8) → cloTo r s l < 256 := fun l hl => by
  refine lt_of_bits (n := 8) fun j hj => ?_
  unfold cloTo at hj
  rw [fold_bit (fun i => r (s ||| 2 ^ i) = r s)] at hj
  simp only [Bool.or_eq_true, Bool.and_eq_true, decide_eq_true_eq] at hj
  rcases hj with hj | hj
  · exact bit8 hs hj
  · exact hl j hj.1

end Go.Proofs.Ytomajfpincehnaa

namespace Go.Proofs.Ytomajfpincehnaa
open Go.RowKit Go.Shelf

theorem RkAt.drewN {w : World} {v : Value} {T : Nat} {r : Nat → Nat} (h : RkAt w v T r) (k : Nat) : RkAt (w.drewN k) v T r := h.below (drewN_below _ _ _)
end Go.Proofs.Ytomajfpincehnaa
