/- kinds.Linear. -/
import Derived.Test.YtcncaaeofcmefaaFdBW
import Derived.Test.YtcncaaeofcmefaaKGraph2Q
namespace Go.Proofs.Ytcncaaeofcmefaa
open Go.RowKit

/-- Are these columns free? -/
def freeC (p : Int) (l : List (Nat → Int)) : Bool := freeTo p (fun k => l.getD k fun _ => 0) l.length
def linB (p : Int) (R : List (List Int)) (c s : Nat) : Bool := freeC p (pickL (mtF R) s c)
theorem row_len {p c : Int} {R : List (List Int)} (h : R.all (rowB p c) = true) {k : Nat} (hk : k < R.length) : ((R.getD k []).length : Int) = c ∧ ∀ x ∈ R.getD k [], 0 ≤ x ∧ x < p := by
  have := List.all_eq_true.1 h (R.getD k []) (by simp only [List.getD, List.getElem?_eq_getElem hk, Option.getD_some]; exact List.getElem_mem _)
  unfold rowB inB at this
  rw [Bool.and_eq_true, beq_iff_eq, List.all_eq_true] at this
  exact ⟨this.1, fun x hx => by simpa using this.2 x hx⟩
theorem mtF_in {p c : Int} {R : List (List Int)} (hp : 0 < p) (h : R.all (rowB p c) = true) (j i : Nat) : 0 ≤ mtF R j i ∧ mtF R j i < p := by
  unfold mtF
  by_cases hi : i < R.length
  · by_cases hj : j < (R.getD i []).length
    · refine (row_len h hi).2 _ ?_
      generalize R.getD i [] = r at *
      simp only [List.getD, List.getElem?_eq_getElem hj, Option.getD_some]
      exact List.getElem_mem _
    · have : (R.getD i []).getD j 0 = 0 := by
        generalize R.getD i [] = r at *
        simp [List.getD, hj]
      rw [this]
      omega
  · have : R.getD i [] = [] := by simp [List.getD, hi]
    rw [this]
    simp
    omega
end Go.Proofs.Ytcncaaeofcmefaa
