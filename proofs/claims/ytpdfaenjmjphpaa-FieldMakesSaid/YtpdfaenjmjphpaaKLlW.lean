/- field.reduced: the walk. -/
import Derived.Test.YtpdfaenjmjphpaaFdFQ
import Derived.Test.YtpdfaenjmjphpaaKGraphQ
import Derived.Test.YtpdfaenjmjphpaaKLcW
namespace Go.Proofs.Ytpdfaenjmjphpaa
open Go.RowKit

def rowF (R : List (List Int)) (i r : Nat) : Int := (R.getD i []).getD r 0
/-- The world when reduced begins to clone rows: the box of x, the box of the result, the rows' block. -/
def redW (w : World) (p : Int) (c : Nat) (v : Value) (N : Nat) : World := (((w.alloc (.cells #[.int .i64 p, .int .i64 c, v] 24)).alloc (.cells #[.int .i64 0, .int .i64 0, .slice none 0 0] 24)).alloc (.cells (madeCells #[.slice none 0 0] N) 35))
theorem redW_ok (w : World) (p : Int) (c : Nat) (v : Value) (N : Nat) : (redW w p c v N).heap.size = w.heap.size + 3 ∧ Below w.heap.size w (redW w p c v N) ∧ (redW w p c v N).heap[w.heap.size]? = some (.cells #[.int .i64 p, .int .i64 c, v] 24 (0, 0)) ∧ (redW w p c v N).heap[w.heap.size + 1]? = some (.cells #[.int .i64 0, .int .i64 0, .slice none 0 0] 24 (0, 0)) ∧ ∀ f, ClnH (redW w p c v N) (w.heap.size + 1 + 1) N c (w.heap.size + 3) 0 (fun _ => 0) (fun _ => 0) f := by
  have e1 : (w.alloc (.cells #[.int .i64 p, .int .i64 c, v] 24)).heap.size = w.heap.size + 1 := by simp
  have e2 : ((w.alloc (.cells #[.int .i64 p, .int .i64 c, v] 24)).alloc (.cells #[.int .i64 0, .int .i64 0, .slice none 0 0] 24)).heap.size = w.heap.size + 1 + 1 := by simp
  have b1 : Below (w.heap.size + 1) (w.alloc (.cells #[.int .i64 p, .int .i64 c, v] 24)) (redW w p c v N) := ((Below.refl _ _).alloc (by omega) _).alloc (by simp) _
  have b2 : Below (w.heap.size + 1 + 1) ((w.alloc (.cells #[.int .i64 p, .int .i64 c, v] 24)).alloc (.cells #[.int .i64 0, .int .i64 0, .slice none 0 0] 24)) (redW w p c v N) := (Below.refl _ _).alloc (by omega) _
  refine ⟨by simp [redW], (((Below.refl _ _).alloc (Nat.le_refl _) _).alloc (by simp) _).alloc (by simp; omega) _, (b1.block _ (by omega)).trans (World.alloc_heap_new w _), ?_, fun f => ⟨fun i hi => by omega, fun i _ hi => ?_, fun i => ?_, fun _ i hi => by omega, fun _ i j hi => by omega, by simp [redW]⟩⟩
  · have := World.alloc_heap_new (w.alloc (.cells #[.int .i64 p, .int .i64 c, v] 24)) (.cells #[.int .i64 0, .int .i64 0, .slice none 0 0] 24)
    rw [e1] at this
    exact (b2.block _ (by omega)).trans this
  · unfold redW
    rw [World.cell?_alloc_at _ _ _ _ (by rw [e2])]
    simp [madeCells, hi, Nat.mod_one]
  · unfold redW
    exact World.frozen?_alloc_at _ _ _ _ (by rw [e2])
theorem gau_zero (p : Int) (N : Nat) (f : Nat → Nat → Int) : gau p N f 0 = (0, f) := rfl
theorem gau_miss {p : Int} {N a : Nat} {f : Nat → Nat → Int} (h : nxtM (gau p N f a).2 a (gau p N f a).1 N = none) : gau p N f (a + 1) = gau p N f a := by
  show gauS p N a (gau p N f a) = _
  unfold gauS
  rw [h]
theorem gau_hit {p : Int} {N a i : Nat} {f : Nat → Nat → Int} (h : nxtM (gau p N f a).2 a (gau p N f a).1 N = some i) : gau p N f (a + 1) = ((gau p N f a).1 + 1, clrM p (gau p N f a).1 a (swpM (gau p N f a).1 ((gau p N f a).1 + i) (gau p N f a).2)) := by
  show gauS p N a (gau p N f a) = _
  unfold gauS
  rw [h]
end Go.Proofs.Ytpdfaenjmjphpaa

namespace Go.Proofs.Ytpdfaenjmjphpaa
open Go.RowKit

end Go.Proofs.Ytpdfaenjmjphpaa

namespace Go.Proofs.Ytpdfaenjmjphpaa
open Go.RowKit

/-- Are these columns free? -/
def freeC (p : Int) (l : List (Nat → Int)) : Bool := freeTo p (fun k => l.getD k fun _ => 0) l.length
def linB (p : Int) (R : List (List Int)) (c s : Nat) : Bool := freeC p (pickL (mtF R) s c)
theorem row_len {p c : Int} {R : List (List Int)} (h : R.all (rowB p c) = true) {k : Nat} (hk : k < R.length) : ((R.getD k []).length : Int) = c ∧ ∀ x ∈ R.getD k [], 0 ≤ x ∧ x < p := by
  have := List.all_eq_true.1 h (R.getD k []) (by simp only [List.getD, List.getElem?_eq_getElem hk, Option.getD_some]; exact List.getElem_mem _)
  unfold rowB inB at this
  rw [Bool.and_eq_true, beq_iff_eq, List.all_eq_true] at this
  exact ⟨this.1, fun x hx => by simpa using this.2 x hx⟩
theorem mtF_in {p c : Int} {R : List (List Int)} (hp : 0 < p) (h : R.all (rowB p c) = true) (j i : Nat) : 0 ≤ mtF R j i ∧ mtF R j i < p := by
  unfold mtF
  by_cases hi : i < R.length
  · by_cases hj : j < (R.getD i []).length
    · refine (row_len h hi).2 _ ?_
      generalize R.getD i [] = r at *
      simp only [List.getD, List.getElem?_eq_getElem hj, Option.getD_some]
      exact List.getElem_mem _
    · have : (R.getD i []).getD j 0 = 0 := by
        generalize R.getD i [] = r at *
        simp [List.getD, hj]
      rw [this]
      omega
  · have : R.getD i [] = [] := by simp [List.getD, hi]
    rw [this]
    simp
    omega
end Go.Proofs.Ytpdfaenjmjphpaa
