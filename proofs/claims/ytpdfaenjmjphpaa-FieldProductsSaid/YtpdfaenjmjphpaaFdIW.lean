/- field.Reduced, field.Rank. -/
import Derived.Test.YtpdfaenjmjphpaaFdGQ
import Derived.Test.YtpdfaenjmjphpaaKLlW
namespace Go.Proofs.Ytpdfaenjmjphpaa
open Go.RowKit

/-- The boxes of a matrix that comes in and of one that goes out. -/
def bxM (w : World) (p c : Int) (v : Value) : World := (w.alloc (.cells #[.int .i64 p, .int .i64 c, v] 24)).alloc (.cells #[.int .i64 0, .int .i64 0, .slice none 0 0] 24)
theorem bxM_ok (w : World) (p c : Int) (v : Value) : (bxM w p c v).heap.size = w.heap.size + 1 + 1 ∧ Below w.heap.size w (bxM w p c v) ∧ (bxM w p c v).heap[w.heap.size]? = some (.cells #[.int .i64 p, .int .i64 c, v] 24 (0, 0)) ∧ (bxM w p c v).heap[w.heap.size + 1]? = some (.cells #[.int .i64 0, .int .i64 0, .slice none 0 0] 24 (0, 0)) := by
  have e1 : (w.alloc (.cells #[.int .i64 p, .int .i64 c, v] 24)).heap.size = w.heap.size + 1 := by simp
  have b1 : Below (w.heap.size + 1) (w.alloc (.cells #[.int .i64 p, .int .i64 c, v] 24)) (bxM w p c v) := (Below.refl _ _).alloc (by omega) _
  refine ⟨by simp [bxM], ((Below.refl _ _).alloc (Nat.le_refl _) _).alloc (by simp) _, (b1.block _ (by omega)).trans (World.alloc_heap_new w _), ?_⟩
  have := World.alloc_heap_new (w.alloc (.cells #[.int .i64 p, .int .i64 c, v] 24)) (.cells #[.int .i64 0, .int .i64 0, .slice none 0 0] 24)
  rw [e1] at this
  exact this
/-- What a matrix without a fault is. -/
structure MatOK (p c : Int) (R : List (List Int)) : Prop where
  pr : isP p
  c0 : 0 ≤ c
  c8 : c ≤ 8
  rl : R.length ≤ 6
  len : ∀ k, k < R.length → ((R.getD k []).length : Int) = c
  rng : ∀ k, k < R.length → ∀ r : Nat, (r : Int) < c → 0 ≤ rowF R k r ∧ rowF R k r < p
theorem MatOK.of {p c : Int} {R : List (List Int)} (h : matR p c R = 0) : MatOK p c R := by
  unfold matR at h
  split at h
  · rename_i g
    obtain ⟨g1, g2, g3, g4, g5⟩ := g
    refine ⟨(mduB_iff p).1 g1, g2, g3, g4, fun k hk => (row_len g5 hk).1, fun k hk r hr => ?_⟩
    obtain ⟨e1, e2⟩ := row_len g5 hk
    have hl : r < (R.getD k []).length := by omega
    refine e2 _ ?_
    unfold rowF
    rw [show (R.getD k []).getD r 0 = (R.getD k [])[r] from by rw [List.getD_eq_getElem?_getD, List.getElem?_eq_getElem hl]; rfl]
    exact List.getElem_mem _
  · cases h
theorem MatOK.iff {p c : Int} {R : List (List Int)} : matR p c R = 0 ↔ MatOK p c R := by
  refine ⟨MatOK.of, fun h => ?_⟩
  unfold matR
  rw [if_pos]
  refine ⟨(mduB_iff p).2 h.pr, h.c0, h.c8, h.rl, List.all_eq_true.2 fun r hr => ?_⟩
  obtain ⟨k, hk, rfl⟩ := List.getElem_of_mem hr
  have e : R.getD k [] = R[k] := by simp [List.getD, hk]
  have h1 := h.len k hk
  have h2 := h.rng k hk
  unfold rowF at h2
  rw [e] at h1 h2
  unfold rowB
  rw [Bool.and_eq_true]
  refine ⟨by simpa using h1, List.all_eq_true.2 fun x hx => ?_⟩
  obtain ⟨r, hr, rfl⟩ := List.getElem_of_mem hx
  have h3 := h2 r (by omega)
  rw [show R[k].getD r 0 = R[k][r] by simp [List.getD, hr]] at h3
  unfold inB
  simp
  exact h3
theorem matR_01 (p c : Int) (R : List (List Int)) : matR p c R = 0 ∨ matR p c R = 1 := by unfold matR; split <;> simp
/-- The reduced rows. -/
def redL (p : Int) (c : Nat) (R : List (List Int)) : List (List Int) := matL (redN p c R.length (rowF R)) c (redF p c R.length (rowF R))
theorem redL_len (p : Int) (c : Nat) (R : List (List Int)) : (redL p c R).length = redN p c R.length (rowF R) := matL_len _ _ _
theorem RowsI.nil (w : World) : RowsI w (.slice none 0 0) [] := ⟨none, 0, rfl, by simp, fun h => absurd h (Nat.lt_irrefl 0)⟩
theorem RowsI.drew {w : World} {v : Value} {R : List (List Int)} (h : RowsI w v R) : RowsI w.drew v R := h.below ((Below.refl _ _).drew)
end Go.Proofs.Ytpdfaenjmjphpaa

namespace Go.Proofs.Ytpdfaenjmjphpaa
open Go.RowKit

end Go.Proofs.Ytpdfaenjmjphpaa
