/- slices.BinarySearch. -/
import Derived.Test.YtfajbmcdkhgipaaDoorOwnW
import Derived.Deep.QuietTactic
import Derived.BigQuiet
namespace Go.Proofs.YtfajbmcdkhgipaaDoor
open Go.RowKit

theorem bin_lo {l : List Nat} {m t k : Nat} (hup : l.Pairwise (· < ·)) (hm : m < l.length) (hk : k < m + 1) (h : l.getD m 0 < t) : l.getD k 0 < t := by
  rcases Nat.lt_or_ge k m with g | g
  · rw [List.pairwise_iff_getElem] at hup
    have h1 := hup k m (by omega) hm g
    simp only [List.getD, List.getElem?_eq_getElem hm, List.getElem?_eq_getElem (show k < l.length by omega), Option.getD_some] at h ⊢
    omega
  · obtain rfl : k = m := by omega
    exact h
theorem bin_hi {l : List Nat} {m t k : Nat} (hup : l.Pairwise (· < ·)) (hk : m ≤ k) (hk2 : k < l.length) (h : t ≤ l.getD m 0) : t ≤ l.getD k 0 := by
  rcases Nat.lt_or_ge m k with g | g
  · rw [List.pairwise_iff_getElem] at hup
    have h1 := hup m k (by omega) hk2 g
    simp only [List.getD, List.getElem?_eq_getElem hk2, List.getElem?_eq_getElem (show m < l.length by omega), Option.getD_some] at h ⊢
    omega
  · obtain rfl : k = m := by omega
    exact h
theorem bin_end {l : List Nat} {p t : Nat} (hp : p ≤ l.length) (h1 : ∀ k, k < p → l.getD k 0 < t) (h2 : ∀ k, p ≤ k → k < l.length → t ≤ l.getD k 0) (hup : l.Pairwise (· < ·)) :
    (l.filter (· < t)).length = p ∧ memB t l = (decide (p < l.length) && l.getD p 0 == t) := by
  have e : l.filter (· < t) = l.take p := by
    conv => lhs; rw [← List.take_append_drop p l]
    rw [List.filter_append]
    have a1 : (l.take p).filter (· < t) = l.take p := List.filter_eq_self.2 fun x hx => by
      obtain ⟨i, hi, rfl⟩ := List.mem_take_iff_getElem.1 hx
      have := h1 i (by omega)
      simp only [List.getD, List.getElem?_eq_getElem (show i < l.length by omega), Option.getD_some] at this
      simpa using this
    have a2 : (l.drop p).filter (· < t) = [] := List.filter_eq_nil_iff.2 fun x hx => by
      obtain ⟨i, hi, rfl⟩ := List.mem_drop_iff_getElem.1 hx
      have := h2 (p + i) (by omega) (by omega)
      simp only [List.getD, List.getElem?_eq_getElem (show p + i < l.length by omega), Option.getD_some] at this
      simp
      omega
    rw [a1, a2, List.append_nil]
  refine ⟨by rw [e, List.length_take]; omega, ?_⟩
  unfold memB
  rw [Bool.eq_iff_iff, decide_eq_true_eq, Bool.and_eq_true, decide_eq_true_eq, beq_iff_eq]
  constructor
  · intro hm
    obtain ⟨i, hi, he⟩ := List.mem_iff_getElem.1 hm
    have g1 : p ≤ i := by
      rcases Nat.lt_or_ge i p with g | g
      · have := h1 i g
        simp only [List.getD, List.getElem?_eq_getElem hi, Option.getD_some] at this
        omega
      · exact g
    have g2 := h2 p (Nat.le_refl _) (by omega)
    refine ⟨by omega, ?_⟩
    have g3 := bin_hi (t := l.getD p 0) hup g1 hi (Nat.le_refl _)
    simp only [List.getD, List.getElem?_eq_getElem hi, Option.getD_some] at g3 g2 ⊢
    omega
  · rintro ⟨hp2, he⟩
    simp only [List.getD, List.getElem?_eq_getElem hp2, Option.getD_some] at he
    rw [← he]
    exact List.getElem_mem _
end Go.Proofs.YtfajbmcdkhgipaaDoor

namespace Go.Proofs.YtfajbmcdkhgipaaDoor
open Go.RowKit

theorem drop_mem {zs : List Int} {t : Int} {k : Nat} (h : k < zs.length) : t ∈ zs.drop k ↔ t = zs.getD k 0 ∨ t ∈ zs.drop (k + 1) := by
  rw [drop_getD h, List.mem_cons]
end Go.Proofs.YtfajbmcdkhgipaaDoor
