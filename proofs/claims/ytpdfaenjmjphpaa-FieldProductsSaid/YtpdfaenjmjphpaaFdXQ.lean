/- Determinants of matrices as lists: turned over, and of products. -/
import Derived.Test.YtpdfaenjmjphpaaFdWQ
import Derived.Test.YtpdfaenjmjphpaaPlainAll
namespace Go.Proofs.Ytpdfaenjmjphpaa
open Go.RowKit

theorem el_range (S : Nat) : ∀ d i, elT S d i = (List.range' i d).filter fun j => S.testBit j
  | 0, _ => rfl
  | d + 1, i => by
    rw [List.range'_succ]
    cases e : S.testBit i with
    | true => rw [el_hit e, List.filter_cons_of_pos e, el_range S d (i + 1)]
    | false => rw [el_miss e, List.filter_cons_of_neg (by simp [e]), el_range S d (i + 1)]
theorem el_els {S c : Nat} (hc : c ≤ 8) (hS : S < 2 ^ c) : elT S c 0 = elT S 8 0 := by
  have h0 : (List.range' (0 + c) (8 - c)).filter (fun j => S.testBit j) = [] := List.filter_eq_nil_iff.2 fun j hj => by
    have := List.mem_range'_1.1 hj
    rw [Nat.testBit_lt_two_pow (Nat.lt_of_lt_of_le hS (Nat.pow_le_pow_right (by omega) (by omega)))]
    simp
  have h1 := List.range'_append_1 (s := 0) (m := c) (n := 8 - c)
  rw [show c + (8 - c) = 8 by omega] at h1
  rw [el_range, el_range, ← h1, List.filter_append, h0, List.append_nil]
theorem pop_el : ∀ S : Nat, S < 256 → (elT S 8 0).length = pop S := by decide +kernel
theorem full_el (n : Nat) : elT (2 ^ n - 1) n 0 = List.range n := by
  rw [el_range, List.filter_eq_self.2 fun j hj => ?_, List.range_eq_range']
  have := List.mem_range'_1.1 hj
  rw [Nat.testBit_two_pow_sub_one]
  simp; omega
theorem detZ_em {p : Int} {c : Nat} : ∀ (R Q : List (List Int)) (s : Nat), Q.length = R.length → (∀ i, i < R.length → ∀ j, j < c → Em p ((Q.getD i []).getD j 0) ((R.getD i []).getD j 0)) → Em p (detZ c Q s) (detZ c R s)
  | [], Q, s, hl, _ => by
    have : Q = [] := List.length_eq_zero_iff.1 (by simpa using hl)
    subst this; exact Em.refl _
  | r :: R, Q, s, hl, h => by
    obtain ⟨x, Q', rfl⟩ : ∃ x Q', Q = x :: Q' := by
      cases Q with
      | nil => simp at hl
      | cons x Q' => exact ⟨x, Q', rfl⟩
    refine Em.sm fun j hj => ?_
    unfold lapT
    split
    · have h0 := h 0 (by simp) j hj
      exact ((Em.refl _).mul (by simpa using h0)).mul (detZ_em R Q' _ (by simpa using hl) fun i hi k hk => by
        have := h (i + 1) (by simp; omega) k hk
        simpa using this)
    · exact Em.refl _
variable {p : Int} {c c2 : Nat} {R R2 : List (List Int)}
/-- Turned over it is the same. -/
theorem det_tur (hm : MatOK p c R) (hl : R.length = c) : detL p R.length (turL c R) (2 ^ R.length - 1) = detL p c R (2 ^ c - 1) := by
  refine Em.eq (p := p) ?_ (detL_in hm.pr _ _ _) (detL_in hm.pr _ _ _)
  refine (detL_em p _ _ _).trans (Em.trans (Em.of ?_) (detL_em p _ _ _).symm)
  have e1 : R = (elT (2 ^ c - 1) c 0).map fun i => (List.range c).map (rowF R i) := by
    rw [full_el]
    have := hm.mat_self
    rw [hl] at this
    exact this.symm
  have e2 : turL c R = (elT (2 ^ c - 1) c 0).map fun j => (List.range c).map fun i => rowF R i j := by
    rw [full_el]
    show matL c R.length (fun j i => rowF R i j) = _
    rw [hl]
    rfl
  have h := det_turn c c (rowF R) c (2 ^ c - 1) (2 ^ c - 1) (by rw [full_el]; simp) (by rw [full_el]; simp)
  rw [← e1, ← e2] at h
  rw [hl]
  exact h.symm
/-- The columns of S. -/
def colL (c : Nat) (R : List (List Int)) (S : Nat) : List (List Int) := R.map fun r => (elT S c 0).map fun j => r.getD j 0
/-- The rows of S. -/
def rwsL (c : Nat) (R2 : List (List Int)) (S : Nat) : List (List Int) := (elT S c 0).map fun j => R2.getD j []
theorem el_len {S : Nat} (hc : c ≤ 8) (hS : S < 2 ^ c) : (elT S c 0).length = pop S := by
  rw [el_els hc hS]
  exact pop_el S (Nat.lt_of_lt_of_le hS (Nat.pow_le_pow_right (by omega) hc))
theorem col_det {S n : Nat} (hc : c ≤ 8) (hS : S < 2 ^ c) (hn : pop S = n) : detZ n (colL c R S) (2 ^ n - 1) = detZ c R S := by
  have hlen : (elT S c 0).length = n := by rw [el_len hc hS, hn]
  have het : ∀ t, (ht : t < n) → (elT S c 0).getD t 0 = (elT S c 0)[t]'(by omega) := fun t ht => by simp [List.getD, show t < (elT S c 0).length by omega]
  have hem : ∀ t, t < n → (elT S c 0).getD t 0 ∈ elT S c 0 := fun t ht => by rw [het t ht]; exact List.getElem_mem _
  refine det_image (e := fun t => (elT S c 0).getD t 0) (fun t ht => by have := (el_mem c 0).1 (hem t ht); omega) (fun i j hij hj => ?_) R (colL c R S) (2 ^ n - 1) S (by simp [colL]) (fun i hi t ht => ?_) ⟨fun t ht => ?_, fun j hj => ?_⟩
  · show (elT S c 0).getD i 0 < (elT S c 0).getD j 0
    rw [het i (by omega), het j hj]
    exact List.pairwise_iff_getElem.1 (el_up S c 0) i j (by omega) (by omega) hij
  · have : (colL c R S).getD i [] = (elT S c 0).map fun j => (R.getD i []).getD j 0 := by simp [colL, List.getD, hi]
    rw [this]
    show _ = (R.getD i []).getD ((elT S c 0).getD t 0) 0
    rw [het t ht]
    generalize R.getD i [] = r
    simp [List.getD, show t < (elT S c 0).length by omega]
  · rw [Nat.testBit_two_pow_sub_one]
    have := ((el_mem c 0).1 (hem t ht)).2.2
    show S.testBit ((elT S c 0).getD t 0) = _
    rw [this]; simp [ht]
  · cases eb : S.testBit j with
    | false => rfl
    | true =>
      have hjc : j < c := by
        apply Classical.byContradiction
        intro hn
        rw [Nat.testBit_lt_two_pow (Nat.lt_of_lt_of_le hS (Nat.pow_le_pow_right (by omega) (by omega)))] at eb
        cases eb
      obtain ⟨t, ht, e2⟩ := List.getElem_of_mem ((el_mem (S := S) (j := j) c 0).2 ⟨by omega, by omega, eb⟩)
      exact absurd ((het t (by omega)).trans e2) (hj t (by omega))
/-- CAUCHY, BINET, as the law adds them up. -/
def cbT (p : Int) (c n : Nat) (R R2 : List (List Int)) (S : Nat) : Int := if pop S = n then detL p n (colL c R S) (2 ^ n - 1) * detL p n (rwsL c R2 S) (2 ^ n - 1) else 0
theorem cb_list (hm : MatOK p c R) (hl : R.length = c2) : detL p c2 (timL p c c2 R R2) (2 ^ c2 - 1) = sm (2 ^ c) (cbT p c c2 R R2) % p := by
  have hp2 := isP_pos hm.pr
  refine Em.eq (p := p) ?_ (detL_in hm.pr _ _ _) ⟨Int.emod_nonneg _ (by omega), Int.emod_lt_of_pos _ (by omega)⟩
  refine (detL_em p _ _ _).trans (Em.trans ?_ (Em.mod _).symm)
  have h1 : Em p (detZ c2 (timL p c c2 R R2) (2 ^ c2 - 1)) (detZ c2 (matL R.length c2 fun i t => sm c fun j => rowF R i j * rowF R2 j t) (2 ^ c2 - 1)) := detZ_em _ _ _ (by rw [timL_len, matL_len]) fun i hi j hj => by
    rw [matL_len] at hi
    rw [matL_at hi hj]
    show Em p (rowF (timL p c c2 R R2) i j) _
    rw [timL_rowF hi hj]
    exact timF_em _ _ i j c
  refine h1.trans ?_
  rw [show detZ c2 (matL R.length c2 fun i t => sm c fun j => rowF R i j * rowF R2 j t) (2 ^ c2 - 1) = _ from cauchy_binet c hm.c8' c2 (fun k t => (R2.getD k []).getD t 0) R (matL R.length c2 fun i t => sm c fun j => rowF R i j * rowF R2 j t) (matL_len _ _ _) (fun i hi t ht => matL_at hi ht _) (2 ^ c2 - 1)]
  refine Em.sm fun S hS => ?_
  unfold cbT
  rw [hl]
  by_cases ep : pop S = c2
  · rw [if_pos ep, if_pos ep, psi_list, ← col_det hm.c8' hS ep]
    exact (detL_em p _ _ _).symm.mul (detL_em p _ _ _).symm
  · rw [if_neg ep, if_neg ep]; exact Em.refl _
end Go.Proofs.Ytpdfaenjmjphpaa
