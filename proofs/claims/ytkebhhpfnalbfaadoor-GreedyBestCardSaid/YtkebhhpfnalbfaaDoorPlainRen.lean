/- Plain mathematics: what an order makes of sets keeps sizes, what two have, and ranks. -/
import Derived.Test.YtkebhhpfnalbfaaDoorPlainOrd
import Derived.Test.YtkebhhpfnalbfaaDoorPlainMat2
namespace Go.Proofs.YtkebhhpfnalbfaaDoor

/-- An order of n elements, or the beginning of one. -/
structure Beg (n : Nat) (p : List Nat) : Prop where
  lt : ∀ x ∈ p, x < n
  once : p.Nodup
theorem Beg.at {n : Nat} {p : List Nat} (h : Beg n p) {i : Nat} (hi : i < p.length) : p.getD i 0 < n := by
  simp only [List.getD, List.getElem?_eq_getElem hi, Option.getD_some]
  exact h.lt _ (List.getElem_mem _)
theorem Beg.inj {n : Nat} {p : List Nat} (h : Beg n p) {i j : Nat} (hi : i < p.length) (hj : j < p.length) (e : p.getD i 0 = p.getD j 0) : i = j := by
  simp only [List.getD, List.getElem?_eq_getElem hi, List.getElem?_eq_getElem hj, Option.getD_some] at e
  have hp := List.pairwise_iff_getElem.1 h.once
  rcases Nat.lt_trichotomy i j with a | a | a
  · exact absurd e (hp i j hi hj a)
  · exact a
  · exact absurd e.symm (hp j i hj hi a)
theorem image_has {p : List Nat} {s j : Nat} : (image p s).testBit j = true ↔ ∃ i, i < p.length ∧ s.testBit i = true ∧ p.getD i 0 = j := by
  rw [image_bit, List.any_eq_true]
  constructor
  · rintro ⟨i, hi, h⟩
    rw [Bool.and_eq_true, decide_eq_true_iff] at h
    exact ⟨i, List.mem_range.1 hi, h.1, h.2⟩
  · rintro ⟨i, hi, h1, h2⟩
    exact ⟨i, List.mem_range.2 hi, by rw [Bool.and_eq_true, decide_eq_true_iff]; exact ⟨h1, h2⟩⟩
theorem Beg.image_at {n : Nat} {p : List Nat} (h : Beg n p) {s i : Nat} (hi : i < p.length) : (image p s).testBit (p.getD i 0) = s.testBit i := by
  rw [Bool.eq_iff_iff, image_has]
  constructor
  · rintro ⟨k, hk, h1, h2⟩
    rw [← h.inj hk hi h2]
    exact h1
  · exact fun h1 => ⟨i, hi, h1, rfl⟩
theorem Beg.image_lt {n : Nat} {p : List Nat} (h : Beg n p) (s : Nat) : image p s < 2 ^ n := lt_of_bits fun j hj => by
  obtain ⟨i, hi, _, rfl⟩ := image_has.1 hj
  exact h.at hi
theorem Beg.image_and {n : Nat} {p : List Nat} (h : Beg n p) (s t : Nat) : image p (s &&& t) = image p s &&& image p t := Nat.eq_of_testBit_eq fun j => by
  rw [Nat.testBit_and, Bool.eq_iff_iff, Bool.and_eq_true, image_has, image_has, image_has]
  constructor
  · rintro ⟨i, hi, h1, h2⟩
    rw [Nat.testBit_and, Bool.and_eq_true] at h1
    exact ⟨⟨i, hi, h1.1, h2⟩, ⟨i, hi, h1.2, h2⟩⟩
  · rintro ⟨⟨i, hi, h1, h2⟩, ⟨k, hk, h3, h4⟩⟩
    have e := h.inj hi hk (h2.trans h4.symm)
    subst e
    exact ⟨i, hi, by rw [Nat.testBit_and, h1, h3]; rfl, h2⟩
theorem Beg.image_inj {n : Nat} {p : List Nat} (h : Beg n p) {s t : Nat} (hs : s < 2 ^ p.length) (ht : t < 2 ^ p.length) (e : image p s = image p t) : s = t := Nat.eq_of_testBit_eq fun j => by
  by_cases hj : j < p.length
  · rw [← h.image_at (s := s) hj, ← h.image_at (s := t) hj, e]
  · rw [Nat.testBit_lt_two_pow (Nat.lt_of_lt_of_le hs (Nat.pow_le_pow_right (by decide) (by omega))), Nat.testBit_lt_two_pow (Nat.lt_of_lt_of_le ht (Nat.pow_le_pow_right (by decide) (by omega)))]
theorem Beg.image_pop {n : Nat} {p : List Nat} (hn : n ≤ 8) (h : Beg n p) : ∀ (N : Nat) {s : Nat}, pop s ≤ N → s < 2 ^ p.length → p.length ≤ 8 → pop (image p s) = pop s := by
  intro N
  induction N with
  | zero =>
    intro s h0 hs hp
    have : s = 0 := (pop_pos s (lt256 hp hs)).1 (by omega)
    subst this
    have e : image p 0 = 0 := Nat.eq_of_testBit_eq fun j => by
      rw [Nat.zero_testBit, Bool.eq_false_iff]
      intro hj
      obtain ⟨i, _, h1, _⟩ := image_has.1 hj
      rw [Nat.zero_testBit] at h1
      cases h1
    rw [e]
  | succ N ih =>
    intro s hN hs hp
    by_cases e0 : s = 0
    · subst e0
      exact ih (by rw [show pop 0 = 0 from by decide]; omega) hs hp
    · obtain ⟨i, hi⟩ := exists_bit e0
      have hs8 := lt256 hp hs
      have hil : i < p.length := Classical.byContradiction fun c => by
        rw [Nat.testBit_lt_two_pow (Nat.lt_of_lt_of_le hs (Nat.pow_le_pow_right (by decide) (by omega)))] at hi
        cases hi
      have h1 := pop_rm' hs8 hi
      have hlt := rm_lt hs8 hi
      have h2 := ih (s := rm s i) (by omega) (by omega) hp
      have e : image p s = image p (rm s i) ||| 2 ^ p.getD i 0 := Nat.eq_of_testBit_eq fun j => by
        rw [Nat.testBit_or, Nat.testBit_two_pow, Bool.eq_iff_iff, Bool.or_eq_true, image_has, image_has, decide_eq_true_iff]
        constructor
        · rintro ⟨k, hk, g1, g2⟩
          by_cases ek : i = k
          · subst ek; exact .inr g2
          · exact .inl ⟨k, hk, by rw [rm_bit, g1]; simp [ek], g2⟩
        · rintro (⟨k, hk, g1, g2⟩ | g)
          · rw [rm_bit, Bool.and_eq_true] at g1
            exact ⟨k, hk, g1.1, g2⟩
          · exact ⟨i, hil, hi, g⟩
      have hout : (image p (rm s i)).testBit (p.getD i 0) = false := by
        rw [h.image_at hil, rm_bit]
        simp
      rw [e, pop_ad _ (lt256 hn (h.image_lt _)) _ (Nat.lt_of_lt_of_le (h.at hil) hn) hout, h2, h1]
/-- Ranks go along. -/
theorem Beg.image_rk {n : Nat} {p bs : List Nat} (hn : n ≤ 8) (h : Beg n p) (hp : p.length ≤ 8) {s : Nat} (hs : s < 2 ^ p.length) : rk (bs.map (image p)) (image p s) = rk bs s := by
  unfold rk
  rw [List.foldl_map]
  refine congrArg (fun f => bs.foldl f 0) (funext fun m => funext fun b => ?_)
  rw [← h.image_and, h.image_pop hn _ (Nat.le_refl _) (Nat.lt_of_le_of_lt Nat.and_le_left hs) hp]
end Go.Proofs.YtkebhhpfnalbfaaDoor
