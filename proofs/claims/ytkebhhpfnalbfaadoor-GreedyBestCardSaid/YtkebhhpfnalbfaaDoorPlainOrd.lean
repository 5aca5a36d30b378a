/- Plain mathematics: orders of elements, what sets become by them, and the walk through all of them. -/
import Derived.Test.YtkebhhpfnalbfaaDoorPlainBlock
namespace Go.Proofs.YtkebhhpfnalbfaaDoor

/-- What each set of the first elements becomes. -/
def imgs (p : List Nat) : List Nat := p.foldl (fun im x => im ++ im.map (· ||| 2 ^ x)) [0]
theorem imgs_snoc (p : List Nat) (x : Nat) : imgs (p ++ [x]) = imgs p ++ (imgs p).map (· ||| 2 ^ x) := by
  unfold imgs
  rw [List.foldl_append]
  rfl
theorem snoc_cases {p : List Nat} : p = [] ∨ ∃ q x, p = q ++ [x] := by
  rcases List.eq_nil_or_concat p with h | ⟨q, x, h⟩
  · exact .inl h
  · exact .inr ⟨q, x, by simpa using h⟩
theorem imgs_len : ∀ (k : Nat) (p : List Nat), p.length = k → (imgs p).length = 2 ^ k
  | 0, p, h => by rw [List.length_eq_zero_iff] at h; subst h; rfl
  | k + 1, p, h => by
    rcases snoc_cases (p := p) with rfl | ⟨q, x, rfl⟩
    · simp at h
    · have hq : q.length = k := by simpa using h
      rw [imgs_snoc, List.length_append, List.length_map, imgs_len k q hq, Nat.pow_succ]
      omega
/-- What a set becomes, bit by bit. -/
def image (p : List Nat) (s : Nat) : Nat := (List.range p.length).foldl (fun u i => if s.testBit i = true then u ||| 2 ^ p.getD i 0 else u) 0
theorem or_fold_bit {p : List Nat} {s j : Nat} : ∀ (L : List Nat) (u : Nat), (L.foldl (fun u i => if s.testBit i = true then u ||| 2 ^ p.getD i 0 else u) u).testBit j = (u.testBit j || L.any fun i => s.testBit i && decide (p.getD i 0 = j))
  | [], u => by simp
  | i :: L, u => by
    rw [List.foldl_cons, or_fold_bit L]
    by_cases h : s.testBit i = true
    · rw [if_pos h, Nat.testBit_or, Nat.testBit_two_pow]
      simp [h, Bool.or_assoc]
    · rw [if_neg h]
      simp [h]
theorem image_bit {p : List Nat} {s j : Nat} : (image p s).testBit j = (List.range p.length).any fun i => s.testBit i && decide (p.getD i 0 = j) := by
  unfold image
  rw [or_fold_bit]
  simp
/-- A loop that may be left: is more wanted, and the state. -/
def loopO {σ : Type} (step : σ → Nat → Bool × σ) : List Nat → σ → Bool × σ
  | [], s => (true, s)
  | x :: xs, s => if (step s x).1 = true then loopO step xs (step s x).2 else step s x
/-- The walk through the orders that begin with p (k elements are missing), as long as more are wanted. -/
def walkO {σ : Type} (fit : σ → List Nat → Bool) (fnd : σ → List Nat → Bool × σ) (n : Nat) : Nat → σ → List Nat → Bool × σ
  | 0, s, p => fnd s p
  | k + 1, s, p => loopO (fun s x => if x ∈ p then (true, s) else if fit s (p ++ [x]) = true then walkO fit fnd n k s (p ++ [x]) else (true, s)) (List.range n) s
/-- All orders that go on from p, in order. -/
def goes (n : Nat) : Nat → List Nat → List (List Nat)
  | 0, p => [p]
  | k + 1, p => (List.range n).flatMap fun x => if x ∈ p then [] else goes n k (p ++ [x])
theorem loopO_append {σ : Type} (step : σ → Nat → Bool × σ) : ∀ (xs ys : List Nat) (s : σ), loopO step (xs ++ ys) s = if (loopO step xs s).1 = true then loopO step ys (loopO step xs s).2 else loopO step xs s
  | [], ys, s => by simp [loopO]
  | x :: xs, ys, s => by
    rw [List.cons_append, loopO]
    by_cases h : (step s x).1 = true
    · rw [if_pos h, loopO_append step xs ys, loopO, if_pos h]
    · rw [if_neg h, loopO, if_neg h, if_neg h]
theorem image_snoc (q : List Nat) (x s : Nat) : image (q ++ [x]) s = image q s ||| if s.testBit q.length = true then 2 ^ x else 0 := by
  refine Nat.eq_of_testBit_eq fun j => ?_
  rw [Nat.testBit_or, image_bit, image_bit, List.length_append, List.length_singleton, List.range_succ, List.any_append]
  have e : ((List.range q.length).any fun i => s.testBit i && decide ((q ++ [x]).getD i 0 = j)) = (List.range q.length).any fun i => s.testBit i && decide (q.getD i 0 = j) := by
    have e1 : ∀ i, i < q.length → (q ++ [x]).getD i 0 = q.getD i 0 := fun i hi => by simp only [List.getD, List.getElem?_append_left hi]
    rw [Bool.eq_iff_iff, List.any_eq_true, List.any_eq_true]
    constructor
    · rintro ⟨i, hi, h⟩
      rw [e1 i (List.mem_range.1 hi)] at h
      exact ⟨i, hi, h⟩
    · rintro ⟨i, hi, h⟩
      rw [← e1 i (List.mem_range.1 hi)] at h
      exact ⟨i, hi, h⟩
  rw [e]
  congr 1
  by_cases h : s.testBit q.length = true
  · rw [if_pos h, Nat.testBit_two_pow]
    simp [h, List.getD]
  · rw [if_neg h]
    simp [h]
theorem image_low (q : List Nat) {k s t : Nat} (hk : q.length ≤ k) (h : ∀ i, i < k → s.testBit i = t.testBit i) : image q s = image q t := by
  refine Nat.eq_of_testBit_eq fun j => ?_
  rw [image_bit, image_bit, Bool.eq_iff_iff, List.any_eq_true, List.any_eq_true]
  constructor <;> rintro ⟨i, hi, h9⟩ <;> refine ⟨i, hi, ?_⟩ <;> rw [List.mem_range] at hi
  · rw [← h i (by omega)]; exact h9
  · rw [h i (by omega)]; exact h9
/-- The list of images holds each set's. -/
theorem imgs_at : ∀ (k : Nat) (p : List Nat), p.length = k → ∀ s, s < 2 ^ k → (imgs p).getD s 0 = image p s
  | 0, p, h, s, hs => by
    rw [List.length_eq_zero_iff] at h
    subst h
    have : s = 0 := by omega
    subst this
    rfl
  | k + 1, p, h, s, hs => by
    rcases snoc_cases (p := p) with rfl | ⟨q, x, rfl⟩
    · simp at h
    · have hq : q.length = k := by simpa using h
      have hl := imgs_len k q hq
      rw [imgs_snoc, image_snoc, hq]
      by_cases hlt : s < 2 ^ k
      · have hb : s.testBit k = false := Nat.testBit_lt_two_pow hlt
        have := imgs_at k q hq s hlt
        simp only [List.getD] at this ⊢
        rw [List.getElem?_append_left (by omega), this, hb]
        simp
      · have hb : s.testBit k = true := by
          rw [Nat.testBit_eq_decide_div_mod_eq]
          have : s / 2 ^ k = 1 := Nat.div_eq_of_lt_le (by omega) (by rw [Nat.pow_succ] at hs; omega)
          rw [this]
          rfl
        have ht : s - 2 ^ k < 2 ^ k := by rw [Nat.pow_succ] at hs; omega
        have hi := imgs_at k q hq (s - 2 ^ k) ht
        have hm : image q (s - 2 ^ k) = image q s := image_low q (Nat.le_of_eq hq) fun i hi => by
          have e : s = 2 ^ k + (s - 2 ^ k) := by omega
          conv => rhs; rw [e]
          rw [Nat.testBit_two_pow_add_gt hi]
        simp only [List.getD] at hi ⊢
        rw [List.getElem?_append_right (by omega), hl, List.getElem?_map]
        rw [List.getElem?_eq_getElem (by omega)] at hi ⊢
        simp only [Option.getD_some, Option.map_some] at hi ⊢
        rw [hi, hm, hb]
        simp
/-- The orders all of whose beginnings fit, in order. -/
def goesF (fit : List Nat → Bool) (n : Nat) : Nat → List Nat → List (List Nat)
  | 0, p => [p]
  | k + 1, p => (List.range n).flatMap fun x => if x ∈ p then [] else if fit (p ++ [x]) = true then goesF fit n k (p ++ [x]) else []
/-- A loop over orders that may be left. -/
def loopL {σ : Type} (fnd : σ → List Nat → Bool × σ) : List (List Nat) → σ → Bool × σ
  | [], s => (true, s)
  | q :: qs, s => if (fnd s q).1 = true then loopL fnd qs (fnd s q).2 else fnd s q
theorem loopL_append {σ : Type} (fnd : σ → List Nat → Bool × σ) : ∀ (xs ys : List (List Nat)) (s : σ), loopL fnd (xs ++ ys) s = if (loopL fnd xs s).1 = true then loopL fnd ys (loopL fnd xs s).2 else loopL fnd xs s
  | [], ys, s => by simp [loopL]
  | x :: xs, ys, s => by
    rw [List.cons_append, loopL]
    by_cases h : (fnd s x).1 = true
    · rw [if_pos h, loopL_append fnd xs ys, loopL, if_pos h]
    · rw [if_neg h, loopL, if_neg h, if_neg h]
/-- Where what fits does not hang on the state, the walk goes through a list. -/
theorem walkO_eq {σ : Type} (fit : List Nat → Bool) (fnd : σ → List Nat → Bool × σ) (n : Nat) : ∀ (k : Nat) (s : σ) (p : List Nat), walkO (fun _ => fit) fnd n k s p = loopL fnd (goesF fit n k p) s
  | 0, s, p => by
    rw [walkO, goesF, loopL]
    by_cases h : (fnd s p).1 = true
    · rw [if_pos h, loopL, ← h]
    · rw [if_neg h]
  | k + 1, s, p => by
    rw [walkO, goesF]
    generalize List.range n = xs
    induction xs generalizing s with
    | nil => rfl
    | cons x xs ih =>
      rw [List.flatMap_cons, loopL_append, loopO]
      by_cases hx : x ∈ p
      · simp only [if_pos hx, loopL, if_true]
        exact ih s
      · by_cases hf : fit (p ++ [x]) = true
        · simp only [if_neg hx, if_pos hf]
          rw [walkO_eq fit fnd n k s (p ++ [x])]
          split
          · exact ih _
          · rfl
        · simp only [if_neg hx, if_neg hf, loopL, if_true]
          exact ih s
end Go.Proofs.YtkebhhpfnalbfaaDoor
