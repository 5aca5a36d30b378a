/- Plain mathematics: GALE: the greedy basis is below every other one, place by place. -/
import Derived.Test.YtkebhhpfnalbfaaDoorPlainWei
namespace Go.Proofs.YtkebhhpfnalbfaaDoor

/-- The places of a set's elements in an order, rising. -/
def posL (o : List Nat) (s : Nat) : List Nat := (List.range o.length).filter fun i => s.testBit (o.getD i 0)
theorem cnt_lt_le {k : Nat} : ∀ {l : List Nat}, l.Pairwise (· < ·) → (∀ x ∈ l, k ≤ x) → (l.filter fun x => decide (x < k)).length = 0
  | [], _, _ => rfl
  | x :: l, hp, h => by
    rw [List.pairwise_cons] at hp
    have h1 := h x (by simp)
    rw [List.filter_cons_of_neg (by simp; omega)]
    exact cnt_lt_le hp.2 fun y hy => h y (by simp [hy])
theorem gale_of : ∀ {xs ys : List Nat}, xs.Pairwise (· < ·) → ys.Pairwise (· < ·) → xs.length = ys.length → (∀ k, (ys.filter fun x => decide (x < k)).length ≤ (xs.filter fun x => decide (x < k)).length) → galeL xs ys = true
  | [], _, _, _, _, _ => rfl
  | x :: xs, [], _, _, hl, _ => by simp at hl
  | x :: xs, y :: ys, hx, hy, hl, h => by
    rw [List.pairwise_cons] at hx hy
    have hxy : x ≤ y := by
      apply Classical.byContradiction
      intro hh
      have h1 := h (y + 1)
      rw [List.filter_cons_of_pos (by simp)] at h1
      rw [List.length_cons] at h1
      have h2 : ((x :: xs).filter fun z => decide (z < y + 1)).length = 0 := cnt_lt_le (by rw [List.pairwise_cons]; exact hx) fun z hz => by
        rw [List.mem_cons] at hz
        rcases hz with rfl | hz
        · omega
        · have := hx.1 z hz; omega
      omega
    unfold galeL
    rw [decide_eq_true hxy, Bool.true_and]
    refine gale_of hx.2 hy.2 (by simpa using hl) fun k => ?_
    by_cases hk : y < k
    · have h1 := h k
      rw [List.filter_cons_of_pos (by simpa using hk), List.filter_cons_of_pos (by simp; omega)] at h1
      simp only [List.length_cons] at h1
      omega
    · rw [cnt_lt_le hy.2 fun z hz => by have := hy.1 z hz; omega]
      omega
theorem posL_up (o : List Nat) (s : Nat) : (posL o s).Pairwise (· < ·) := List.Pairwise.filter _ List.pairwise_lt_range
theorem range_filter_lt (n k : Nat) : (List.range n).filter (fun x => decide (x < k)) = List.range (min k n) := by
  induction n with
  | zero => simp
  | succ n ih =>
    rw [List.range_succ, List.filter_append, ih]
    by_cases h : n < k
    · rw [List.filter_cons_of_pos (by simpa using h), List.filter_nil]
      have e1 : min k n = n := by omega
      have e2 : min k (n + 1) = n + 1 := by omega
      rw [e1, e2, List.range_succ]
    · rw [List.filter_cons_of_neg (by simpa using h), List.filter_nil, List.append_nil]
      have e1 : min k n = k := by omega
      have e2 : min k (n + 1) = k := by omega
      rw [e1, e2]
theorem take_range (o : List Nat) : ∀ k, k ≤ o.length → o.take k = (List.range k).map fun i => o.getD i 0
  | 0, _ => by simp
  | k + 1, h => by
    rw [(by rw [List.take_succ_eq_append_getElem (by omega : k < o.length)]; simp [List.getD, (by omega : k < o.length)] : o.take (k + 1) = o.take k ++ [o.getD k 0]), take_range o k (by omega), List.range_succ, List.map_append]
    rfl
theorem posL_cnt (o : List Nat) (s k : Nat) : ((posL o s).filter fun x => decide (x < k)).length = ((o.take k).filter fun x => s.testBit x).length := by
  unfold posL
  rw [List.filter_filter, show (fun a => decide (a < k) && s.testBit (o.getD a 0)) = fun a => s.testBit (o.getD a 0) && decide (a < k) from funext fun a => Bool.and_comm _ _, ← List.filter_filter, range_filter_lt]
  have e : o.take k = o.take (min k o.length) := by
    by_cases h : k ≤ o.length
    · rw [Nat.min_eq_left h]
    · rw [Nat.min_eq_right (by omega), List.take_of_length_le (by omega), List.take_of_length_le (Nat.le_refl _)]
  rw [e, take_range o _ (by omega), List.filter_map, List.length_map]
  rfl
theorem posL_len {n : Nat} (hn : n ≤ 8) {s : Nat} (hs : s < 2 ^ n) {o : List Nat} (hB : Beg n o) (hall : ∀ i, i < n → i ∈ o) : (posL o s).length = pop s := by
  have h := posL_cnt o s o.length
  rw [List.take_length, cnt_full hn hs hB hall] at h
  rw [← h, List.filter_eq_self.2 fun x hx => by unfold posL at hx; rw [List.mem_filter, List.mem_range] at hx; simpa using hx.1]
/-- GALE. -/
theorem gale_first {n : Nat} {l : List Nat} (hn : n ≤ 8) (hf : Fam n l) (hb : Bas l) {o : List Nat} (hB : Beg n o) (hall : ∀ i, i < n → i ∈ o) {t : Nat} (ht : t ∈ l) : galeL (posL o (grS (rk l) 0 o)) (posL o t) = true := by
  have hg := gr_bas hn hf hb hB hall
  refine gale_of (posL_up _ _) (posL_up _ _) ?_ fun k => ?_
  · rw [posL_len hn (hf.lt _ hg) hB hall, posL_len hn (hf.lt t ht) hB hall]
    exact hb.size _ hg t ht
  · rw [posL_cnt, posL_cnt]
    exact gr_dom hb.rk hn hB ((bas_mem hn hf hb (hf.lt t ht)).1 ht).1 _ (List.take_prefix k o)
theorem pop_full : ∀ n : Nat, n ≤ 8 → pop (2 ^ n - 1) = n := by decide +kernel
/-- As many as there are, none twice: all. -/
theorem beg_all {n : Nat} (hn : n ≤ 8) {o : List Nat} (hB : Beg n o) (hl : o.length = n) : ∀ i, i < n → i ∈ o := by
  have h8 : ∀ x ∈ o, x < 8 := fun x hx => Nat.lt_of_lt_of_le (hB.lt x hx) hn
  have h1 := cnt_pop (s := setL o) _ o rfl h8 hB.once
  rw [List.filter_eq_self.2 fun x hx => by rw [setL_has]; simpa using hx, Nat.and_self, hl] at h1
  have hlt : setL o < 2 ^ n := lt_of_bits fun j hj => by rw [setL_has] at hj; exact hB.lt j (by simpa using hj)
  have e : setL o = 2 ^ n - 1 := eq_of_pop (lt256 hn (full_lt n)) (full_sub hlt) (by rw [pop_full n hn]; omega)
  intro i hi
  have := congrArg (·.testBit i) e
  simp only [setL_has, full_bit] at this
  rw [decide_eq_true hi] at this
  simpa using this
/-- The places, as a set. -/
theorem els_places {n : Nat} (hn : n ≤ 8) {o p : List Nat} (hB : Beg n o) (hol : o.length = n) (hpl : p.length = n) (hp : ∀ i, i < n → p.getD (o.getD i 0) 0 = i) (s : Nat) : els (image p s) = posL o s ∧ image p s < 2 ^ n := by
  have hall := beg_all hn hB hol
  have hbit : ∀ j, (image p s).testBit j = true ↔ j < n ∧ s.testBit (o.getD j 0) = true := fun j => by
    rw [image_has]
    constructor
    · rintro ⟨i, hi, hs, e⟩
      rw [hpl] at hi
      obtain ⟨k, hk, hke⟩ := List.mem_iff_getElem.1 (hall i hi)
      have hk2 : o.getD k 0 = i := by simp [List.getD, hk, hke]
      have := hp k (by omega)
      rw [hk2, e] at this
      subst this
      exact ⟨by omega, by rw [hk2]; exact hs⟩
    · rintro ⟨hj, hs⟩
      exact ⟨o.getD j 0, by rw [hpl]; exact hB.at (by omega), hs, hp j hj⟩
  have hlt : image p s < 2 ^ n := lt_of_bits fun j hj => ((hbit j).1 hj).1
  refine ⟨sorted_ext (List.Pairwise.filter _ List.pairwise_lt_range) (posL_up _ _) fun x => ?_, hlt⟩
  rw [mem_els (lt256 hn hlt), hbit]
  unfold posL
  rw [List.mem_filter, List.mem_range, hol]
theorem gale_places {n : Nat} {l : List Nat} (hn : n ≤ 8) (hf : Fam n l) (hb : Bas l) {o p : List Nat} (hB : Beg n o) (hol : o.length = n) (hpl : p.length = n) (hp : ∀ i, i < n → p.getD (o.getD i 0) 0 = i) {t : Nat} (ht : t ∈ l) : belowR (image p (grS (rk l) 0 o)) (image p t) = (true, 0) := by
  have hall := beg_all hn hB hol
  have hg := gr_bas hn hf hb hB hall
  obtain ⟨e1, l1⟩ := els_places hn hB hol hpl hp (grS (rk l) 0 o)
  obtain ⟨e2, l2⟩ := els_places hn hB hol hpl hp t
  have g := gale_first hn hf hb hB hall ht
  have hpop : pop (image p (grS (rk l) 0 o)) = pop (image p t) := by
    rw [pop_els, pop_els, e1, e2, posL_len hn (hf.lt _ hg) hB hall, posL_len hn (hf.lt t ht) hB hall]
    exact hb.size _ hg t ht
  have h8a := lt256 hn l1
  have h8b := lt256 hn l2
  rw [belowR_mk ⟨by omega, by omega, by omega, by omega⟩ (by simpa using hpop)]
  simp only [Int.toNat_natCast]
  rw [e1, e2, g]
end Go.Proofs.YtkebhhpfnalbfaaDoor
