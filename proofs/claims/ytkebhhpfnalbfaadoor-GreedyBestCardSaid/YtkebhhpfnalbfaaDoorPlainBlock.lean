/- Plain mathematics: families as rising lists; EDMONDS, FULKERSON: the blocker of the blocker is the least sets. -/
import Derived.Test.YtkebhhpfnalbfaaDoorPlain
namespace Go.Proofs.YtkebhhpfnalbfaaDoor

theorem sorted_ext : ∀ {l m : List Nat}, l.Pairwise (· < ·) → m.Pairwise (· < ·) → (∀ x, x ∈ l ↔ x ∈ m) → l = m
  | [], [], _, _, _ => rfl
  | [], b :: m, _, _, h => by have := (h b).2 (by simp); simp at this
  | a :: l, [], _, _, h => by have := (h a).1 (by simp); simp at this
  | a :: l, b :: m, hl, hm, h => by
    rw [List.pairwise_cons] at hl hm
    have e : a = b := by
      have h1 := (h a).1 (by simp)
      have h2 := (h b).2 (by simp)
      simp only [List.mem_cons] at h1 h2
      rcases h1 with h1 | h1
      · exact h1
      · rcases h2 with h2 | h2
        · exact h2.symm
        · have := hl.1 b h2; have := hm.1 a h1; omega
    subst e
    rw [sorted_ext hl.2 hm.2 fun x => ?_]
    constructor
    · intro hx
      have := (h x).1 (by simp [hx])
      simp only [List.mem_cons] at this
      rcases this with rfl | h2
      · exact absurd (hl.1 x hx) (by omega)
      · exact h2
    · intro hx
      have := (h x).2 (by simp [hx])
      simp only [List.mem_cons] at this
      rcases this with rfl | h2
      · exact absurd (hm.1 x hx) (by omega)
      · exact h2

/-- A family of sets of n elements. -/
structure Fam (n : Nat) (l : List Nat) : Prop where
  up : l.Pairwise (· < ·)
  lt : ∀ s ∈ l, s < 2 ^ n
theorem Fam.filter {n : Nat} {l : List Nat} (h : Fam n l) (p : Nat → Bool) : Fam n (l.filter p) :=
  ⟨h.up.filter _, fun s hs => h.lt s (List.mem_filter.1 hs).1⟩
theorem Fam.range (n : Nat) (p : Nat → Bool) : Fam n ((List.range (2 ^ n)).filter p) :=
  ⟨List.pairwise_lt_range.filter _, fun s hs => by simpa using (List.mem_filter.1 hs).1⟩
theorem Fam.lt256 {n : Nat} {l : List Nat} (h : Fam n l) (hn : n ≤ 8) : ∀ s ∈ l, s < 256 := fun s hs =>
  Nat.lt_of_lt_of_le (h.lt s hs) (Nat.pow_le_pow_right (by omega) hn : 2 ^ n ≤ 2 ^ 8)

/-- s without i. -/
abbrev rm (s i : Nat) : Nat := s ^^^ (s &&& 2 ^ i)
theorem rm_bit (s i j : Nat) : (rm s i).testBit j = (s.testBit j && decide (i ≠ j)) := by
  simp [rm, Nat.testBit_xor, Nat.testBit_and, Nat.testBit_two_pow]
  cases s.testBit j <;> by_cases h : i = j <;> simp [h]
theorem mem_els {s i : Nat} (h : s < 256) : i ∈ els s ↔ s.testBit i = true := by
  unfold els
  simp only [List.mem_filter, List.mem_range, and_iff_right_iff_imp]
  intro hb
  rcases Nat.lt_or_ge i 8 with h8 | h8
  · exact h8
  · have := Nat.testBit_lt_two_pow (Nat.lt_of_lt_of_le h (Nat.pow_le_pow_right (by omega) h8 : 2 ^ 8 ≤ 2 ^ i))
    rw [this] at hb; cases hb
theorem meetB_iff {s o : Nat} : meetB s o = true ↔ ∃ i, s.testBit i = true ∧ o.testBit i = true := by
  unfold meetB
  rw [bne_iff_ne]
  constructor
  · intro h
    obtain ⟨i, hi⟩ := Nat.exists_testBit_of_ne_zero h
    rw [Nat.testBit_and, Bool.and_eq_true] at hi
    exact ⟨i, hi⟩
  · rintro ⟨i, h1, h2⟩ h
    have : (s &&& o).testBit i = true := by rw [Nat.testBit_and, h1, h2]; rfl
    rw [h] at this
    simp at this
theorem rm_lt_fact : ∀ s : Nat, s < 256 → ∀ i : Nat, i < 8 → s.testBit i = true → rm s i < s := by decide +kernel
theorem rm_lt {s i : Nat} (hs : s < 256) (h : s.testBit i = true) : rm s i < s := by
  have := (mem_els hs).2 h
  exact rm_lt_fact s hs i (by simpa using (List.mem_filter.1 this).1) h
theorem sub_lt {n t c : Nat} (h : subB t c = true) (hc : c < 2 ^ n) : t < 2 ^ n := by
  apply Nat.lt_pow_two_of_testBit
  intro i hi
  have := Nat.testBit_lt_two_pow (Nat.lt_of_lt_of_le hc (Nat.pow_le_pow_right (by omega) hi : 2 ^ n ≤ 2 ^ i))
  have h2 := subB_iff.1 h i
  rw [this] at h2
  cases ht : t.testBit i
  · rfl
  · exact absurd (h2 ht) (by simp)
theorem sub_refl (a : Nat) : subB a a = true := subB_iff.2 fun _ h => h
theorem sub_trans {a b c : Nat} (h : subB a b = true) (k : subB b c = true) : subB a c = true := subB_iff.2 fun i hi => subB_iff.1 k i (subB_iff.1 h i hi)
theorem rm_sub (s i : Nat) : subB (rm s i) s = true := subB_iff.2 fun j hj => by rw [rm_bit] at hj; simp at hj; exact hj.1
theorem spare_iff {l : List Nat} {s : Nat} (hs : s < 256) : spareB l s = true ↔ ∃ i, s.testBit i = true ∧ l.all (meetB (rm s i)) = true := by
  unfold spareB
  rw [List.any_eq_true]
  constructor
  · rintro ⟨i, hi, h⟩; exact ⟨i, (mem_els hs).1 hi, h⟩
  · rintro ⟨i, hi, h⟩; exact ⟨i, (mem_els hs).2 hi, h⟩
theorem block_iff {l : List Nat} {s : Nat} (hs : s < 256) : blockB l s = true ↔ l.all (meetB s) = true ∧ ∀ i, s.testBit i = true → l.all (meetB (rm s i)) = false := by
  unfold blockB
  rw [Bool.and_eq_true, Bool.not_eq_true', ← Bool.not_eq_true, spare_iff hs]
  refine and_congr_right fun _ => ⟨fun h i hi => ?_, fun h ⟨i, hi, hc⟩ => ?_⟩
  · cases hq : l.all (meetB (rm s i))
    · rfl
    · exact absurd ⟨i, hi, hq⟩ h
  · rw [h i hi] at hc; cases hc

/-- What meets all has a least one within it. -/
theorem exists_block (l : List Nat) : ∀ (c : Nat), c < 256 → l.all (meetB c) = true → ∃ t, subB t c = true ∧ blockB l t = true := by
  intro c
  induction c using Nat.strongRecOn with
  | ind c ih =>
    intro hc hm
    cases hsp : spareB l c
    · exact ⟨c, sub_refl c, by simp [blockB, hm, hsp]⟩
    · obtain ⟨i, hi, h⟩ := (spare_iff hc).1 hsp
      obtain ⟨t, h1, h2⟩ := ih (rm c i) (rm_lt hc hi) (Nat.lt_trans (rm_lt hc hi) hc) h
      exact ⟨t, sub_trans h1 (rm_sub c i), h2⟩

/-- The blocker, and the least sets. -/
def blk (n : Nat) (l : List Nat) : List Nat := (List.range (2 ^ n)).filter (blockB l)
def lst (l : List Nat) : List Nat := l.filter fun s => !l.any (otherIn s)

theorem compl_bit (n s j : Nat) (hs : s < 2 ^ n) : ((2 ^ n - 1) ^^^ s).testBit j = (decide (j < n) && !s.testBit j) := by
  rw [Nat.testBit_xor, Nat.testBit_two_pow_sub_one]
  by_cases h : j < n
  · simp [h]
  · have := Nat.testBit_lt_two_pow (Nat.lt_of_lt_of_le hs (Nat.pow_le_pow_right (by omega) (by omega) : 2 ^ n ≤ 2 ^ j))
    simp [h, this]

theorem meets_blk {n : Nat} {l : List Nat} (hn : n ≤ 8) (hl : Fam n l) {s : Nat} (hs : s < 2 ^ n) : (blk n l).all (meetB s) = true ↔ ∃ o ∈ l, subB o s = true := by
  have p8 : (2 : Nat) ^ n ≤ 256 := (Nat.pow_le_pow_right (by omega) hn : 2 ^ n ≤ 2 ^ 8)
  rw [List.all_eq_true]
  constructor
  · intro h
    refine Classical.byContradiction fun hno => ?_
    have hno' : ∀ o ∈ l, ¬ subB o s = true := fun o ho hos => hno ⟨o, ho, hos⟩
    have hcl : (2 ^ n - 1) ^^^ s < 2 ^ n := Nat.xor_lt_two_pow (by omega) hs
    have hc : l.all (meetB ((2 ^ n - 1) ^^^ s)) = true := by
      rw [List.all_eq_true]
      intro o ho
      refine Classical.byContradiction fun hm => hno' o ho (subB_iff.2 fun i hi => ?_)
      refine Classical.byContradiction fun hsi => hm (meetB_iff.2 ⟨i, ?_, hi⟩)
      rw [compl_bit n s i hs]
      have hin : i < n := by
        rcases Nat.lt_or_ge i n with h | h
        · exact h
        · have := Nat.testBit_lt_two_pow (Nat.lt_of_lt_of_le (hl.lt o ho) (Nat.pow_le_pow_right (by omega) h : 2 ^ n ≤ 2 ^ i))
          rw [this] at hi; cases hi
      simp [hin, hsi]
    obtain ⟨t, h1, h2⟩ := exists_block l _ (by omega) hc
    have ht : t < 2 ^ n := sub_lt h1 hcl
    have := h t (by simp [blk, ht, h2])
    obtain ⟨i, hi1, hi2⟩ := meetB_iff.1 this
    have := subB_iff.1 h1 i hi2
    rw [compl_bit n s i hs, hi1] at this
    simp at this
  · rintro ⟨o, ho, hos⟩ t ht
    simp only [blk, List.mem_filter, List.mem_range] at ht
    have := (block_iff (by omega)).1 ht.2
    have := List.all_eq_true.1 this.1 o ho
    obtain ⟨i, h1, h2⟩ := meetB_iff.1 this
    exact meetB_iff.2 ⟨i, subB_iff.1 hos i h2, h1⟩

theorem sub_ne {o s : Nat} (h : subB o s = true) (hne : o ≠ s) : ∃ i, s.testBit i = true ∧ o.testBit i = false := by
  refine Classical.byContradiction fun hno => hne (Nat.eq_of_testBit_eq fun i => ?_)
  have h1 := subB_iff.1 h i
  cases ho : o.testBit i
  · cases hs : s.testBit i
    · rfl
    · exact absurd ⟨i, hs, ho⟩ hno
  · rw [h1 ho]
theorem sub_rm {o s i : Nat} (h : subB o s = true) (hi : o.testBit i = false) : subB o (rm s i) = true := subB_iff.2 fun j hj => by
  rw [rm_bit, subB_iff.1 h j hj]
  simp
  rintro rfl
  rw [hi] at hj; cases hj

theorem blk_blk {n : Nat} {l : List Nat} (hn : n ≤ 8) (hl : Fam n l) : blk n (blk n l) = lst l := by
  have p8 : (2 : Nat) ^ n ≤ 256 := (Nat.pow_le_pow_right (by omega) hn : 2 ^ n ≤ 2 ^ 8)
  refine sorted_ext (Fam.range n _).up (hl.filter _).up fun s => ?_
  simp only [blk, lst, List.mem_filter, List.mem_range, Bool.not_eq_true', ← Bool.not_eq_true, List.any_eq_true]
  constructor
  · rintro ⟨hs, hb⟩
    obtain ⟨h1, h2⟩ := (block_iff (by omega)).1 hb
    obtain ⟨o, ho, hos⟩ := (meets_blk hn hl hs).1 h1
    have key : ∀ o ∈ l, subB o s = true → o = s := fun o ho hos => Classical.byContradiction fun hne => by
      obtain ⟨i, hi, hoi⟩ := sub_ne hos hne
      have := h2 i hi
      rw [show (List.filter (blockB l) (List.range (2 ^ n))) = blk n l from rfl, Bool.eq_false_iff] at this
      exact this ((meets_blk hn hl (Nat.lt_trans (rm_lt (by omega) hi) hs)).2 ⟨o, ho, sub_rm hos hoi⟩)
    have e := key o ho hos
    subst e
    refine ⟨ho, fun ⟨x, hx, hxo⟩ => ?_⟩
    simp only [otherIn, Bool.and_eq_true, bne_iff_ne] at hxo
    exact hxo.1 (key x hx hxo.2)
  · rintro ⟨hs, hno⟩
    have hlt := hl.lt s hs
    refine ⟨hlt, (block_iff (by omega)).2 ⟨(meets_blk hn hl hlt).2 ⟨s, hs, sub_refl s⟩, fun i hi => ?_⟩⟩
    rw [show (List.filter (blockB l) (List.range (2 ^ n))) = blk n l from rfl, Bool.eq_false_iff]
    intro hm
    obtain ⟨o, ho, hor⟩ := (meets_blk hn hl (Nat.lt_trans (rm_lt (by omega) hi) hlt)).1 hm
    refine hno ⟨o, ho, ?_⟩
    have : o ≠ s := by
      rintro rfl
      have := subB_iff.1 hor i hi
      rw [rm_bit] at this
      simp at this
    simp [otherIn, this, sub_trans hor (rm_sub s i)]

theorem lst_lst (l : List Nat) : lst (lst l) = lst l := by
  unfold lst
  refine List.filter_eq_self.2 fun s hs => ?_
  simp only [List.mem_filter, Bool.not_eq_true', ← Bool.not_eq_true, List.any_eq_true] at hs ⊢
  rintro ⟨x, hx, hxs⟩
  exact hs.2 ⟨x, hx.1, hxs⟩

theorem pop_rm : ∀ t : Nat, t < 256 → ∀ i : Nat, i < 8 → t.testBit i = true → pop t = pop (rm t i) + 1 := by decide +kernel
theorem down_one {t s : Nat} (ht : t < 256) (h : downB t s = true) : subB s t = true ∧ pop t = pop s + 1 := by
  unfold downB at h
  obtain ⟨i, hi, he⟩ := List.any_eq_true.1 h
  rw [beq_iff_eq] at he
  subst he
  have hb := (mem_els ht).1 hi
  exact ⟨rm_sub t i, pop_rm t ht i (by simpa using (List.mem_filter.1 hi).1) hb⟩
end Go.Proofs.YtkebhhpfnalbfaaDoor
