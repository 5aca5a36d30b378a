/- Plain mathematics: the document's answers of chapter 1 by other roads are the program's. -/
import Derived.Test.YtkebhhpfnalbfaaDoorPlainBlock
namespace Go.Proofs.YtkebhhpfnalbfaaDoor

/-- The document's kinds. -/
def leastK (l : List Nat) (s : Nat) : Bool := memB s l && !l.any (otherIn s)
def mostK (l : List Nat) (s : Nat) : Bool := memB s l && !l.any (otherOut s)
def shadK (n : Nat) (l : List Nat) (s : Nat) : Bool := (List.range n).any fun i => !s.testBit i && memB (s + 2 ^ i) l

theorem least_eq {n : Nat} {l : List Nat} (h : Fam n l) : (List.range (2 ^ n)).filter (leastK l) = l.filter fun s => !l.any (otherIn s) := by
  refine sorted_ext (Fam.range n _).up (h.filter _).up fun s => ?_
  simp only [leastK, List.mem_filter, List.mem_range, Bool.and_eq_true, memB, decide_eq_true_eq]
  exact ⟨fun ⟨_, h2, h3⟩ => ⟨h2, h3⟩, fun ⟨h2, h3⟩ => ⟨h.lt s h2, h2, h3⟩⟩
theorem most_eq {n : Nat} {l : List Nat} (h : Fam n l) : (List.range (2 ^ n)).filter (mostK l) = l.filter fun s => !l.any (otherOut s) := by
  refine sorted_ext (Fam.range n _).up (h.filter _).up fun s => ?_
  simp only [mostK, List.mem_filter, List.mem_range, Bool.and_eq_true, memB, decide_eq_true_eq]
  exact ⟨fun ⟨_, h2, h3⟩ => ⟨h2, h3⟩, fun ⟨h2, h3⟩ => ⟨h.lt s h2, h2, h3⟩⟩
theorem rm_up : ∀ t : Nat, t < 256 → ∀ i : Nat, i < 8 → t.testBit i = true → rm t i + 2 ^ i = t ∧ (rm t i).testBit i = false := by decide +kernel
theorem up_rm : ∀ s : Nat, s < 256 → ∀ i : Nat, i < 8 → s.testBit i = false → rm (s + 2 ^ i) i = s ∧ (s + 2 ^ i).testBit i = true := by decide +kernel
theorem bit_lt {n t i : Nat} (ht : t < 2 ^ n) (hi : t.testBit i = true) : i < n := by
  rcases Nat.lt_or_ge i n with h | h
  · exact h
  · have := Nat.testBit_lt_two_pow (Nat.lt_of_lt_of_le ht (Nat.pow_le_pow_right (by omega) h : 2 ^ n ≤ 2 ^ i))
    rw [this] at hi; cases hi
theorem shad_eq {n : Nat} (hn : n ≤ 8) {l : List Nat} (h : Fam n l) : (List.range (2 ^ n)).filter (shadK n l) = (List.range (2 ^ n)).filter fun s => l.any fun t => downB t s := by
  have p8 : (2 : Nat) ^ n ≤ 256 := (Nat.pow_le_pow_right (by omega) hn : 2 ^ n ≤ 2 ^ 8)
  refine sorted_ext (Fam.range n _).up (Fam.range n _).up fun s => ?_
  simp only [List.mem_filter, List.mem_range, and_congr_right_iff, shadK, downB, List.any_eq_true, Bool.and_eq_true, Bool.not_eq_true', memB, decide_eq_true_eq, beq_iff_eq]
  intro hs
  constructor
  · rintro ⟨i, hi, h1, h2⟩
    have := up_rm s (by omega) i (by omega) h1
    exact ⟨s + 2 ^ i, h2, i, (mem_els (h.lt256 hn _ h2)).2 this.2, this.1⟩
  · rintro ⟨t, ht, i, hi, he⟩
    have hb := (mem_els (h.lt256 hn _ ht)).1 hi
    have hin := bit_lt (h.lt t ht) hb
    have := rm_up t (h.lt256 hn _ ht) i (by omega) hb
    subst he
    exact ⟨i, hin, this.2, by rw [this.1]; exact ht⟩
theorem block_eq {n : Nat} (hn : n ≤ 8) (l : List Nat) : (List.range (2 ^ n)).filter (leastK ((List.range (2 ^ n)).filter fun s => l.all (meetB s))) = blk n l := by
  have p8 : (2 : Nat) ^ n ≤ 256 := (Nat.pow_le_pow_right (by omega) hn : 2 ^ n ≤ 2 ^ 8)
  refine sorted_ext (Fam.range n _).up (Fam.range n _).up fun s => ?_
  simp only [blk, leastK, List.mem_filter, List.mem_range, and_congr_right_iff, Bool.and_eq_true, memB, decide_eq_true_eq]
  intro hs
  rw [block_iff (by omega)]
  constructor
  · rintro ⟨⟨_, h1⟩, h2⟩
    refine ⟨h1, fun i hi => ?_⟩
    rw [Bool.eq_false_iff]
    intro hm
    rw [Bool.not_eq_true', ← Bool.not_eq_true, List.any_eq_true] at h2
    have hlt := rm_lt (by omega : s < 256) hi
    refine h2 ⟨rm s i, by simp only [List.mem_filter, List.mem_range]; exact ⟨by omega, hm⟩, ?_⟩
    simp only [otherIn, Bool.and_eq_true, bne_iff_ne]
    exact ⟨by omega, rm_sub s i⟩
  · rintro ⟨h1, h2⟩
    refine ⟨⟨hs, h1⟩, ?_⟩
    rw [Bool.not_eq_true', ← Bool.not_eq_true, List.any_eq_true]
    rintro ⟨x, hx, hxs⟩
    simp only [List.mem_filter, List.mem_range, otherIn, Bool.and_eq_true, bne_iff_ne] at hx hxs
    obtain ⟨i, hi, hxi⟩ := sub_ne hxs.2 hxs.1
    have := h2 i hi
    rw [Bool.eq_false_iff] at this
    refine this (List.all_eq_true.2 fun o ho => ?_)
    obtain ⟨j, hj1, hj2⟩ := meetB_iff.1 (List.all_eq_true.1 hx.2 o ho)
    exact meetB_iff.2 ⟨j, subB_iff.1 (sub_rm hxs.2 hxi) j hj1, hj2⟩
end Go.Proofs.YtkebhhpfnalbfaaDoor
