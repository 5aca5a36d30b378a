/- Plain mathematics of sets, matroids, graphs and lists, on which the walks rest. -/
/- Plain mathematics of sets as numbers from 0 to 255: no word of the program. -/
namespace Go.Proofs.Ythbldeloocmakaa

def pop (s : Nat) : Nat := ((List.range 8).filter fun i => s.testBit i).length
def tz (s : Nat) : Nat := ((List.range 8).find? fun i => s.testBit i).getD 8
def wl (s : Nat) : Nat := s &&& (s - 1)
def tab : List Int := [0, 1, 56, 2, 57, 49, 28, 3, 61, 58, 42, 50, 38, 29, 17, 4, 62, 47, 59, 36, 45, 43, 51, 22, 53, 39, 33, 30, 24, 18, 12, 5, 63, 55, 48, 27, 60, 41, 37, 16, 46, 35, 44, 21, 52, 32, 23, 11, 54, 26, 40, 15, 34, 20, 31, 10, 25, 14, 19, 9, 13, 8, 7, 6]

/-- The elements of a set, rising. -/
def els (s : Nat) : List Nat := (List.range 8).filter fun i => s.testBit i
theorem els_step : ∀ s : Nat, s < 256 → 0 < s → els s = tz s :: els (wl s) := by decide +kernel
theorem els_zero : els 0 = [] := by decide +kernel
theorem wl_lt : ∀ s : Nat, s < 256 → 0 < s → wl s < s := by decide +kernel
theorem tz_lt : ∀ s : Nat, s < 256 → 0 < s → tz s < 8 := by decide +kernel
theorem pop_le : ∀ s : Nat, s < 256 → pop s ≤ 8 := by decide +kernel
theorem pop_els (s : Nat) : pop s = (els s).length := rfl
theorem pop_pos : ∀ s : Nat, s < 256 → (pop s = 0 ↔ s = 0) := by decide +kernel
theorem els_inj_fact : ∀ s : Nat, s < 256 → (els s).foldr (fun i t => 2 ^ i + t) 0 = s := by decide +kernel
theorem els_inj (s t : Nat) (hs : s < 256) (ht : t < 256) (h : els s = els t) : s = t := by
  rw [← els_inj_fact s hs, ← els_inj_fact t ht, h]

/-- GALE'S order of lists. -/
def galeL : List Nat → List Nat → Bool
  | [], _ => true
  | _ :: _, [] => false
  | x :: xs, y :: ys => decide (x ≤ y) && galeL xs ys
theorem galeL_anti : ∀ (x y : List Nat), x.length = y.length → galeL x y = true → galeL y x = true → x = y
  | [], [], _, _, _ => rfl
  | [], _ :: _, h, _, _ => by simp at h
  | _ :: _, [], h, _, _ => by simp at h
  | a :: x, b :: y, h, h1, h2 => by
    simp [galeL] at h1 h2 h
    rw [galeL_anti x y h h1.2 h2.2, Nat.le_antisymm h1.1 h2.1]
theorem galeL_trans : ∀ (x y z : List Nat), x.length = y.length → y.length = z.length → galeL x y = true → galeL y z = true → galeL x z = true
  | [], _, _, _, _, _, _ => by simp [galeL]
  | _ :: _, [], _, h, _, _, _ => by simp at h
  | _ :: _, _ :: _, [], _, h, _, _ => by simp at h
  | a :: x, b :: y, c :: z, h, h', h1, h2 => by
    simp [galeL] at h1 h2 h h' ⊢
    exact ⟨Nat.le_trans h1.1 h2.1, galeL_trans x y z h h' h1.2 h2.2⟩

/-- What Below answers: whether, and the error's number. -/
def belowR (a b : Int) : Bool × Int :=
  if 0 ≤ a ∧ a ≤ 255 ∧ 0 ≤ b ∧ b ≤ 255 then
    if pop a.toNat = pop b.toNat then (galeL (els a.toNat) (els b.toNat), 0) else (false, 3)
  else (false, 1)
theorem belowR_bad (a b : Int) (h : (belowR a b).2 ≠ 0) : (belowR a b).1 = false := by
  unfold belowR at *; split <;> (try split) <;> simp_all
theorem belowR_range (a b : Int) : (belowR a b).2 = 0 ∨ (belowR a b).2 = 1 ∨ (belowR a b).2 = 3 := by
  unfold belowR; split <;> (try split) <;> simp
theorem belowR_ok {a b : Int} (h : (belowR a b).2 = 0) : 0 ≤ a ∧ a ≤ 255 ∧ 0 ≤ b ∧ b ≤ 255 ∧ pop a.toNat = pop b.toNat ∧ (belowR a b).1 = galeL (els a.toNat) (els b.toNat) := by
  unfold belowR at *
  split at h
  · rename_i g
    split at h
    · rename_i g2
      simp [g, g2]
    · simp at h
  · simp at h
theorem belowR_mk {a b : Int} (h : 0 ≤ a ∧ a ≤ 255 ∧ 0 ≤ b ∧ b ≤ 255) (h2 : pop a.toNat = pop b.toNat) : belowR a b = (galeL (els a.toNat) (els b.toNat), 0) := by
  unfold belowR; rw [if_pos h, if_pos h2]
theorem belowR_sym {a b : Int} (h : (belowR a b).2 = 0) : (belowR b a).2 = 0 := by
  obtain ⟨h1, h2, h3, h4, h5, _⟩ := belowR_ok h
  rw [belowR_mk ⟨h3, h4, h1, h2⟩ h5.symm]
theorem belowR_anti {a b : Int} (h : (belowR a b).2 = 0) (h1 : (belowR a b).1 = true) (h2 : (belowR b a).1 = true) : a = b := by
  obtain ⟨g1, g2, g3, g4, g5, g6⟩ := belowR_ok h
  obtain ⟨_, _, _, _, _, k6⟩ := belowR_ok (belowR_sym h)
  rw [g6] at h1; rw [k6] at h2
  have := els_inj a.toNat b.toNat (by omega) (by omega) (galeL_anti _ _ (by rw [← pop_els, ← pop_els, g5]) h1 h2)
  omega
theorem belowR_tr {a b c : Int} (h : (belowR a b).2 = 0) (h' : (belowR b c).2 = 0) : (belowR a c).2 = 0 ∧ ((belowR a b).1 = true → (belowR b c).1 = true → (belowR a c).1 = true) := by
  obtain ⟨g1, g2, g3, g4, g5, g6⟩ := belowR_ok h
  obtain ⟨k1, k2, k3, k4, k5, k6⟩ := belowR_ok h'
  rw [belowR_mk ⟨g1, g2, k3, k4⟩ (g5.trans k5), g6, k6]
  exact ⟨rfl, fun h1 h2 => galeL_trans _ _ _ (by rw [← pop_els, ← pop_els, g5]) (by rw [← pop_els, ← pop_els, k5]) h1 h2⟩

/-- Is x in l? -/
def memB (x : Nat) (l : List Nat) : Bool := decide (x ∈ l)
/-- Is a within b? -/
def subB (a b : Nat) : Bool := a &&& b == a
/-- Do both have an element? -/
def meetB (s x : Nat) : Bool := s &&& x != 0
theorem subB_iff {a b : Nat} : subB a b = true ↔ ∀ i, a.testBit i = true → b.testBit i = true := by
  unfold subB
  rw [beq_iff_eq]
  constructor
  · intro h i hi
    have := congrArg (fun x => x.testBit i) h
    simp [hi] at this
    exact this
  · intro h
    apply Nat.eq_of_testBit_eq
    intro i
    have := h i
    simp
    cases ha : a.testBit i <;> simp_all
theorem subB_xor (a b : Nat) : subB a b = (a ^^^ (a &&& b) == 0) := by
  rw [Bool.eq_iff_iff, subB_iff, beq_iff_eq]
  constructor
  · intro h
    apply Nat.eq_of_testBit_eq
    intro i
    have := h i
    simp
    cases ha : a.testBit i <;> simp_all
  · intro h i hi
    have := congrArg (fun x => x.testBit i) h
    simp [hi] at this
    exact this

/-- Another set within s; another one around it. -/
def otherIn (s x : Nat) : Bool := x != s && subB x s
def otherOut (s x : Nat) : Bool := x != s && subB s x
/-- Does s meet all of l without one of its elements? -/
def spareB (l : List Nat) (s : Nat) : Bool := (els s).any fun i => l.all (meetB (s ^^^ (s &&& 2 ^ i)))
def blockB (l : List Nat) (s : Nat) : Bool := l.all (meetB s) && !spareB l s
/-- Does s come of t by leaving out one element? -/
def downB (t s : Nat) : Bool := (els t).any fun i => t ^^^ (t &&& 2 ^ i) == s
end Go.Proofs.Ythbldeloocmakaa

namespace Go.Proofs.Ythbldeloocmakaa

theorem sorted_ext : ∀ {l m : List Nat}, l.Pairwise (· < ·) → m.Pairwise (· < ·) → (∀ x, x ∈ l ↔ x ∈ m) → l = m
  | [], [], _, _, _ => rfl
  | [], b :: m, _, _, h => by have := (h b).2 (by simp); simp at this
  | a :: l, [], _, _, h => by have := (h a).1 (by simp); simp at this
  | a :: l, b :: m, hl, hm, h => by
    rw [List.pairwise_cons] at hl hm
    have e : a = b := by
      have h1 := (h a).1 (by simp)
      have h2 := (h b).2 (by simp)
      simp only [List.mem_cons] at h1 h2
      rcases h1 with h1 | h1
      · exact h1
      · rcases h2 with h2 | h2
        · exact h2.symm
        · have := hl.1 b h2; have := hm.1 a h1; omega
    subst e
    rw [sorted_ext hl.2 hm.2 fun x => ?_]
    constructor
    · intro hx
      have := (h x).1 (by simp [hx])
      simp only [List.mem_cons] at this
      rcases this with rfl | h2
      · exact absurd (hl.1 x hx) (by omega)
      · exact h2
    · intro hx
      have := (h x).2 (by simp [hx])
      simp only [List.mem_cons] at this
      rcases this with rfl | h2
      · exact absurd (hm.1 x hx) (by omega)
      · exact h2

/-- A family of sets of n elements. -/
structure Fam (n : Nat) (l : List Nat) : Prop where
  up : l.Pairwise (· < ·)
  lt : ∀ s ∈ l, s < 2 ^ n
theorem Fam.filter {n : Nat} {l : List Nat} (h : Fam n l) (p : Nat → Bool) : Fam n (l.filter p) :=
  ⟨h.up.filter _, fun s hs => h.lt s (List.mem_filter.1 hs).1⟩
theorem Fam.range (n : Nat) (p : Nat → Bool) : Fam n ((List.range (2 ^ n)).filter p) :=
  ⟨List.pairwise_lt_range.filter _, fun s hs => by simpa using (List.mem_filter.1 hs).1⟩
theorem Fam.lt256 {n : Nat} {l : List Nat} (h : Fam n l) (hn : n ≤ 8) : ∀ s ∈ l, s < 256 := fun s hs =>
  Nat.lt_of_lt_of_le (h.lt s hs) (Nat.pow_le_pow_right (by omega) hn : 2 ^ n ≤ 2 ^ 8)

/-- s without i. -/
abbrev rm (s i : Nat) : Nat := s ^^^ (s &&& 2 ^ i)
theorem rm_bit (s i j : Nat) : (rm s i).testBit j = (s.testBit j && decide (i ≠ j)) := by
  simp [rm, Nat.testBit_xor, Nat.testBit_and, Nat.testBit_two_pow]
  cases s.testBit j <;> by_cases h : i = j <;> simp [h]
theorem mem_els {s i : Nat} (h : s < 256) : i ∈ els s ↔ s.testBit i = true := by
  unfold els
  simp only [List.mem_filter, List.mem_range, and_iff_right_iff_imp]
  intro hb
  rcases Nat.lt_or_ge i 8 with h8 | h8
  · exact h8
  · have := Nat.testBit_lt_two_pow (Nat.lt_of_lt_of_le h (Nat.pow_le_pow_right (by omega) h8 : 2 ^ 8 ≤ 2 ^ i))
    rw [this] at hb; cases hb
theorem meetB_iff {s o : Nat} : meetB s o = true ↔ ∃ i, s.testBit i = true ∧ o.testBit i = true := by
  unfold meetB
  rw [bne_iff_ne]
  constructor
  · intro h
    obtain ⟨i, hi⟩ := Nat.exists_testBit_of_ne_zero h
    rw [Nat.testBit_and, Bool.and_eq_true] at hi
    exact ⟨i, hi⟩
  · rintro ⟨i, h1, h2⟩ h
    have : (s &&& o).testBit i = true := by rw [Nat.testBit_and, h1, h2]; rfl
    rw [h] at this
    simp at this
theorem rm_lt_fact : ∀ s : Nat, s < 256 → ∀ i : Nat, i < 8 → s.testBit i = true → rm s i < s := by decide +kernel
theorem rm_lt {s i : Nat} (hs : s < 256) (h : s.testBit i = true) : rm s i < s := by
  have := (mem_els hs).2 h
  exact rm_lt_fact s hs i (by simpa using (List.mem_filter.1 this).1) h
theorem sub_lt {n t c : Nat} (h : subB t c = true) (hc : c < 2 ^ n) : t < 2 ^ n := by
  apply Nat.lt_pow_two_of_testBit
  intro i hi
  have := Nat.testBit_lt_two_pow (Nat.lt_of_lt_of_le hc (Nat.pow_le_pow_right (by omega) hi : 2 ^ n ≤ 2 ^ i))
  have h2 := subB_iff.1 h i
  rw [this] at h2
  cases ht : t.testBit i
  · rfl
  · exact absurd (h2 ht) (by simp)
theorem sub_refl (a : Nat) : subB a a = true := subB_iff.2 fun _ h => h
theorem sub_trans {a b c : Nat} (h : subB a b = true) (k : subB b c = true) : subB a c = true := subB_iff.2 fun i hi => subB_iff.1 k i (subB_iff.1 h i hi)
theorem rm_sub (s i : Nat) : subB (rm s i) s = true := subB_iff.2 fun j hj => by rw [rm_bit] at hj; simp at hj; exact hj.1
theorem spare_iff {l : List Nat} {s : Nat} (hs : s < 256) : spareB l s = true ↔ ∃ i, s.testBit i = true ∧ l.all (meetB (rm s i)) = true := by
  unfold spareB
  rw [List.any_eq_true]
  constructor
  · rintro ⟨i, hi, h⟩; exact ⟨i, (mem_els hs).1 hi, h⟩
  · rintro ⟨i, hi, h⟩; exact ⟨i, (mem_els hs).2 hi, h⟩
theorem block_iff {l : List Nat} {s : Nat} (hs : s < 256) : blockB l s = true ↔ l.all (meetB s) = true ∧ ∀ i, s.testBit i = true → l.all (meetB (rm s i)) = false := by
  unfold blockB
  rw [Bool.and_eq_true, Bool.not_eq_true', ← Bool.not_eq_true, spare_iff hs]
  refine and_congr_right fun _ => ⟨fun h i hi => ?_, fun h ⟨i, hi, hc⟩ => ?_⟩
  · cases hq : l.all (meetB (rm s i))
    · rfl
    · exact absurd ⟨i, hi, hq⟩ h
  · rw [h i hi] at hc; cases hc

/-- What meets all has a least one within it. -/
theorem exists_block (l : List Nat) : ∀ (c : Nat), c < 256 → l.all (meetB c) = true → ∃ t, subB t c = true ∧ blockB l t = true := by
  intro c
  induction c using Nat.strongRecOn with
  | ind c ih =>
    intro hc hm
    cases hsp : spareB l c
    · exact ⟨c, sub_refl c, by simp [blockB, hm, hsp]⟩
    · obtain ⟨i, hi, h⟩ := (spare_iff hc).1 hsp
      obtain ⟨t, h1, h2⟩ := ih (rm c i) (rm_lt hc hi) (Nat.lt_trans (rm_lt hc hi) hc) h
      exact ⟨t, sub_trans h1 (rm_sub c i), h2⟩

/-- The blocker, and the least sets. -/
def blk (n : Nat) (l : List Nat) : List Nat := (List.range (2 ^ n)).filter (blockB l)
def lst (l : List Nat) : List Nat := l.filter fun s => !l.any (otherIn s)

theorem compl_bit (n s j : Nat) (hs : s < 2 ^ n) : ((2 ^ n - 1) ^^^ s).testBit j = (decide (j < n) && !s.testBit j) := by
  rw [Nat.testBit_xor, Nat.testBit_two_pow_sub_one]
  by_cases h : j < n
  · simp [h]
  · have := Nat.testBit_lt_two_pow (Nat.lt_of_lt_of_le hs (Nat.pow_le_pow_right (by omega) (by omega) : 2 ^ n ≤ 2 ^ j))
    simp [h, this]

theorem meets_blk {n : Nat} {l : List Nat} (hn : n ≤ 8) (hl : Fam n l) {s : Nat} (hs : s < 2 ^ n) : (blk n l).all (meetB s) = true ↔ ∃ o ∈ l, subB o s = true := by
  have p8 : (2 : Nat) ^ n ≤ 256 := (Nat.pow_le_pow_right (by omega) hn : 2 ^ n ≤ 2 ^ 8)
  rw [List.all_eq_true]
  constructor
  · intro h
    refine Classical.byContradiction fun hno => ?_
    have hno' : ∀ o ∈ l, ¬ subB o s = true := fun o ho hos => hno ⟨o, ho, hos⟩
    have hcl : (2 ^ n - 1) ^^^ s < 2 ^ n := Nat.xor_lt_two_pow (by omega) hs
    have hc : l.all (meetB ((2 ^ n - 1) ^^^ s)) = true := by
      rw [List.all_eq_true]
      intro o ho
      refine Classical.byContradiction fun hm => hno' o ho (subB_iff.2 fun i hi => ?_)
      refine Classical.byContradiction fun hsi => hm (meetB_iff.2 ⟨i, ?_, hi⟩)
      rw [compl_bit n s i hs]
      have hin : i < n := by
        rcases Nat.lt_or_ge i n with h | h
        · exact h
        · have := Nat.testBit_lt_two_pow (Nat.lt_of_lt_of_le (hl.lt o ho) (Nat.pow_le_pow_right (by omega) h : 2 ^ n ≤ 2 ^ i))
          rw [this] at hi; cases hi
      simp [hin, hsi]
    obtain ⟨t, h1, h2⟩ := exists_block l _ (by omega) hc
    have ht : t < 2 ^ n := sub_lt h1 hcl
    have := h t (by simp [blk, ht, h2])
    obtain ⟨i, hi1, hi2⟩ := meetB_iff.1 this
    have := subB_iff.1 h1 i hi2
    rw [compl_bit n s i hs, hi1] at this
    simp at this
  · rintro ⟨o, ho, hos⟩ t ht
    simp only [blk, List.mem_filter, List.mem_range] at ht
    have := (block_iff (by omega)).1 ht.2
    have := List.all_eq_true.1 this.1 o ho
    obtain ⟨i, h1, h2⟩ := meetB_iff.1 this
    exact meetB_iff.2 ⟨i, subB_iff.1 hos i h2, h1⟩

theorem sub_ne {o s : Nat} (h : subB o s = true) (hne : o ≠ s) : ∃ i, s.testBit i = true ∧ o.testBit i = false := by
  refine Classical.byContradiction fun hno => hne (Nat.eq_of_testBit_eq fun i => ?_)
  have h1 := subB_iff.1 h i
  cases ho : o.testBit i
  · cases hs : s.testBit i
    · rfl
    · exact absurd ⟨i, hs, ho⟩ hno
  · rw [h1 ho]
theorem sub_rm {o s i : Nat} (h : subB o s = true) (hi : o.testBit i = false) : subB o (rm s i) = true := subB_iff.2 fun j hj => by
  rw [rm_bit, subB_iff.1 h j hj]
  simp
  rintro rfl
  rw [hi] at hj; cases hj

theorem blk_blk {n : Nat} {l : List Nat} (hn : n ≤ 8) (hl : Fam n l) : blk n (blk n l) = lst l := by
  have p8 : (2 : Nat) ^ n ≤ 256 := (Nat.pow_le_pow_right (by omega) hn : 2 ^ n ≤ 2 ^ 8)
  refine sorted_ext (Fam.range n _).up (hl.filter _).up fun s => ?_
  simp only [blk, lst, List.mem_filter, List.mem_range, Bool.not_eq_true', ← Bool.not_eq_true, List.any_eq_true]
  constructor
  · rintro ⟨hs, hb⟩
    obtain ⟨h1, h2⟩ := (block_iff (by omega)).1 hb
    obtain ⟨o, ho, hos⟩ := (meets_blk hn hl hs).1 h1
    have key : ∀ o ∈ l, subB o s = true → o = s := fun o ho hos => Classical.byContradiction fun hne => by
      obtain ⟨i, hi, hoi⟩ := sub_ne hos hne
      have := h2 i hi
      rw [show (List.filter (blockB l) (List.range (2 ^ n))) = blk n l from rfl, Bool.eq_false_iff] at this
      exact this ((meets_blk hn hl (Nat.lt_trans (rm_lt (by omega) hi) hs)).2 ⟨o, ho, sub_rm hos hoi⟩)
    have e := key o ho hos
    subst e
    refine ⟨ho, fun ⟨x, hx, hxo⟩ => ?_⟩
    simp only [otherIn, Bool.and_eq_true, bne_iff_ne] at hxo
    exact hxo.1 (key x hx hxo.2)
  · rintro ⟨hs, hno⟩
    have hlt := hl.lt s hs
    refine ⟨hlt, (block_iff (by omega)).2 ⟨(meets_blk hn hl hlt).2 ⟨s, hs, sub_refl s⟩, fun i hi => ?_⟩⟩
    rw [show (List.filter (blockB l) (List.range (2 ^ n))) = blk n l from rfl, Bool.eq_false_iff]
    intro hm
    obtain ⟨o, ho, hor⟩ := (meets_blk hn hl (Nat.lt_trans (rm_lt (by omega) hi) hlt)).1 hm
    refine hno ⟨o, ho, ?_⟩
    have : o ≠ s := by
      rintro rfl
      have := subB_iff.1 hor i hi
      rw [rm_bit] at this
      simp at this
    simp [otherIn, this, sub_trans hor (rm_sub s i)]

theorem lst_lst (l : List Nat) : lst (lst l) = lst l := by
  unfold lst
  refine List.filter_eq_self.2 fun s hs => ?_
  simp only [List.mem_filter, Bool.not_eq_true', ← Bool.not_eq_true, List.any_eq_true] at hs ⊢
  rintro ⟨x, hx, hxs⟩
  exact hs.2 ⟨x, hx.1, hxs⟩

theorem pop_rm : ∀ t : Nat, t < 256 → ∀ i : Nat, i < 8 → t.testBit i = true → pop t = pop (rm t i) + 1 := by decide +kernel
theorem down_one {t s : Nat} (ht : t < 256) (h : downB t s = true) : subB s t = true ∧ pop t = pop s + 1 := by
  unfold downB at h
  obtain ⟨i, hi, he⟩ := List.any_eq_true.1 h
  rw [beq_iff_eq] at he
  subst he
  have hb := (mem_els ht).1 hi
  exact ⟨rm_sub t i, pop_rm t ht i (by simpa using (List.mem_filter.1 hi).1) hb⟩
end Go.Proofs.Ythbldeloocmakaa

namespace Go.Proofs.Ythbldeloocmakaa

theorem filt_len (p q : Nat → Bool) : ∀ l : List Nat, (l.filter fun i => p i || q i).length + (l.filter fun i => p i && q i).length = (l.filter p).length + (l.filter q).length
  | [] => rfl
  | a :: l => by
    have := filt_len p q l
    simp only [List.filter_cons]
    cases p a <;> cases q a <;> simp <;> omega
theorem pop_or_and (a b : Nat) : pop (a ||| b) + pop (a &&& b) = pop a + pop b := by
  unfold pop; simp only [Nat.testBit_or, Nat.testBit_and]; exact filt_len _ _ _
theorem filt_le {p q : Nat → Bool} (h : ∀ i, p i = true → q i = true) : ∀ l : List Nat, (l.filter p).length ≤ (l.filter q).length
  | [] => Nat.le_refl _
  | a :: l => by
    have := filt_le h l
    have h' := h a
    simp only [List.filter_cons]
    cases hp : p a <;> cases hq : q a <;> simp_all <;> omega
theorem pop_sub {a b : Nat} (h : subB a b = true) : pop a ≤ pop b := filt_le (subB_iff.1 h) _

/-- What a has and b has not. -/
def dif (a b : Nat) : Nat := a ^^^ (a &&& b)
theorem dif_bit (a b i : Nat) : (dif a b).testBit i = (a.testBit i && !b.testBit i) := by
  unfold dif; rw [Nat.testBit_xor, Nat.testBit_and]; cases a.testBit i <;> cases b.testBit i <;> rfl
theorem dif_lt {a b : Nat} (h : a < 256) : dif a b < 256 :=
  sub_lt (n := 8) (subB_iff.2 fun i hi => by rw [dif_bit] at hi; simp at hi; exact hi.1) h
theorem pop_dif (a b : Nat) : pop (dif a b) + pop (a &&& b) = pop a := by
  have h := pop_or_and (dif a b) (a &&& b)
  have h1 : dif a b ||| a &&& b = a := Nat.eq_of_testBit_eq fun i => by rw [Nat.testBit_or, Nat.testBit_and, dif_bit]; cases a.testBit i <;> cases b.testBit i <;> rfl
  have h2 : dif a b &&& (a &&& b) = 0 := Nat.eq_of_testBit_eq fun i => by rw [Nat.testBit_and, Nat.testBit_and, dif_bit, Nat.zero_testBit]; cases a.testBit i <;> cases b.testBit i <;> rfl
  have h3 : pop 0 = 0 := by decide
  rw [h1, h2, h3] at h
  omega
theorem and_lt {a b : Nat} (h : a < 256) : a &&& b < 256 := Nat.lt_of_le_of_lt Nat.and_le_left h
theorem or_lt {a b : Nat} (h : a < 256) (k : b < 256) : a ||| b < 256 := Nat.or_lt_two_pow (n := 8) h k
theorem bit8 {a i : Nat} (h : a < 256) (hi : a.testBit i = true) : i < 8 := by
  rcases Nat.lt_or_ge i 8 with h1 | h1
  · exact h1
  · have := Nat.testBit_lt_two_pow (Nat.lt_of_lt_of_le h (Nat.pow_le_pow_right (by omega) h1 : 2 ^ 8 ≤ 2 ^ i))
    rw [this] at hi; cases hi
theorem pow_lt256 {i : Nat} (h : i < 8) : 2 ^ i < 256 := Nat.pow_lt_pow_right (by omega) h
theorem or_bit (a i j : Nat) : (a ||| 2 ^ i).testBit j = (a.testBit j || decide (i = j)) := by
  rw [Nat.testBit_or, Nat.testBit_two_pow]
theorem pop_ad : ∀ t : Nat, t < 256 → ∀ i : Nat, i < 8 → t.testBit i = false → pop (t ||| 2 ^ i) = pop t + 1 := by decide +kernel
theorem rm_eq (s i : Nat) : rm s i = dif s (2 ^ i) := rfl
theorem eq_of_pop {a b : Nat} (hb : b < 256) (h : subB a b = true) (hp : pop b ≤ pop a) : a = b := by
  have h1 := pop_dif b a
  have h2 : b &&& a = a := Nat.eq_of_testBit_eq fun i => by
    have := subB_iff.1 h i
    rw [Nat.testBit_and]; cases ha : a.testBit i <;> simp_all
  rw [h2] at h1
  have h3 : dif b a = 0 := (pop_pos _ (dif_lt hb)).1 (by omega)
  refine Nat.eq_of_testBit_eq fun i => ?_
  have h4 := congrArg (fun x => x.testBit i) h3
  simp only [dif_bit, Nat.zero_testBit] at h4
  have := subB_iff.1 h i
  cases ha : a.testBit i <;> cases hb : b.testBit i <;> simp_all
theorem rm_out {s i : Nat} (h : s.testBit i = false) : rm s i = s := Nat.eq_of_testBit_eq fun j => by
  rw [rm_bit]
  by_cases e : i = j
  · subst e; simp [h]
  · simp [e]
theorem ad_in {s i : Nat} (h : s.testBit i = true) : s ||| 2 ^ i = s := Nat.eq_of_testBit_eq fun j => by
  rw [or_bit]
  by_cases e : i = j
  · subst e; simp [h]
  · simp [e]
theorem and_rm (s a i : Nat) : s &&& rm a i = rm (s &&& a) i := Nat.eq_of_testBit_eq fun j => by
  rw [Nat.testBit_and, rm_bit, rm_bit, Nat.testBit_and]; cases s.testBit j <;> cases a.testBit j <;> rfl
theorem and_ad_in {s a i : Nat} (h : s.testBit i = true) : s &&& (a ||| 2 ^ i) = (s &&& a) ||| 2 ^ i := Nat.eq_of_testBit_eq fun j => by
  rw [Nat.testBit_and, or_bit, or_bit, Nat.testBit_and]
  by_cases e : i = j
  · subst e; simp [h]
  · simp [e]
theorem and_ad_out {s a i : Nat} (h : s.testBit i = false) : s &&& (a ||| 2 ^ i) = s &&& a := Nat.eq_of_testBit_eq fun j => by
  rw [Nat.testBit_and, or_bit, Nat.testBit_and]
  by_cases e : i = j
  · subst e; simp [h]
  · simp [e]
theorem and_bit (a b i : Nat) : (a &&& b).testBit i = (a.testBit i && b.testBit i) := Nat.testBit_and _ _ _

/-- Sets of one size, any two of which exchange each element. -/
structure Bas (bs : List Nat) : Prop where
  lt : ∀ b ∈ bs, b < 256
  size : ∀ a ∈ bs, ∀ b ∈ bs, pop a = pop b
  exch : ∀ a ∈ bs, ∀ b ∈ bs, ∀ x, a.testBit x = true → b.testBit x = false → ∃ y, b.testBit y = true ∧ a.testBit y = false ∧ rm a x ||| 2 ^ y ∈ bs
  ne : bs ≠ []

/-- The rank. -/
def rk (bs : List Nat) (s : Nat) : Nat := bs.foldl (fun m b => max m (pop (s &&& b))) 0
theorem fold_ge (f : Nat → Nat) : ∀ (l : List Nat) (m : Nat), m ≤ l.foldl (fun m b => max m (f b)) m ∧ ∀ b ∈ l, f b ≤ l.foldl (fun m b => max m (f b)) m
  | [], m => ⟨Nat.le_refl _, by simp⟩
  | a :: l, m => by
    obtain ⟨h1, h2⟩ := fold_ge f l (max m (f a))
    refine ⟨Nat.le_trans (Nat.le_max_left _ _) h1, fun b hb => ?_⟩
    rw [List.mem_cons] at hb
    rcases hb with rfl | hb
    · exact Nat.le_trans (Nat.le_max_right _ _) h1
    · exact h2 b hb
theorem fold_at (f : Nat → Nat) : ∀ (l : List Nat) (m : Nat), l.foldl (fun m b => max m (f b)) m = m ∨ ∃ b ∈ l, l.foldl (fun m b => max m (f b)) m = f b
  | [], m => .inl rfl
  | a :: l, m => by
    rcases fold_at f l (max m (f a)) with h | ⟨b, hb, h⟩
    · rw [List.foldl_cons, h]
      rcases Nat.le_total m (f a) with g | g
      · exact .inr ⟨a, by simp, by rw [Nat.max_eq_right g]⟩
      · exact .inl (Nat.max_eq_left g)
    · exact .inr ⟨b, by simp [hb], h⟩
theorem rk_ge {bs : List Nat} {b : Nat} (s : Nat) (h : b ∈ bs) : pop (s &&& b) ≤ rk bs s := (fold_ge (fun b => pop (s &&& b)) bs 0).2 b h
theorem rk_at {bs : List Nat} (h : bs ≠ []) (s : Nat) : ∃ b ∈ bs, pop (s &&& b) = rk bs s := by
  rcases fold_at (fun b => pop (s &&& b)) bs 0 with g | ⟨b, hb, g⟩
  · obtain ⟨b, hb⟩ := List.exists_mem_of_ne_nil bs h
    have := rk_ge s hb
    unfold rk at *
    exact ⟨b, hb, by omega⟩
  · exact ⟨b, hb, g.symm⟩

theorem swap_pop {a s x y : Nat} (ha : a < 256) (hx : a.testBit x = true) (hy : a.testBit y = false) (hy8 : y < 8) :
    pop (s &&& (rm a x ||| 2 ^ y)) + (if s.testBit x = true then 1 else 0) = pop (s &&& a) + (if s.testBit y = true then 1 else 0) := by
  have h8 := bit8 ha hx
  have hA : s &&& a < 256 := by rw [Nat.and_comm]; exact and_lt ha
  have e1 : pop (s &&& rm a x) + (if s.testBit x = true then 1 else 0) = pop (s &&& a) := by
    rw [and_rm]
    cases hs : s.testBit x
    · rw [rm_out (by rw [and_bit, hs]; rfl)]; simp
    · rw [pop_rm (s &&& a) hA x h8 (by rw [and_bit, hs, hx]; rfl)]; simp
  have e2 : pop (s &&& (rm a x ||| 2 ^ y)) = pop (s &&& rm a x) + (if s.testBit y = true then 1 else 0) := by
    cases hs : s.testBit y
    · rw [and_ad_out hs]; simp
    · rw [and_ad_in hs, pop_ad _ (by rw [Nat.and_comm]; exact and_lt (Nat.lt_of_le_of_lt (Nat.le_of_lt (rm_lt ha hx)) ha)) y hy8 (by rw [and_bit, rm_bit, hy]; simp)]; simp
  omega

theorem dif_swap_l {a b x y : Nat} (hby : b.testBit y = true) : dif (rm a x ||| 2 ^ y) b = rm (dif a b) x := Nat.eq_of_testBit_eq fun j => by
  rw [dif_bit, or_bit, rm_bit, rm_bit, dif_bit]
  by_cases e : y = j
  · subst e; simp [hby]
  · by_cases e2 : x = j
    · subst e2; simp [e]
    · simp [e, e2]
theorem dif_swap_r {a b x y : Nat} (hax : a.testBit x = false) : dif a (rm b x ||| 2 ^ y) = rm (dif a b) y := Nat.eq_of_testBit_eq fun j => by
  rw [dif_bit, or_bit, rm_bit, rm_bit, dif_bit]
  by_cases e : y = j
  · subst e; simp
  · by_cases e2 : x = j
    · subst e2; simp [hax]
    · simp [e, e2]

theorem not_all {p : Nat → Prop} [DecidablePred p] (s : Nat) (h : ¬ ∃ i, s.testBit i = true ∧ ¬ p i) : ∀ i, s.testBit i = true → p i := fun i hi => Decidable.byContradiction fun hn => h ⟨i, hi, hn⟩

theorem both {bs : List Nat} (h : Bas bs) {S T : Nat} (hST : subB S T = true) :
    ∀ (d a b : Nat), a ∈ bs → b ∈ bs → pop (T &&& a) = rk bs T → pop (S &&& b) = rk bs S → pop (dif a b) = d → ∃ c ∈ bs, pop (T &&& c) = rk bs T ∧ pop (S &&& c) = rk bs S := by
  intro d
  induction d using Nat.strongRecOn with
  | ind d ih =>
    intro a b ha hb hTa hSb hd
    have la := h.lt a ha
    have lb := h.lt b hb
    have goA : ∀ x, a.testBit x = true → b.testBit x = false → (∀ y, b.testBit y = true → a.testBit y = false → T.testBit x = true → T.testBit y = true) → ∃ c ∈ bs, pop (T &&& c) = rk bs T ∧ pop (S &&& c) = rk bs S := by
      intro x hx hbx hk
      obtain ⟨y, hy1, hy2, hm⟩ := h.exch a ha b hb x hx hbx
      have hp := swap_pop (s := T) la hx hy2 (bit8 lb hy1)
      have hg := rk_ge T hm
      have hT := hk y hy1 hy2
      have hd' : pop (dif (rm a x ||| 2 ^ y) b) + 1 = pop (dif a b) := by
        rw [dif_swap_l hy1, ← pop_rm (dif a b) (dif_lt la) x (bit8 la hx) (by rw [dif_bit, hx, hbx]; rfl)]
      refine ih (pop (dif (rm a x ||| 2 ^ y) b)) (by omega) _ b hm hb ?_ hSb rfl
      cases e1 : T.testBit x <;> cases e2 : T.testBit y <;> simp_all <;> omega
    have goB : ∀ x, b.testBit x = true → a.testBit x = false → S.testBit x = false → ∃ c ∈ bs, pop (T &&& c) = rk bs T ∧ pop (S &&& c) = rk bs S := by
      intro x hx hax hk
      obtain ⟨y, hy1, hy2, hm⟩ := h.exch b hb a ha x hx hax
      have hp := swap_pop (s := S) lb hx hy2 (bit8 la hy1)
      have hg := rk_ge S hm
      have hd' : pop (dif a (rm b x ||| 2 ^ y)) + 1 = pop (dif a b) := by
        rw [dif_swap_r hax, ← pop_rm (dif a b) (dif_lt la) y (bit8 la hy1) (by rw [dif_bit, hy1, hy2]; rfl)]
      refine ih (pop (dif a (rm b x ||| 2 ^ y))) (by omega) a _ ha hm hTa ?_ rfl
      cases e1 : S.testBit x <;> cases e2 : S.testBit y <;> simp_all <;> omega
    by_cases c1 : ∃ x, (dif a b).testBit x = true ∧ ¬ T.testBit x = true
    · obtain ⟨x, hx, hT⟩ := c1
      rw [dif_bit] at hx
      simp only [Bool.and_eq_true, Bool.not_eq_true'] at hx
      exact goA x hx.1 hx.2 fun _ _ _ h => absurd h hT
    by_cases c2 : ∃ x, (dif b a).testBit x = true ∧ ¬ S.testBit x = true
    · obtain ⟨x, hx, hS⟩ := c2
      rw [dif_bit] at hx
      simp only [Bool.and_eq_true, Bool.not_eq_true'] at hx
      exact goB x hx.1 hx.2 (by simpa using hS)
    have k2 := not_all _ c2
    by_cases c3 : ∃ x, (dif a b).testBit x = true ∧ ¬ S.testBit x = true
    · obtain ⟨x, hx, hS⟩ := c3
      rw [dif_bit] at hx
      simp only [Bool.and_eq_true, Bool.not_eq_true'] at hx
      exact goA x hx.1 hx.2 fun y hy1 hy2 _ => subB_iff.1 hST y (k2 y (by rw [dif_bit, hy1, hy2]; rfl))
    have k3 := not_all _ c3
    refine ⟨a, ha, hTa, ?_⟩
    rw [← hSb]
    have hs := h.size a ha b hb
    have p1 := pop_dif a b
    have p2 := pop_dif b a
    rw [Nat.and_comm b a] at p2
    have q1 := pop_dif (S &&& a) b
    have q2 := pop_dif (S &&& b) a
    have e1 : dif (S &&& a) b = dif a b := Nat.eq_of_testBit_eq fun j => by
      have := k3 j
      rw [dif_bit] at this
      rw [dif_bit, dif_bit, and_bit]; cases e1 : a.testBit j <;> cases e2 : b.testBit j <;> cases e3 : S.testBit j <;> simp_all
    have e2 : dif (S &&& b) a = dif b a := Nat.eq_of_testBit_eq fun j => by
      have := k2 j
      rw [dif_bit] at this
      rw [dif_bit, dif_bit, and_bit]; cases e1 : a.testBit j <;> cases e2 : b.testBit j <;> cases e3 : S.testBit j <;> simp_all
    have e3 : S &&& a &&& b = S &&& b &&& a := by rw [Nat.and_assoc, Nat.and_assoc, Nat.and_comm a b]
    rw [e1] at q1
    rw [e2, ← e3] at q2
    omega

theorem rk_sub {bs : List Nat} (h : Bas bs) (s t : Nat) : rk bs (s ||| t) + rk bs (s &&& t) ≤ rk bs s + rk bs t := by
  obtain ⟨a, ha, hTa⟩ := rk_at h.ne (s ||| t)
  obtain ⟨b, hb, hSb⟩ := rk_at h.ne (s &&& t)
  obtain ⟨c, hc, h1, h2⟩ := both h (S := s &&& t) (T := s ||| t) (subB_iff.2 fun i hi => by rw [and_bit] at hi; rw [Nat.testBit_or]; simp_all) _ a b ha hb hTa hSb rfl
  have p := pop_or_and (s &&& c) (t &&& c)
  have e1 : (s &&& c) ||| (t &&& c) = (s ||| t) &&& c := Nat.eq_of_testBit_eq fun j => by
    simp only [Nat.testBit_or, Nat.testBit_and]; cases s.testBit j <;> cases t.testBit j <;> cases c.testBit j <;> rfl
  have e2 : (s &&& c) &&& (t &&& c) = (s &&& t) &&& c := Nat.eq_of_testBit_eq fun j => by
    simp only [Nat.testBit_and]; cases s.testBit j <;> cases t.testBit j <;> cases c.testBit j <;> rfl
  rw [e1, e2] at p
  have g1 := rk_ge s hc
  have g2 := rk_ge t hc
  omega

/-- Ranks. -/
structure Rk (r : Nat → Nat) : Prop where
  le : ∀ s, r s ≤ pop s
  mono : ∀ s t, subB s t = true → r s ≤ r t
  step : ∀ s i, r (s ||| 2 ^ i) ≤ r s + 1
  sub : ∀ s t, r (s ||| t) + r (s &&& t) ≤ r s + r t
theorem pop_pow (i : Nat) : pop (2 ^ i) ≤ 1 := by
  rcases Nat.lt_or_ge i 8 with h | h
  · revert i; decide
  · unfold pop
    rw [List.filter_eq_nil_iff.2 fun j hj => by rw [Nat.testBit_two_pow]; simp at hj ⊢; omega]
    simp
theorem Bas.rk {bs : List Nat} (h : Bas bs) : Rk (rk bs) where
  le := fun s => by obtain ⟨b, hb, e⟩ := rk_at h.ne s; rw [← e]; exact pop_sub (subB_iff.2 fun i hi => by rw [and_bit] at hi; simp at hi; exact hi.1)
  mono := fun s t hst => by
    obtain ⟨b, hb, e⟩ := rk_at h.ne s
    rw [← e]
    exact Nat.le_trans (pop_sub (subB_iff.2 fun i hi => by rw [and_bit] at hi ⊢; simp at hi ⊢; exact ⟨subB_iff.1 hst i hi.1, hi.2⟩)) (rk_ge t hb)
  step := fun s i => by
    obtain ⟨b, hb, e⟩ := rk_at h.ne (s ||| 2 ^ i)
    have g := rk_ge s hb
    have p := pop_or_and (s &&& b) (2 ^ i)
    have q := pop_pow i
    have m : pop ((s ||| 2 ^ i) &&& b) ≤ pop ((s &&& b) ||| 2 ^ i) := pop_sub (subB_iff.2 fun j hj => by rw [and_bit, or_bit] at hj; rw [or_bit, and_bit]; simp at hj ⊢; rcases hj with ⟨h1 | h1, h2⟩ <;> simp_all)
    omega
  sub := rk_sub h
end Go.Proofs.Ythbldeloocmakaa

namespace Go.Proofs.Ythbldeloocmakaa

theorem sub_or (s t : Nat) : subB s (s ||| t) = true := subB_iff.2 fun i hi => by rw [Nat.testBit_or, hi]; rfl
theorem sub_ad {s t i : Nat} (h : subB s t = true) : subB (s ||| 2 ^ i) (t ||| 2 ^ i) = true := subB_iff.2 fun j hj => by
  rw [or_bit] at hj ⊢
  have := subB_iff.1 h j
  cases e : s.testBit j <;> simp_all
variable {r : Nat → Nat}
theorem Rk.zero (h : Rk r) : r 0 = 0 := by
  have := h.le 0
  have e : pop 0 = 0 := by decide
  omega
theorem Rk.add (h : Rk r) {s t i : Nat} (hst : subB s t = true) (e : r (s ||| 2 ^ i) = r s) : r (t ||| 2 ^ i) = r t := by
  have h1 := h.sub (s ||| 2 ^ i) t
  have h2 : s ||| 2 ^ i ||| t = t ||| 2 ^ i := Nat.eq_of_testBit_eq fun j => by
    have := subB_iff.1 hst j
    simp only [Nat.testBit_or, Nat.testBit_two_pow]
    cases e1 : s.testBit j <;> cases e2 : t.testBit j <;> simp_all
  have h3 := h.mono s ((s ||| 2 ^ i) &&& t) (subB_iff.2 fun j hj => by rw [and_bit, or_bit, hj, subB_iff.1 hst j hj]; rfl)
  have h4 := h.mono t (t ||| 2 ^ i) (sub_or _ _)
  rw [h2] at h1
  omega
theorem ad_rm {t i : Nat} (h : t.testBit i = true) : rm t i ||| 2 ^ i = t := Nat.eq_of_testBit_eq fun j => by
  rw [or_bit, rm_bit]
  by_cases e : i = j
  · subst e; simp [h]
  · simp [e]
theorem rm_ad {t i : Nat} (h : t.testBit i = false) : rm (t ||| 2 ^ i) i = t := Nat.eq_of_testBit_eq fun j => by
  rw [rm_bit, or_bit]
  by_cases e : i = j
  · subst e; simp [h]
  · simp [e]
theorem exists_bit {t : Nat} (h : t ≠ 0) : ∃ i, t.testBit i = true := by
  apply Classical.byContradiction
  intro hn
  exact h (Nat.eq_of_testBit_eq fun i => by
    rw [Nat.zero_testBit]
    cases e : t.testBit i
    · rfl
    · exact absurd ⟨i, e⟩ hn)
theorem Rk.adds (h : Rk r) {s : Nat} : ∀ (t : Nat), t < 256 → (∀ i, t.testBit i = true → r (s ||| 2 ^ i) = r s) → r (s ||| t) = r s := by
  intro t
  induction t using Nat.strongRecOn with
  | ind t ih =>
    intro ht hb
    by_cases h0 : t = 0
    · subst h0; rw [Nat.or_zero]
    · obtain ⟨i, hi⟩ := exists_bit h0
      have hlt := rm_lt ht hi
      have e1 := ih (rm t i) hlt (by omega) fun j hj => hb j (by rw [rm_bit] at hj; simp at hj; exact hj.1)
      have e2 := h.add (t := s ||| rm t i) (sub_or s _) (hb i hi)
      rw [Nat.or_assoc, ad_rm hi, e1] at e2
      exact e2

/-- What has the rank with s. -/
def clo (r : Nat → Nat) (c s : Nat) : Nat := (els c).foldl (fun a i => if r (s ||| 2 ^ i) = r s then a ||| 2 ^ i else a) s
theorem fold_bit (p : Nat → Prop) [DecidablePred p] (j : Nat) : ∀ (l : List Nat) (a : Nat), (l.foldl (fun a i => if p i then a ||| 2 ^ i else a) a).testBit j = (a.testBit j || (decide (j ∈ l) && decide (p j)))
  | [], a => by simp
  | i :: l, a => by
    rw [List.foldl_cons, fold_bit p j l]
    by_cases hp : p i
    · rw [if_pos hp, or_bit]
      by_cases e : i = j
      · subst e; simp [hp]
      · have e' : ¬ j = i := fun h => e h.symm
        simp [e, e']
    · rw [if_neg hp]
      by_cases e : j = i
      · subst e; simp [hp]
      · simp [e]
def cl (r : Nat → Nat) (n s : Nat) : Nat := clo r (2 ^ n - 1 - s) s
theorem sub_compl {n s : Nat} (hs : s < 2 ^ n) : 2 ^ n - 1 - s = (2 ^ n - 1) ^^^ s := by
  refine Nat.eq_of_testBit_eq fun j => ?_
  rw [compl_bit n s j hs]
  have := Nat.testBit_two_pow_sub_succ hs j
  rw [← this]
  congr 1
  omega
theorem compl_lt {n : Nat} (hn : n ≤ 8) (s : Nat) : 2 ^ n - 1 - s < 256 := by
  have : (2 : Nat) ^ n ≤ 256 := (Nat.pow_le_pow_right (by omega) hn : 2 ^ n ≤ 2 ^ 8)
  have := Nat.one_le_two_pow (n := n)
  omega
theorem bit_n {n t i : Nat} (ht : t < 2 ^ n) (hi : t.testBit i = true) : i < n := by
  rcases Nat.lt_or_ge i n with h | h
  · exact h
  · have := Nat.testBit_lt_two_pow (Nat.lt_of_lt_of_le ht (Nat.pow_le_pow_right (by omega) h : 2 ^ n ≤ 2 ^ i))
    rw [this] at hi; cases hi
theorem cl_bit {n s : Nat} (hn : n ≤ 8) (hs : s < 2 ^ n) (j : Nat) : (cl r n s).testBit j = (decide (j < n) && decide (r (s ||| 2 ^ j) = r s)) := by
  unfold cl clo
  rw [fold_bit (fun i => r (s ||| 2 ^ i) = r s)]
  have e : decide (j ∈ els (2 ^ n - 1 - s)) = (decide (j < n) && !s.testBit j) := by
    rw [← compl_bit n s j hs, ← sub_compl hs, Bool.eq_iff_iff, decide_eq_true_iff, mem_els (compl_lt hn s)]
  rw [e]
  cases hb : s.testBit j
  · simp
  · have h1 := bit_n hs hb
    simp [h1, ad_in hb]
theorem full_bit (n j : Nat) : (2 ^ n - 1).testBit j = decide (j < n) := Nat.testBit_two_pow_sub_one n j
theorem full_lt (n : Nat) : 2 ^ n - 1 < 2 ^ n := by have := Nat.one_le_two_pow (n := n); omega
theorem lt_of_bits {n t : Nat} (h : ∀ j, t.testBit j = true → j < n) : t < 2 ^ n :=
  sub_lt (c := 2 ^ n - 1) (subB_iff.2 fun j hj => by rw [full_bit]; simpa using h j hj) (full_lt n)
theorem cl_lt {n s : Nat} (hn : n ≤ 8) (hs : s < 2 ^ n) : cl r n s < 2 ^ n :=
  lt_of_bits fun j hj => by rw [cl_bit hn hs] at hj; simp at hj; exact hj.1
theorem lt256 {n s : Nat} (hn : n ≤ 8) (hs : s < 2 ^ n) : s < 256 := Nat.lt_of_lt_of_le hs (Nat.pow_le_pow_right (by omega) hn : 2 ^ n ≤ 2 ^ 8)
theorem sub_cl {n s : Nat} (hn : n ≤ 8) (hs : s < 2 ^ n) : subB s (cl r n s) = true := subB_iff.2 fun j hj => by
  rw [cl_bit hn hs, ad_in hj]; simp [bit_n hs hj]
theorem or_eq_of_sub {s t : Nat} (h : subB s t = true) : s ||| t = t := Nat.eq_of_testBit_eq fun j => by
  have := subB_iff.1 h j
  rw [Nat.testBit_or]; cases e1 : s.testBit j <;> simp_all
theorem Rk.cl_eq (h : Rk r) {n s : Nat} (hn : n ≤ 8) (hs : s < 2 ^ n) : r (cl r n s) = r s := by
  have := h.adds (s := s) (cl r n s) (lt256 hn (cl_lt hn hs)) fun i hi => by rw [cl_bit hn hs] at hi; simp at hi; exact hi.2
  rwa [or_eq_of_sub (sub_cl hn hs)] at this
theorem Rk.cl_cl (h : Rk r) {n s : Nat} (hn : n ≤ 8) (hs : s < 2 ^ n) : cl r n (cl r n s) = cl r n s := Nat.eq_of_testBit_eq fun j => by
  rw [cl_bit hn (cl_lt hn hs), cl_bit hn hs]
  congr 1
  rw [Bool.eq_iff_iff, decide_eq_true_iff, decide_eq_true_iff, h.cl_eq hn hs]
  constructor
  · intro e
    have h1 := h.mono _ _ (sub_ad (i := j) (sub_cl (r := r) hn hs))
    have h2 := h.mono _ _ (sub_or s (2 ^ j))
    omega
  · intro e
    rw [h.add (sub_cl hn hs) e, h.cl_eq hn hs]
theorem Rk.cl_mono (h : Rk r) {n s t : Nat} (hn : n ≤ 8) (hs : s < 2 ^ n) (ht : t < 2 ^ n) (hst : subB s t = true) : subB (cl r n s) (cl r n t) = true := subB_iff.2 fun j hj => by
  rw [cl_bit hn hs] at hj
  rw [cl_bit hn ht]
  simp only [Bool.and_eq_true, decide_eq_true_eq] at hj ⊢
  exact ⟨hj.1, h.add hst hj.2⟩

/-- Circuits. -/
def cirB (r : Nat → Nat) (s : Nat) : Bool := ((els s).all fun i => r (rm s i) == pop (rm s i)) && !(r s == pop s)
theorem cir_iff {s : Nat} (hs : s < 256) : cirB r s = true ↔ (∀ i, s.testBit i = true → r (rm s i) = pop (rm s i)) ∧ r s ≠ pop s := by
  unfold cirB
  simp only [Bool.and_eq_true, List.all_eq_true, mem_els hs, beq_iff_eq, Bool.not_eq_true', beq_eq_false_iff_ne]
theorem pop_rm' {s i : Nat} (hs : s < 256) (hi : s.testBit i = true) : pop s = pop (rm s i) + 1 := pop_rm s hs i (bit8 hs hi) hi
theorem Rk.cir_ne (h : Rk r) {s : Nat} (hc : r s ≠ pop s) : s ≠ 0 := fun e => by
  subst e
  exact hc (by rw [h.zero]; decide)
theorem Rk.cir_rk (h : Rk r) {s : Nat} (hs : s < 256) (hc : cirB r s = true) : r s + 1 = pop s := by
  obtain ⟨h1, h2⟩ := (cir_iff hs).1 hc
  obtain ⟨i, hi⟩ := exists_bit (h.cir_ne h2)
  have e := h1 i hi
  have m := h.mono _ _ (rm_sub s i)
  have p := pop_rm' hs hi
  have l := h.le s
  omega
/-- An element of a circuit is in the closure of the others. -/
theorem Rk.cir_in (h : Rk r) {s i : Nat} (hs : s < 256) (hc : cirB r s = true) (hi : s.testBit i = true) : r (rm s i ||| 2 ^ i) = r (rm s i) := by
  have e := h.cir_rk hs hc
  have p := pop_rm' hs hi
  have := ((cir_iff hs).1 hc).1 i hi
  rw [ad_rm hi]
  omega
/-- A set without which the rank falls nowhere is independent. -/
theorem Rk.ind_of (h : Rk r) : ∀ (s : Nat), s < 256 → (∀ z, s.testBit z = true → r (rm s z) ≠ r s) → r s = pop s := by
  intro s
  induction s using Nat.strongRecOn with
  | ind s ih =>
    intro hs hz
    by_cases h0 : s = 0
    · subst h0; rw [h.zero]; decide
    · obtain ⟨i, hi⟩ := exists_bit h0
      have hlt := rm_lt hs hi
      have p := pop_rm' hs hi
      have e : r (rm s i) = pop (rm s i) := ih _ hlt (by omega) fun z hzb he => by
        have hzs : s.testBit z = true := by rw [rm_bit] at hzb; simp at hzb; exact hzb.1
        have hne : i ≠ z := by rw [rm_bit] at hzb; simp at hzb; exact hzb.2
        refine hz z hzs ?_
        have a := h.add (s := rm (rm s i) z) (t := rm s z) (i := z) (subB_iff.2 fun j hj => by simp only [rm_bit, Bool.and_eq_true, decide_eq_true_eq] at hj ⊢; exact ⟨hj.1.1, hj.2⟩) (by rw [ad_rm hzb]; exact he.symm)
        rw [ad_rm hzs] at a
        exact a.symm
      have st := h.step (rm s i) i
      rw [ad_rm hi] at st
      have m := h.mono _ _ (rm_sub s i)
      have n := hz i hi
      omega
/-- Where y is in the closure of a set, it is in a circuit with some of it. -/
theorem Rk.cir_of (h : Rk r) {y : Nat} (hy : y < 8) : ∀ (d : Nat), d < 256 → d.testBit y = false → r (d ||| 2 ^ y) = r d → ∃ c, subB c (d ||| 2 ^ y) = true ∧ c.testBit y = true ∧ cirB r c = true := by
  intro d
  induction d using Nat.strongRecOn with
  | ind d ih =>
    intro hd hyd e
    by_cases hz : ∃ z, d.testBit z = true ∧ r (rm d z ||| 2 ^ y) = r (rm d z)
    · obtain ⟨z, hz, ez⟩ := hz
      have hlt := rm_lt hd hz
      obtain ⟨c, h1, h2, h3⟩ := ih (rm d z) hlt (by omega) (by rw [rm_bit, hyd]; rfl) ez
      exact ⟨c, sub_trans h1 (sub_ad (rm_sub d z)), h2, h3⟩
    · have hz' : ∀ z, d.testBit z = true → r (rm d z ||| 2 ^ y) ≠ r (rm d z) := fun z h1 h2 => hz ⟨z, h1, h2⟩
      have hlt : d ||| 2 ^ y < 256 := or_lt hd (pow_lt256 hy)
      have ind : r d = pop d := h.ind_of d hd fun z hzd he => hz' z hzd (by
        have m1 := h.mono _ _ (sub_ad (i := y) (rm_sub d z))
        have m2 := h.mono _ _ (sub_or (rm d z) (2 ^ y))
        omega)
      have p := pop_ad d hd y hy hyd
      refine ⟨d ||| 2 ^ y, sub_refl _, by rw [or_bit]; simp, (cir_iff hlt).2 ⟨fun i hi => ?_, by omega⟩⟩
      by_cases hiy : y = i
      · subst hiy
        rw [rm_ad hyd, ind]
      · have hid : d.testBit i = true := by rw [or_bit] at hi; simpa [hiy] using hi
        have e1 : rm (d ||| 2 ^ y) i = rm d i ||| 2 ^ y := Nat.eq_of_testBit_eq fun j => by
          simp only [rm_bit, or_bit]
          by_cases e2 : y = j
          · subst e2; simp; exact fun h => hiy h.symm
          · simp [e2]
        have lt2 := rm_lt hd hid
        have n1 := hz' i hid
        have s1 := h.step (rm d i) y
        have m1 := h.mono _ _ (sub_or (rm d i) (2 ^ y))
        have p2 := pop_rm' hd hid
        have s2 := h.step (rm d i) i
        rw [ad_rm hid] at s2
        have l2 := h.le (rm d i)
        have p3 := pop_ad (rm d i) (by omega) y hy (by rw [rm_bit, hyd]; rfl)
        rw [e1, p3]
        omega
/-- WHITNEY'S strong elimination. -/
theorem Rk.strong (h : Rk r) {a b x y : Nat} (ha : a < 256) (hb : b < 256) (ca : cirB r a = true) (cb : cirB r b = true) (hbx : b.testBit x = true) (hay : a.testBit y = true) (hby : b.testBit y = false) :
    ∃ c, cirB r c = true ∧ c.testBit y = true ∧ c.testBit x = false ∧ subB c (a ||| b) = true := by
  have hxy : x ≠ y := fun e => by subst e; rw [hbx] at hby; cases hby
  obtain ⟨d, hd⟩ : ∃ d, d = rm (rm (a ||| b) x) y := ⟨_, rfl⟩
  have dbit : ∀ j, d.testBit j = ((a.testBit j || b.testBit j) && decide (x ≠ j) && decide (y ≠ j)) := fun j => by rw [hd, rm_bit, rm_bit, Nat.testBit_or]
  have dlt : d < 256 := sub_lt (n := 8) (c := a ||| b) (subB_iff.2 fun j hj => by rw [dbit] at hj; rw [Nat.testBit_or]; simp at hj ⊢; exact hj.1.1) (or_lt ha hb)
  have e1 : r (d ||| 2 ^ x) = r d := h.add (s := rm b x) (subB_iff.2 fun j hj => by
    rw [rm_bit] at hj
    rw [dbit]
    simp only [Bool.and_eq_true, decide_eq_true_eq, Bool.or_eq_true] at hj ⊢
    exact ⟨⟨.inr hj.1, hj.2⟩, fun e => by subst e; rw [hj.1] at hby; cases hby⟩) (h.cir_in hb cb hbx)
  have e2 : r (d ||| 2 ^ x ||| 2 ^ y) = r (d ||| 2 ^ x) := h.add (s := rm a y) (subB_iff.2 fun j hj => by
    rw [rm_bit] at hj
    rw [or_bit, dbit]
    simp only [Bool.and_eq_true, decide_eq_true_eq, Bool.or_eq_true] at hj ⊢
    by_cases e : x = j
    · exact .inr e
    · exact .inl ⟨⟨.inl hj.1, e⟩, hj.2⟩) (h.cir_in ha ca hay)
  have e3 : r (d ||| 2 ^ y) = r d := by
    have m1 := h.mono (d ||| 2 ^ y) (d ||| 2 ^ x ||| 2 ^ y) (sub_ad (sub_or _ _))
    have m2 := h.mono d (d ||| 2 ^ y) (sub_or _ _)
    omega
  obtain ⟨c, h1, h2, h3⟩ := h.cir_of (bit8 ha hay) d dlt (by rw [dbit]; simp) e3
  refine ⟨c, h3, h2, ?_, ?_⟩
  · cases e : c.testBit x
    · rfl
    · have := subB_iff.1 h1 x e
      rw [or_bit, dbit] at this
      simp at this
      exact absurd this.symm hxy
  · refine subB_iff.2 fun j hj => ?_
    have := subB_iff.1 h1 j hj
    rw [or_bit, dbit] at this
    rw [Nat.testBit_or]
    simp only [Bool.and_eq_true, decide_eq_true_eq, Bool.or_eq_true] at this ⊢
    rcases this with h4 | rfl
    · exact h4.1.1
    · exact .inl hay

/-- Flats and hyperplanes. -/
def flatB (r : Nat → Nat) (n s : Nat) : Bool := cl r n s == s
def hypB (r : Nat → Nat) (n s : Nat) : Bool := flatB r n s && (r s + 1 == r (2 ^ n - 1))
theorem flat_iff {n s : Nat} (hn : n ≤ 8) (hs : s < 2 ^ n) : flatB r n s = true ↔ ∀ j, j < n → s.testBit j = false → r (s ||| 2 ^ j) ≠ r s := by
  unfold flatB
  rw [beq_iff_eq]
  constructor
  · intro e j hj hb he
    have := cl_bit (r := r) hn hs j
    rw [e, hb] at this
    simp [hj, he] at this
  · intro hall
    refine Nat.eq_of_testBit_eq fun j => ?_
    rw [cl_bit hn hs]
    cases hb : s.testBit j
    · simp only [Bool.and_eq_false_iff, decide_eq_false_iff_not]
      by_cases hj : j < n
      · exact .inr (hall j hj hb)
      · exact .inl hj
    · simp [bit_n hs hb, ad_in hb]
theorem Rk.meet (h : Rk r) {n a b : Nat} (hn : n ≤ 8) (ha : a < 2 ^ n) (hb : b < 2 ^ n) (fa : flatB r n a = true) (fb : flatB r n b = true) : flatB r n (a &&& b) = true := by
  rw [flat_iff hn (Nat.lt_of_le_of_lt Nat.and_le_left ha)]
  intro j hj hbit he
  rw [and_bit] at hbit
  cases e : a.testBit j
  · exact (flat_iff hn ha).1 fa j hj e (h.add (subB_iff.2 fun i hi => by rw [and_bit] at hi; simp at hi; exact hi.1) he)
  · rw [e] at hbit
    exact (flat_iff hn hb).1 fb j hj (by simpa using hbit) (h.add (subB_iff.2 fun i hi => by rw [and_bit] at hi; simp at hi; exact hi.2) he)
theorem ad_lt {n s i : Nat} (hs : s < 2 ^ n) (hi : i < n) : s ||| 2 ^ i < 2 ^ n := Nat.or_lt_two_pow hs (Nat.pow_lt_pow_right (by omega) hi)
/-- Ahead of an element that a flat has not there is a hyperplane around it. -/
theorem Rk.hyper (h : Rk r) {n x : Nat} (hn : n ≤ 8) (hx : x < n) : ∀ (k a : Nat), a < 2 ^ n → 2 ^ n - a ≤ k → flatB r n a = true → a.testBit x = false → ∃ c, c < 2 ^ n ∧ subB a c = true ∧ c.testBit x = false ∧ hypB r n c = true := by
  intro k
  induction k with
  | zero => intro a ha hk; omega
  | succ k ih =>
    intro a ha hk fa hax
    by_cases hy : ∃ y, y < n ∧ r (a ||| 2 ^ x ||| 2 ^ y) ≠ r (a ||| 2 ^ x)
    · obtain ⟨y, hyn, hne⟩ := hy
      have hay : a.testBit y = false := by
        cases e : a.testBit y
        · rfl
        · refine absurd ?_ hne
          rw [ad_in (by rw [or_bit, e]; rfl)]
      have ady := ad_lt ha hyn
      have hx1 := (flat_iff hn ha).1 fa x hx hax
      have hcx : (cl r n (a ||| 2 ^ y)).testBit x = false := by
        rw [cl_bit hn ady]
        simp only [Bool.and_eq_false_iff, decide_eq_false_iff_not]
        refine .inr fun e => hne ?_
        have s1 := h.step a y
        have s2 := h.step a x
        have m1 := h.mono a (a ||| 2 ^ x) (sub_or _ _)
        have e1 : a ||| 2 ^ x ||| 2 ^ y = a ||| 2 ^ y ||| 2 ^ x := by rw [Nat.or_assoc, Nat.or_comm (2 ^ x), ← Nat.or_assoc]
        have m2 := h.mono (a ||| 2 ^ x) (a ||| 2 ^ x ||| 2 ^ y) (sub_or _ _)
        rw [e1] at m2 ⊢
        omega
      have sa : subB a (cl r n (a ||| 2 ^ y)) = true := sub_trans (sub_or _ _) (sub_cl hn ady)
      have hgt : a < cl r n (a ||| 2 ^ y) := by
        have hle : a ≤ cl r n (a ||| 2 ^ y) := by
          have := sa
          unfold subB at this
          rw [beq_iff_eq] at this
          have h9 : a &&& cl r n (a ||| 2 ^ y) ≤ cl r n (a ||| 2 ^ y) := Nat.and_le_right
          omega
        rcases Nat.lt_or_ge a (cl r n (a ||| 2 ^ y)) with g | g
        · exact g
        · have e : cl r n (a ||| 2 ^ y) = a := by omega
          have := subB_iff.1 (sub_cl (r := r) hn ady) y (by rw [or_bit]; simp)
          rw [e, hay] at this
          cases this
      obtain ⟨c, h1, h2, h3, h4⟩ := ih (cl r n (a ||| 2 ^ y)) (cl_lt hn ady) (by omega) (by unfold flatB; rw [h.cl_cl hn ady]; simp) hcx
      exact ⟨c, h1, sub_trans sa h2, h3, h4⟩
    · have hy' : ∀ y, y < n → r (a ||| 2 ^ x ||| 2 ^ y) = r (a ||| 2 ^ x) := fun y h1 => Classical.byContradiction fun h2 => hy ⟨y, h1, h2⟩
      have full := h.adds (s := a ||| 2 ^ x) (2 ^ n - 1) (lt256 hn (full_lt n)) fun i hi => hy' i (by rw [full_bit] at hi; simpa using hi)
      have e1 : (a ||| 2 ^ x) ||| (2 ^ n - 1) = 2 ^ n - 1 := or_eq_of_sub (subB_iff.2 fun j hj => by
        rw [full_bit]; simpa using bit_n (ad_lt ha hx) hj)
      rw [e1] at full
      have s2 := h.step a x
      have m1 := h.mono a (a ||| 2 ^ x) (sub_or _ _)
      have n1 := (flat_iff hn ha).1 fa x hx hax
      exact ⟨a, ha, sub_refl _, hax, by unfold hypB; rw [fa, Bool.true_and, beq_iff_eq]; omega⟩
/-- What all of them have that are around a. -/
def meetAll (n a : Nat) (l : List Nat) : Nat := l.foldl (fun m b => if subB a b = true then m &&& b else m) (2 ^ n - 1)
theorem meets_bit (a j : Nat) : ∀ (l : List Nat) (m : Nat), (l.foldl (fun m b => if subB a b = true then m &&& b else m) m).testBit j = (m.testBit j && l.all fun b => !subB a b || b.testBit j)
  | [], m => by simp
  | b :: l, m => by
    rw [List.foldl_cons, meets_bit a j l]
    by_cases hb : subB a b = true
    · rw [if_pos hb, and_bit, List.all_cons, hb]; simp [Bool.and_assoc]
    · rw [if_neg hb, List.all_cons]; simp at hb; simp [hb]
theorem Rk.meets (h : Rk r) {n a : Nat} (hn : n ≤ 8) (ha : a < 2 ^ n) (fa : flatB r n a = true) : meetAll n a ((List.range (2 ^ n)).filter (hypB r n)) = a := Nat.eq_of_testBit_eq fun j => by
  unfold meetAll
  rw [meets_bit, full_bit]
  cases e : a.testBit j
  · by_cases hj : j < n
    · obtain ⟨c, h1, h2, h3, h4⟩ := h.hyper hn hj (2 ^ n) a ha (by omega) fa e
      rw [Bool.and_eq_false_iff]
      refine .inr (Bool.eq_false_iff.2 fun hall => ?_)
      have := List.all_eq_true.1 hall c (by simp [h1, h4])
      rw [h2, h3] at this
      cases this
    · simp [hj]
  · simp only [Bool.and_eq_true, decide_eq_true_eq, List.all_eq_true, bit_n ha e, true_and]
    intro b _
    cases hb : subB a b
    · rfl
    · rw [subB_iff.1 hb j e]; rfl
end Go.Proofs.Ythbldeloocmakaa
