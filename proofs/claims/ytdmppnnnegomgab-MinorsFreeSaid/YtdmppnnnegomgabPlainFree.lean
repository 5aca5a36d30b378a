/- Plain mathematics: a free element; a circuit that is a hyperplane, relaxed. -/
import Derived.Test.YtdmppnnnegomgabPlainTrunc
namespace Go.Proofs.Ytdmppnnnegomgab

/-- The ranks with a free element n. -/
def freeR (n : Nat) (r : Nat → Nat) (s : Nat) : Nat := if s.testBit n = true then min (r (rm s n) + 1) (r (2 ^ n - 1)) else r s
theorem rm_ltn {n s : Nat} (hs : s < 2 ^ (n + 1)) : rm s n < 2 ^ n := lt_of_bits fun j hj => by
  rw [rm_bit] at hj
  simp only [Bool.and_eq_true, decide_eq_true_eq] at hj
  have := bit_n hs hj.1
  omega
theorem lt_of_nbit {n s : Nat} (hs : s < 2 ^ (n + 1)) (h : s.testBit n = false) : s < 2 ^ n := by
  have := rm_ltn hs
  rwa [rm_out h] at this
theorem rm_or' (s t n : Nat) : rm (s ||| t) n = rm s n ||| rm t n := Nat.eq_of_testBit_eq fun j => by
  simp only [rm_bit, Nat.testBit_or]
  cases s.testBit j <;> cases t.testBit j <;> simp
theorem rm_and' (s t n : Nat) : rm (s &&& t) n = rm s n &&& rm t n := Nat.eq_of_testBit_eq fun j => by
  simp only [rm_bit, Nat.testBit_and]
  cases s.testBit j <;> cases t.testBit j <;> simp
theorem and_rm_l {s t n : Nat} (h : t.testBit n = false) : s &&& t = rm s n &&& t := by
  rw [← rm_out (s := s &&& t) (i := n) (by rw [and_bit, h]; simp), rm_and', rm_out h]
theorem sub_rm' {s t n : Nat} (h : subB s t = true) : subB (rm s n) (rm t n) = true := subB_iff.2 fun j hj => by
  rw [rm_bit] at hj ⊢
  simp only [Bool.and_eq_true] at hj ⊢
  exact ⟨subB_iff.1 h j hj.1, hj.2⟩
theorem free_rkOn {n : Nat} (hn : n < 8) {r : Nat → Nat} (h : RkOn n r) : RkOn (n + 1) (freeR n r) := by
  have top : ∀ s, s < 2 ^ n → r s ≤ r (2 ^ n - 1) := fun s hs => h.mono s _ hs (full_lt n) (full_sub hs)
  have andl : ∀ {a b : Nat}, subB (a &&& b) a = true := fun {a b} => subB_iff.2 fun i hi => by rw [and_bit] at hi; simp at hi; exact hi.1
  have andr : ∀ {a b : Nat}, subB (a &&& b) b = true := fun {a b} => subB_iff.2 fun i hi => by rw [and_bit] at hi; simp at hi; exact hi.2
  refine ⟨fun s hs => ?_, fun s t hs ht hst => ?_, fun s t hs ht => ?_⟩
  · unfold freeR
    have h1 := rm_ltn hs
    split
    · rename_i hb
      have h2 := h.le _ h1
      have h3 := pop_rm' (lt256 (by omega) hs) hb
      omega
    · rename_i hb
      exact h.le s (lt_of_nbit hs (by simpa using hb))
  · unfold freeR
    have a1 := rm_ltn hs
    have a2 := rm_ltn ht
    have h1 := h.mono _ _ a1 a2 (sub_rm' (n := n) hst)
    have h2 := top _ a1
    have h3 := top _ a2
    by_cases bs : s.testBit n = true
    · have bt := subB_iff.1 hst n bs
      rw [if_pos bs, if_pos bt]
      omega
    · rw [if_neg bs]
      rw [rm_out (by simpa using bs)] at h1 h2
      by_cases bt : t.testBit n = true
      · rw [if_pos bt]
        omega
      · rw [if_neg bt]
        rw [rm_out (by simpa using bt)] at h1
        exact h1
  · unfold freeR
    have a1 := rm_ltn hs
    have a2 := rm_ltn ht
    have au : rm s n ||| rm t n < 2 ^ n := Nat.or_lt_two_pow a1 a2
    have ai : rm s n &&& rm t n < 2 ^ n := and_ltn a1
    have h1 := h.sub _ _ a1 a2
    have t1 := top _ a1
    have t2 := top _ a2
    have t3 := top _ au
    have m1 := h.mono _ _ ai a1 andl
    have m2 := h.mono _ _ ai a2 andr
    have m3 := h.mono _ _ a1 au (sub_or _ _)
    have m4 := h.mono _ _ a2 au (by rw [Nat.or_comm]; exact sub_or _ _)
    rw [Nat.testBit_or, Nat.testBit_and, rm_or', rm_and']
    cases bs : s.testBit n <;> cases bt : t.testBit n <;> simp only [Bool.or_false, Bool.or_true, Bool.and_false, Bool.and_true, if_true, Bool.false_eq_true, if_false]
    · have e1 := rm_out bs
      have e2 := rm_out bt
      rw [e1, e2] at h1
      exact h1
    · have e1 := rm_out bs
      have e3 : s &&& t = rm s n &&& rm t n := by rw [e1, Nat.and_comm, and_rm_l bs, Nat.and_comm]
      have e4 : r s = r (rm s n) := by rw [e1]
      rw [e3, e4]
      omega
    · have e2 := rm_out bt
      have e3 : s &&& t = rm s n &&& rm t n := by rw [e2, and_rm_l bt]
      have e4 : r t = r (rm t n) := by rw [e2]
      rw [e3, e4]
      omega
    · omega
def feL (n : Nat) (l : List Nat) : List Nat := basR (n + 1) (freeR n (rk l))
theorem fe_fam (n : Nat) (l : List Nat) : Fam (n + 1) (feL n l) := basR_fam _ _
theorem fe_bas {n : Nat} {l : List Nat} (hn : n < 8) (hb : Bas l) : Bas (feL n l) := (free_rkOn hn (hb.rkOn n)).bas (by omega)
theorem fe_rk {n : Nat} {l : List Nat} (hn : n < 8) (hb : Bas l) {s : Nat} (hs : s < 2 ^ (n + 1)) : rk (feL n l) s = freeR n (rk l) s := (free_rkOn hn (hb.rkOn n)).rk_eq (by omega) hs
theorem free_ind {n : Nat} {r : Nat → Nat} (hn : n < 8) (h : RkOn n r) {s : Nat} (hs : s < 2 ^ (n + 1)) :
    (r (rm s n) == pop (rm s n) && (s == rm s n || decide (r (rm s n) < r (2 ^ n - 1)))) = (freeR n r s == pop s) := by
  unfold freeR
  rw [Bool.eq_iff_iff]
  simp only [Bool.and_eq_true, Bool.or_eq_true, beq_iff_eq, decide_eq_true_eq]
  have h0 := h.le _ (rm_ltn hs)
  by_cases hb : s.testBit n = true
  · rw [if_pos hb]
    have h3 := pop_rm' (lt256 (by omega) hs) hb
    have h4 := rm_lt (lt256 (by omega) hs) hb
    omega
  · rw [if_neg hb, rm_out (by simpa using hb)]
    simp
theorem els_full : ∀ n : Nat, n ≤ 8 → els (2 ^ n - 1) = List.range n := by decide +kernel
theorem old_range {n t : Nat} (ht : t < 2 ^ n) : old (List.range n) t = t := Nat.eq_of_testBit_eq fun j => by
  rw [Bool.eq_iff_iff, old_bit]
  constructor
  · rintro ⟨i, h1, h2⟩
    obtain ⟨h3, h4⟩ := List.getElem?_eq_some_iff.1 h1
    rw [List.getElem_range] at h4
    rwa [← h4]
  · intro h
    have := bit_n ht h
    exact ⟨j, by rw [List.getElem?_range this], h⟩
theorem pow_bit (n j : Nat) : (2 ^ n).testBit j = decide (n = j) := Nat.testBit_two_pow
theorem kept_free (n : Nat) : dif (2 ^ (n + 1) - 1) (2 ^ n) = 2 ^ n - 1 := Nat.eq_of_testBit_eq fun j => by
  rw [dif_bit, full_bit, full_bit, pow_bit]
  by_cases h : n = j
  · subst h; simp
  · have : decide (j < n + 1) = decide (j < n) := by rw [decide_eq_decide]; omega
    simp [h, this]
theorem pop_full : ∀ n : Nat, n ≤ 8 → pop (2 ^ n - 1) = n := by decide +kernel
theorem small_bit {n t : Nat} (ht : t < 2 ^ n) : t.testBit n = false := by
  cases e : t.testBit n
  · rfl
  · have := bit_n ht e; omega
/-- A free element goes away again. -/
theorem free_del {n : Nat} {l : List Nat} (hn : n < 8) (hf : Fam n l) (hb : Bas l) : minL (n + 1) (feL n l) (2 ^ n) 0 = l := by
  have e1 := kept_free n
  have e2 := pop_full n (by omega)
  have hF := min_fam (n + 1) (feL n l) (2 ^ n) 0
  have hB := min_bas (n := n + 1) (by omega) (fe_bas hn hb) (2 ^ n) 0
  have hR : ∀ t, t < 2 ^ n → rk (minL (n + 1) (feL n l) (2 ^ n) 0) t = rk l t := fun t ht => by
    rw [min_rk (by omega) (fe_bas hn hb) (2 ^ n) 0 (by rw [e1, e2]; exact ht), e1, min_zero (fe_bas hn hb), els_full n (by omega), old_range ht, fe_rk hn hb (Nat.lt_of_lt_of_le ht (Nat.pow_le_pow_right (by omega) (by omega)))]
    unfold freeR
    rw [small_bit ht]
    simp
  rw [e1, e2] at hF
  exact bas_ext (by omega) hF hB hf hb hR
/-- Contracting it truncates. -/
theorem free_con {n : Nat} {l : List Nat} (hn : n < 8) (hb : Bas l) (hR : 0 < rk l (2 ^ n - 1)) : minL (n + 1) (feL n l) (2 ^ n) (2 ^ n) = cutL n l (rk l (2 ^ n - 1) - 1) := by
  have e1 := kept_free n
  have e2 := pop_full n (by omega)
  have hF := min_fam (n + 1) (feL n l) (2 ^ n) (2 ^ n)
  have hB := min_bas (n := n + 1) (by omega) (fe_bas hn hb) (2 ^ n) (2 ^ n)
  have hx : 2 ^ n < 2 ^ (n + 1) := Nat.pow_lt_pow_right (by omega) (by omega)
  have hRR : ∀ t, t < 2 ^ n → rk (minL (n + 1) (feL n l) (2 ^ n) (2 ^ n)) t = rk (cutL n l (rk l (2 ^ n - 1) - 1)) t := fun t ht => by
    rw [min_rk (by omega) (fe_bas hn hb) (2 ^ n) (2 ^ n) (by rw [e1, e2]; exact ht), e1]
    unfold minR
    rw [show rk (cutL n l (rk l (2 ^ n - 1) - 1)) t = cutR (rk l) (rk l (2 ^ n - 1) - 1) t from (cut_rkOn (hb.rkOn n) _).rk_eq (by omega) ht, els_full n (by omega), old_range ht, fe_rk hn hb (Nat.or_lt_two_pow (Nat.lt_of_lt_of_le ht (Nat.pow_le_pow_right (by omega) (by omega))) hx), fe_rk hn hb hx]
    unfold freeR cutR
    have b1 : (t ||| 2 ^ n).testBit n = true := by rw [or_bit]; simp
    have b2 : (2 ^ n).testBit n = true := by rw [pow_bit]; simp
    have r1 : rm (t ||| 2 ^ n) n = t := rm_ad (small_bit ht)
    have r2 : rm (2 ^ n) n = 0 := Nat.eq_of_testBit_eq fun j => by rw [rm_bit, pow_bit, Nat.zero_testBit]; by_cases h : n = j <;> simp [h]
    rw [if_pos b1, if_pos b2, r1, r2, hb.rk.zero]
    omega
  rw [e1, e2] at hF
  exact bas_ext (by omega) hF hB (cut_fam _ _ _) (cut_bas (by omega) hb _) hRR

/-- The ranks of what is relaxed. -/
def relR (r : Nat → Nat) (c s : Nat) : Nat := if s = c then r c + 1 else r s
theorem rel_rkOn {n : Nat} (hn : n ≤ 8) {l : List Nat} (hb : Bas l) {c : Nat} (hc : c < 2 ^ n) (h1 : cirB (rk l) c = true) (h2 : hypB (rk l) n c = true) : RkOn n (relR (rk l) c) := by
  have h := hb.rkOn n
  have c8 := lt256 hn hc
  have hr := hb.rk.cir_rk c8 h1
  unfold hypB at h2
  rw [Bool.and_eq_true, beq_iff_eq, flat_iff hn hc] at h2
  have up : ∀ t, t < 2 ^ n → subB c t = true → t ≠ c → rk l t = rk l (2 ^ n - 1) := fun t ht hct hne => by
    obtain ⟨j, hj1, hj2⟩ := sub_ne hct (Ne.symm hne)
    have k1 := h2.1 j (bit_n ht hj1) hj2
    have k2 := hb.rk.mono _ _ (sub_or c (2 ^ j))
    have k3 : subB (c ||| 2 ^ j) t = true := subB_iff.2 fun i hi => by
      rw [or_bit, Bool.or_eq_true, decide_eq_true_eq] at hi
      rcases hi with hi | rfl
      · exact subB_iff.1 hct i hi
      · exact hj1
    have k4 := hb.rk.mono _ _ k3
    have k5 := hb.rk.mono _ _ (full_sub ht)
    omega
  have down : ∀ t, subB t c = true → t ≠ c → rk l t = pop t := fun t htc hne => by
    obtain ⟨j, hj1, hj2⟩ := sub_ne htc hne
    exact ind_down hb.rk (((cir_iff c8).1 h1).1 j hj1) (sub_rm htc hj2)
  refine ⟨fun s hs => ?_, fun s t hs ht hst => ?_, fun s t hs ht => ?_⟩
  · unfold relR
    split
    · rename_i e; subst e; omega
    · exact h.le s hs
  · unfold relR
    by_cases e1 : s = c
    · subst e1
      rw [if_pos rfl]
      by_cases e2 : t = s
      · rw [if_pos e2]; exact Nat.le_refl _
      · rw [if_neg e2]
        have := up t ht hst e2
        omega
    · rw [if_neg e1]
      have := h.mono s t hs ht hst
      split
      · rename_i e2; subst e2; omega
      · exact this
  · unfold relR
    have h0 := h.sub s t hs ht
    have tu := hb.rk.mono _ _ (full_sub (Nat.or_lt_two_pow hs ht))
    by_cases e1 : s = c
    · subst e1
      rw [if_pos rfl]
      by_cases e2 : t = s
      · subst e2
        rw [Nat.or_self, Nat.and_self, if_pos rfl]
        exact Nat.le_refl _
      · rw [if_neg e2]
        by_cases e3 : s ||| t = s
        · have e4 : s &&& t = t := by
            rw [Nat.and_comm]
            exact sub_and (subB_iff.2 fun i hi => by rw [← e3, Nat.testBit_or, hi, Bool.or_true])
          rw [if_pos e3, e4, if_neg e2]
          exact Nat.le_refl _
        · rw [if_neg e3]
          split <;> rename_i e4
          · rw [e4] at h0; omega
          · omega
    · rw [if_neg e1]
      by_cases e2 : t = c
      · subst e2
        rw [if_pos rfl]
        by_cases e3 : s ||| t = t
        · have e4 : s &&& t = s := sub_and (subB_iff.2 fun i hi => by rw [← e3, Nat.testBit_or, hi]; rfl)
          rw [if_pos e3, e4, if_neg e1]
          omega
        · rw [if_neg e3]
          split <;> rename_i e4
          · rw [e4] at h0; omega
          · omega
      · rw [if_neg e2]
        by_cases e3 : s ||| t = c
        · have s1 := down s (by rw [← e3]; exact sub_or s t) e1
          have s2 := down t (by rw [← e3, Nat.or_comm]; exact sub_or t s) e2
          have e5 : s &&& t ≠ c := fun e => e1 (by
            have a1 : subB c s = true := by rw [← e]; exact subB_iff.2 fun i hi => by rw [and_bit] at hi; simp at hi; exact hi.1
            have a2 : subB s c = true := by rw [← e3]; exact sub_or s t
            exact Nat.eq_of_testBit_eq fun j => by
              rw [Bool.eq_iff_iff]; exact ⟨subB_iff.1 a2 j, subB_iff.1 a1 j⟩)
          rw [if_pos e3, if_neg e5]
          have p := pop_or_and s t
          rw [e3] at p
          have q := hb.rk.le (s &&& t)
          omega
        · rw [if_neg e3]
          split <;> rename_i e4
          · have s1 := up s hs (by rw [← e4]; exact subB_iff.2 fun i hi => by rw [and_bit] at hi; simp at hi; exact hi.1) e1
            have s2 := up t ht (by rw [← e4]; exact subB_iff.2 fun i hi => by rw [and_bit] at hi; simp at hi; exact hi.2) e2
            omega
          · exact h0
theorem rel_mem {n : Nat} (hn : n ≤ 8) {l : List Nat} (hf : Fam n l) (hb : Bas l) {c : Nat} (hc : c < 2 ^ n) (h1 : cirB (rk l) c = true) (h2 : hypB (rk l) n c = true) (s : Nat) : s ∈ basR n (relR (rk l) c) ↔ s = c ∨ s ∈ l := by
  have c8 := lt256 hn hc
  have hr := hb.rk.cir_rk c8 h1
  unfold hypB at h2
  rw [Bool.and_eq_true, beq_iff_eq] at h2
  have hfc : (2 ^ n - 1) ≠ c := fun e => by rw [e] at h2; omega
  rw [mem_basR]
  unfold relR
  rw [if_neg hfc]
  constructor
  · rintro ⟨k1, k2, k3⟩
    by_cases e : s = c
    · exact .inl e
    · rw [if_neg e] at k2 k3
      exact .inr ((bas_mem hn hf hb k1).2 ⟨k2, k3⟩)
  · rintro (rfl | h)
    · rw [if_pos rfl]
      exact ⟨hc, by omega, by omega⟩
    · have hs := hf.lt s h
      obtain ⟨k1, k2⟩ := (bas_mem hn hf hb hs).1 h
      have e : s ≠ c := fun e => by subst e; omega
      rw [if_neg e]
      exact ⟨hs, k1, k2⟩
end Go.Proofs.Ytdmppnnnegomgab
