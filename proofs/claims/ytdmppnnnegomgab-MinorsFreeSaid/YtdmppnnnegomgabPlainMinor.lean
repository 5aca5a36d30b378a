/- Plain mathematics: sets under new numbers; what is left of a matroid; deleting, contracting, the dual. -/
import Derived.Test.YtdmppnnnegomgabPlainRank
namespace Go.Proofs.Ytdmppnnnegomgab

/-- The set of the second ones, of those pairs whose first one is in t. -/
def tie (ps : List (Nat × Nat)) (t : Nat) : Nat := ps.foldl (fun a p => if t.testBit p.1 = true then a ||| 2 ^ p.2 else a) 0
theorem tie_fold (t j : Nat) : ∀ (ps : List (Nat × Nat)) (a : Nat), (ps.foldl (fun a p => if t.testBit p.1 = true then a ||| 2 ^ p.2 else a) a).testBit j = true ↔ a.testBit j = true ∨ ∃ p ∈ ps, t.testBit p.1 = true ∧ p.2 = j
  | [], a => by simp
  | p :: ps, a => by
    rw [List.foldl_cons, tie_fold t j ps]
    by_cases h : t.testBit p.1 = true
    · rw [if_pos h, or_bit]
      simp only [Bool.or_eq_true, decide_eq_true_eq, List.mem_cons, exists_eq_or_imp, h, true_and, or_assoc]
    · rw [if_neg h]
      simp [h]
theorem tie_bit {ps : List (Nat × Nat)} {t j : Nat} : (tie ps t).testBit j = true ↔ ∃ p ∈ ps, t.testBit p.1 = true ∧ p.2 = j := by
  unfold tie
  rw [tie_fold]
  simp
theorem tie_snoc (ps : List (Nat × Nat)) (p : Nat × Nat) (t : Nat) : tie (ps ++ [p]) t = if t.testBit p.1 = true then tie ps t ||| 2 ^ p.2 else tie ps t := by
  unfold tie
  rw [List.foldl_append]
  rfl
/-- The set t of few, as one of the elements xs. -/
def old (xs : List Nat) (t : Nat) : Nat := tie (xs.zipIdx.map fun p => (p.2, p.1)) t
/-- A set s, of the elements xs, under new numbers. -/
def shf (xs : List Nat) (s : Nat) : Nat := tie xs.zipIdx s
theorem old_snoc (xs : List Nat) (x t : Nat) : old (xs ++ [x]) t = if t.testBit xs.length = true then old xs t ||| 2 ^ x else old xs t := by
  unfold old
  rw [List.zipIdx_append, List.map_append]
  simp only [List.zipIdx_cons, List.zipIdx_nil, List.map_cons, List.map_nil, Nat.zero_add]
  rw [tie_snoc]
theorem shf_snoc (xs : List Nat) (x s : Nat) : shf (xs ++ [x]) s = if s.testBit x = true then shf xs s ||| 2 ^ xs.length else shf xs s := by
  unfold shf
  rw [List.zipIdx_append]
  simp only [List.zipIdx_cons, List.zipIdx_nil, Nat.zero_add]
  rw [tie_snoc]
theorem old_bit {xs : List Nat} {t j : Nat} : (old xs t).testBit j = true ↔ ∃ i, xs[i]? = some j ∧ t.testBit i = true := by
  unfold old
  rw [tie_bit]
  constructor
  · rintro ⟨p, hp, h1, h2⟩
    rw [List.mem_map] at hp
    obtain ⟨⟨x, i⟩, hq, rfl⟩ := hp
    rw [List.mem_zipIdx_iff_getElem?] at hq
    dsimp only at h1 h2 hq
    subst h2
    exact ⟨i, hq, h1⟩
  · rintro ⟨i, h1, h2⟩
    exact ⟨(i, j), List.mem_map.2 ⟨(j, i), List.mem_zipIdx_iff_getElem?.2 h1, rfl⟩, h2, rfl⟩
theorem shf_bit {xs : List Nat} {s i : Nat} : (shf xs s).testBit i = true ↔ ∃ x, xs[i]? = some x ∧ s.testBit x = true := by
  unfold shf
  rw [tie_bit]
  constructor
  · rintro ⟨⟨x, k⟩, hq, h1, h2⟩
    rw [List.mem_zipIdx_iff_getElem?] at hq
    dsimp only at h1 h2 hq
    subst h2
    exact ⟨x, hq, h1⟩
  · rintro ⟨x, h1, h2⟩
    exact ⟨(x, i), List.mem_zipIdx_iff_getElem?.2 h1, h2, rfl⟩
theorem els_up (s : Nat) : (els s).Pairwise (· < ·) := List.Pairwise.sublist List.filter_sublist List.pairwise_lt_range
theorem up_inj {xs : List Nat} (h : xs.Pairwise (· < ·)) {i k x : Nat} (h1 : xs[i]? = some x) (h2 : xs[k]? = some x) : i = k := by
  obtain ⟨a1, a2⟩ := List.getElem?_eq_some_iff.1 h1
  obtain ⟨b1, b2⟩ := List.getElem?_eq_some_iff.1 h2
  rw [List.pairwise_iff_getElem] at h
  rcases Nat.lt_trichotomy i k with g | g | g
  · have := h i k a1 b1 g; omega
  · exact g
  · have := h k i b1 a1 g; omega
theorem old_or (xs : List Nat) (s t : Nat) : old xs (s ||| t) = old xs s ||| old xs t := Nat.eq_of_testBit_eq fun j => by
  rw [Bool.eq_iff_iff, Nat.testBit_or, Bool.or_eq_true, old_bit, old_bit, old_bit]
  constructor
  · rintro ⟨i, h1, h2⟩
    rw [Nat.testBit_or, Bool.or_eq_true] at h2
    rcases h2 with h2 | h2
    · exact .inl ⟨i, h1, h2⟩
    · exact .inr ⟨i, h1, h2⟩
  · rintro (⟨i, h1, h2⟩ | ⟨i, h1, h2⟩)
    · exact ⟨i, h1, by rw [Nat.testBit_or, h2]; rfl⟩
    · exact ⟨i, h1, by rw [Nat.testBit_or, h2, Bool.or_true]⟩
theorem old_and {xs : List Nat} (hx : xs.Pairwise (· < ·)) (s t : Nat) : old xs (s &&& t) = old xs s &&& old xs t := Nat.eq_of_testBit_eq fun j => by
  rw [Bool.eq_iff_iff, and_bit, Bool.and_eq_true, old_bit, old_bit, old_bit]
  constructor
  · rintro ⟨i, h1, h2⟩
    rw [and_bit, Bool.and_eq_true] at h2
    exact ⟨⟨i, h1, h2.1⟩, ⟨i, h1, h2.2⟩⟩
  · rintro ⟨⟨i, h1, h2⟩, ⟨k, h3, h4⟩⟩
    have := up_inj hx h1 h3
    subst this
    exact ⟨i, h1, by rw [and_bit, h2, h4]; rfl⟩
theorem old_mono (xs : List Nat) {s t : Nat} (h : subB s t = true) : subB (old xs s) (old xs t) = true := subB_iff.2 fun j hj => by
  rw [old_bit] at hj ⊢
  obtain ⟨i, h1, h2⟩ := hj
  exact ⟨i, h1, subB_iff.1 h i h2⟩
theorem old_lt {xs : List Nat} (hx : ∀ x ∈ xs, x < 8) (t : Nat) : old xs t < 256 := lt_of_bits (n := 8) fun j hj => by
  rw [old_bit] at hj
  obtain ⟨i, h1, _⟩ := hj
  exact hx j (List.mem_of_getElem? h1)
theorem old_pop {xs : List Nat} (hx : ∀ x ∈ xs, x < 8) (hup : xs.Pairwise (· < ·)) (h8 : xs.length ≤ 8) (t : Nat) : ∀ k, k ≤ xs.length → pop (old (xs.take k) t) = pop (t &&& (2 ^ k - 1))
  | 0, _ => by
    have : t &&& (2 ^ 0 - 1) = 0 := by simp
    rw [this]
    rfl
  | k + 1, hk => by
    have ih := old_pop hx hup h8 t k (by omega)
    have hlt : k < xs.length := by omega
    have e1 : xs.take (k + 1) = xs.take k ++ [xs[k]] := by rw [List.take_add_one]; simp [hlt]
    have e2 : (xs.take k).length = k := by simp; omega
    have e3 : t &&& (2 ^ (k + 1) - 1) = (t &&& (2 ^ k - 1)) ||| (if t.testBit k = true then 2 ^ k else 0) := Nat.eq_of_testBit_eq fun j => by
      rw [Nat.testBit_or, and_bit, and_bit, full_bit, full_bit]
      by_cases ht : t.testBit k = true
      · rw [if_pos ht, Nat.testBit_two_pow]
        by_cases e : k = j
        · subst e; simp [ht]
        · have : decide (j < k + 1) = decide (j < k) := by rw [decide_eq_decide]; omega
          simp [e, this]
      · rw [if_neg ht, Nat.zero_testBit]
        by_cases e : k = j
        · subst e; simp at ht; simp [ht]
        · have : decide (j < k + 1) = decide (j < k) := by rw [decide_eq_decide]; omega
          simp [this]
    have hbound : t &&& (2 ^ k - 1) < 256 := Nat.lt_of_lt_of_le (mask_lt k t) (Nat.pow_le_pow_right (by omega) (by omega) : 2 ^ k ≤ 2 ^ 8)
    have hx8 : xs[k] < 8 := hx _ (List.getElem_mem _)
    have hno : (old (xs.take k) t).testBit xs[k] = false := by
      rw [Bool.eq_false_iff]
      intro h
      rw [old_bit] at h
      obtain ⟨i, h1, _⟩ := h
      rw [List.getElem?_take] at h1
      split at h1
      · have := up_inj hup h1 (List.getElem?_eq_getElem hlt)
        omega
      · cases h1
    rw [e1, old_snoc, e2, e3]
    by_cases ht : t.testBit k = true
    · rw [if_pos ht, if_pos ht, pop_ad _ (old_lt (fun x hm => hx x (List.mem_of_mem_take hm)) t) _ hx8 hno, ih, pop_ad _ hbound k (by omega) (by rw [and_bit, full_bit]; simp)]
    · rw [if_neg ht, if_neg ht, ih, Nat.or_zero]
theorem els_len {k : Nat} : (els k).length = pop k := rfl
theorem els_8 {k x : Nat} (h : x ∈ els k) : x < 8 := by
  unfold els at h
  rw [List.mem_filter, List.mem_range] at h
  exact h.1
theorem els_pop {k t : Nat} (hk : k < 256) (ht : t < 2 ^ pop k) : pop (old (els k) t) = pop t := by
  have := old_pop (fun x h => els_8 h) (els_up k) (by rw [els_len]; exact pop_le k hk) t (els k).length (Nat.le_refl _)
  rw [List.take_length, els_len, mask_in ht] at this
  exact this
theorem old_sub {k : Nat} (hk : k < 256) (t : Nat) : subB (old (els k) t) k = true := subB_iff.2 fun j hj => by
  rw [old_bit] at hj
  obtain ⟨i, h1, _⟩ := hj
  exact (mem_els hk).1 (List.mem_of_getElem? h1)
theorem old_zero (xs : List Nat) : old xs 0 = 0 := Nat.eq_of_testBit_eq fun j => by
  rw [Nat.zero_testBit, Bool.eq_false_iff]
  intro h
  rw [old_bit] at h
  obtain ⟨i, _, h2⟩ := h
  simp at h2
theorem old_full {k : Nat} (hk : k < 256) : old (els k) (2 ^ pop k - 1) = k := Nat.eq_of_testBit_eq fun j => by
  rw [Bool.eq_iff_iff, old_bit, ← mem_els hk]
  constructor
  · rintro ⟨i, h1, _⟩
    exact List.mem_of_getElem? h1
  · intro h
    obtain ⟨i, h1⟩ := List.mem_iff_getElem?.1 h
    exact ⟨i, h1, by rw [full_bit]; have := (List.getElem?_eq_some_iff.1 h1).1; rw [els_len] at this; simp [this]⟩
theorem old_shf {k : Nat} (hk : k < 256) (s : Nat) : old (els k) (shf (els k) s) = k &&& s := Nat.eq_of_testBit_eq fun j => by
  rw [Bool.eq_iff_iff, old_bit, and_bit, Bool.and_eq_true, ← mem_els hk]
  constructor
  · rintro ⟨i, h1, h2⟩
    rw [shf_bit] at h2
    obtain ⟨x, h3, h4⟩ := h2
    rw [h1] at h3
    obtain rfl : j = x := by simpa using h3
    exact ⟨List.mem_of_getElem? h1, h4⟩
  · rintro ⟨h1, h2⟩
    obtain ⟨i, h3⟩ := List.mem_iff_getElem?.1 h1
    exact ⟨i, h3, shf_bit.2 ⟨j, h3, h2⟩⟩
theorem shf_lt {k : Nat} (s : Nat) : shf (els k) s < 2 ^ pop k := lt_of_bits fun i hi => by
  rw [shf_bit] at hi
  obtain ⟨x, h1, _⟩ := hi
  have := (List.getElem?_eq_some_iff.1 h1).1
  rwa [els_len] at this

/-- The ranks of what is left, over a base. -/
def minR (r : Nat → Nat) (k b t : Nat) : Nat := r (old (els k) t ||| b) - r b
theorem min_ge {r : Nat → Nat} (h : Rk r) (x b : Nat) : r b ≤ r (x ||| b) := h.mono _ _ (by rw [Nat.or_comm]; exact sub_or b x)
theorem min_rkOn {r : Nat → Nat} (h : Rk r) {k : Nat} (hk : k < 256) (b : Nat) : RkOn (pop k) (minR r k b) := by
  refine ⟨fun s hs => ?_, fun s t _ _ hst => ?_, fun s t hs ht => ?_⟩
  · unfold minR
    have h1 := h.sub (old (els k) s) b
    have h2 := h.le (old (els k) s)
    rw [els_pop hk hs] at h2
    omega
  · unfold minR
    have h1 := h.mono (old (els k) s ||| b) (old (els k) t ||| b) (subB_iff.2 fun i hi => by
      rw [Nat.testBit_or, Bool.or_eq_true] at hi ⊢
      exact hi.imp (subB_iff.1 (old_mono _ hst) i) id)
    omega
  · unfold minR
    have h1 := h.sub (old (els k) s ||| b) (old (els k) t ||| b)
    have e1 : old (els k) s ||| b ||| (old (els k) t ||| b) = old (els k) (s ||| t) ||| b := by
      rw [old_or]
      exact Nat.eq_of_testBit_eq fun j => by simp only [Nat.testBit_or]; cases (old (els k) s).testBit j <;> cases b.testBit j <;> simp
    have e2 : (old (els k) s ||| b) &&& (old (els k) t ||| b) = old (els k) (s &&& t) ||| b := by
      rw [old_and (els_up k)]
      exact Nat.eq_of_testBit_eq fun j => by simp only [Nat.testBit_or, Nat.testBit_and]; cases (old (els k) s).testBit j <;> cases b.testBit j <;> simp
    rw [e1, e2] at h1
    have g1 := min_ge h (old (els k) s) b
    have g2 := min_ge h (old (els k) t) b
    have g3 := min_ge h (old (els k) (s ||| t)) b
    have g4 := min_ge h (old (els k) (s &&& t)) b
    omega
/-- The greatest size of the sets below T that are of a kind. -/
def maxI (p : Nat → Bool) (T : Nat) : Nat := (List.range T).foldl (fun m s => if p s = true then max m (pop s) else m) 0
theorem maxI_succ (p : Nat → Bool) (T : Nat) : maxI p (T + 1) = if p T = true then max (maxI p T) (pop T) else maxI p T := by
  unfold maxI
  rw [List.range_succ, List.foldl_append]
  rfl
theorem maxI_ge {p : Nat → Bool} : ∀ {T s : Nat}, s < T → p s = true → pop s ≤ maxI p T
  | 0, _, h, _ => by omega
  | T + 1, s, h, hp => by
    rw [maxI_succ]
    rcases Nat.lt_or_ge s T with g | g
    · have := maxI_ge g hp
      split <;> omega
    · obtain rfl : s = T := by omega
      rw [if_pos hp]
      omega
theorem maxI_le {p : Nat → Bool} {k : Nat} : ∀ {T : Nat}, (∀ s, s < T → p s = true → pop s ≤ k) → maxI p T ≤ k
  | 0, _ => by unfold maxI; simp
  | T + 1, h => by
    rw [maxI_succ]
    have h1 := maxI_le (T := T) (p := p) (k := k) fun s hs => h s (by omega)
    split
    · rename_i hp
      have := h T (by omega) hp
      omega
    · exact h1
theorem maxI_rk {n : Nat} {r : Nat → Nat} (hn : n ≤ 8) (h : RkOn n r) : maxI (fun s => r s == pop s) (2 ^ n) = r (2 ^ n - 1) := by
  apply Nat.le_antisymm
  · refine maxI_le fun s hs hp => ?_
    rw [beq_iff_eq] at hp
    have := h.mono s _ hs (full_lt n) (full_sub hs)
    omega
  · obtain ⟨b, hb⟩ := List.exists_mem_of_ne_nil _ (h.bas hn).ne
    rw [mem_basR] at hb
    have := maxI_ge (p := fun s => r s == pop s) hb.1 (by rw [beq_iff_eq]; exact hb.2.1)
    omega
theorem ofInd_eq {n : Nat} {r : Nat → Nat} (hn : n ≤ 8) (h : RkOn n r) {p : Nat → Bool} (hp : ∀ s, s < 2 ^ n → p s = (r s == pop s)) : ((List.range (2 ^ n)).filter fun s => pop s == maxI p (2 ^ n) && p s) = basR n r := by
  have e : maxI p (2 ^ n) = r (2 ^ n - 1) := by
    rw [← maxI_rk hn h]
    have : ∀ T, T ≤ 2 ^ n → maxI p T = maxI (fun s => r s == pop s) T := fun T => by
      induction T with
      | zero => intro _; rfl
      | succ T ih => intro hT; rw [maxI_succ, maxI_succ, ih (by omega), hp T (by omega)]
    exact this _ (Nat.le_refl _)
  unfold basR
  refine List.filter_congr fun s hs => ?_
  rw [List.mem_range] at hs
  rw [e, hp s hs, Bool.eq_iff_iff, Bool.and_eq_true, Bool.and_eq_true, beq_iff_eq, beq_iff_eq, beq_iff_eq]
  omega

/-- What is left of a matroid without s, over a base. -/
def minL (n : Nat) (l : List Nat) (s b : Nat) : List Nat := basR (pop (dif (2 ^ n - 1) s)) (minR (rk l) (dif (2 ^ n - 1) s) b)
theorem kept_lt {n : Nat} (hn : n ≤ 8) (s : Nat) : dif (2 ^ n - 1) s < 256 := dif_lt (lt256 hn (full_lt n))
theorem kept_le {n : Nat} (hn : n ≤ 8) (s : Nat) : pop (dif (2 ^ n - 1) s) ≤ 8 := pop_le _ (kept_lt hn s)
theorem min_fam (n : Nat) (l : List Nat) (s b : Nat) : Fam (pop (dif (2 ^ n - 1) s)) (minL n l s b) := basR_fam _ _
theorem min_bas {n : Nat} {l : List Nat} (hn : n ≤ 8) (hb : Bas l) (s b : Nat) : Bas (minL n l s b) := (min_rkOn hb.rk (kept_lt hn s) b).bas (kept_le hn s)
theorem min_rk {n : Nat} {l : List Nat} (hn : n ≤ 8) (hb : Bas l) (s b : Nat) {t : Nat} (ht : t < 2 ^ pop (dif (2 ^ n - 1) s)) : rk (minL n l s b) t = minR (rk l) (dif (2 ^ n - 1) s) b t := (min_rkOn hb.rk (kept_lt hn s) b).rk_eq (kept_le hn s) ht
theorem dif_cpl {n s : Nat} (hs : s < 2 ^ n) : dif (2 ^ n - 1) s = 2 ^ n - 1 - s := Nat.eq_of_testBit_eq fun j => by rw [dif_bit, full_bit, cpl_bit hs]
theorem kept_ltn (n s : Nat) : dif (2 ^ n - 1) s < 2 ^ n := sub_lt (subB_iff.2 fun i hi => by rw [dif_bit] at hi; simp only [Bool.and_eq_true] at hi; exact hi.1) (full_lt n)
theorem old_ltn {n : Nat} (hn : n ≤ 8) (s t : Nat) : old (els (dif (2 ^ n - 1) s)) t < 2 ^ n := sub_lt (old_sub (kept_lt hn s) t) (kept_ltn n s)

theorem old_cpl {k t : Nat} (hk : k < 256) (ht : t < 2 ^ pop k) : old (els k) (2 ^ pop k - 1 - t) = dif k (old (els k) t) := Nat.eq_of_testBit_eq fun j => by
  rw [Bool.eq_iff_iff, dif_bit, Bool.and_eq_true, Bool.not_eq_true', old_bit]
  constructor
  · rintro ⟨i, h1, h2⟩
    rw [cpl_bit ht] at h2
    simp only [Bool.and_eq_true, decide_eq_true_eq, Bool.not_eq_true'] at h2
    refine ⟨(mem_els hk).1 (List.mem_of_getElem? h1), ?_⟩
    rw [Bool.eq_false_iff]
    intro h3
    rw [old_bit] at h3
    obtain ⟨i', h4, h5⟩ := h3
    have := up_inj (els_up k) h1 h4
    subst this
    rw [h2.2] at h5
    cases h5
  · rintro ⟨h1, h2⟩
    obtain ⟨i, h3⟩ := List.mem_iff_getElem?.1 ((mem_els hk).2 h1)
    refine ⟨i, h3, ?_⟩
    rw [cpl_bit ht]
    have := (List.getElem?_eq_some_iff.1 h3).1
    rw [els_len] at this
    have h4 : t.testBit i = false := by
      rw [Bool.eq_false_iff]
      intro h
      rw [Bool.eq_false_iff] at h2
      exact h2 (old_bit.2 ⟨i, h3, h⟩)
    simp [this, h4]
/-- What is deleted of the dual is contracted of it. -/
theorem dual_min {n : Nat} {l : List Nat} (hn : n ≤ 8) (hf : Fam n l) (hb : Bas l) {s : Nat} (hs : s < 2 ^ n) : minL n (cmp n l) s 0 = cmp (pop (dif (2 ^ n - 1) s)) (minL n l s s) := by
  have hk := kept_lt hn s
  have h8 := kept_le hn s
  refine bas_ext h8 (min_fam _ _ _ _) (min_bas hn (dual_bas hn hf hb) s 0) (cmp_fam (min_fam _ _ _ _)) (dual_bas h8 (min_fam _ _ _ _) (min_bas hn hb s s)) fun t ht => ?_
  rw [min_rk hn (dual_bas hn hf hb) s 0 ht, dual_rk h8 (min_fam _ _ _ _) (min_bas hn hb s s) ht]
  have hX := old_ltn hn s t
  have hXp := els_pop hk ht
  unfold minR
  rw [Nat.or_zero, dual_rk hn hf hb hX, dual_rk hn hf hb (Nat.two_pow_pos n)]
  have d0 := dual_add (hb.rkOn n) (Nat.two_pow_pos n)
  have d1 := dual_add (hb.rkOn n) hX
  have d2 := dual_add ((min_bas hn hb s s).rkOn (pop (dif (2 ^ n - 1) s))) ht
  rw [min_rk hn hb s s (full_lt _), min_rk hn hb s s cpl_lt] at d2
  unfold minR at d2
  rw [old_full hk, old_cpl hk ht] at d2
  have e1 : dif (2 ^ n - 1) s ||| s = 2 ^ n - 1 := Nat.eq_of_testBit_eq fun j => by
    rw [Nat.testBit_or, dif_bit, full_bit]
    have := bit_n hs (i := j)
    cases e : s.testBit j <;> simp_all
  have e2 : dif (dif (2 ^ n - 1) s) (old (els (dif (2 ^ n - 1) s)) t) ||| s = 2 ^ n - 1 - old (els (dif (2 ^ n - 1) s)) t := Nat.eq_of_testBit_eq fun j => by
    rw [Nat.testBit_or, dif_bit, dif_bit, full_bit, cpl_bit hX]
    have h1 := bit_n hs (i := j)
    have h2 := subB_iff.1 (old_sub hk t) j
    rw [dif_bit, full_bit] at h2
    cases e : s.testBit j <;> cases e2 : (old (els (dif (2 ^ n - 1) s)) t).testBit j <;> simp_all
  rw [e1, e2] at d2
  have g1 := hb.rk.mono s _ (full_sub hs)
  have g2 := min_ge hb.rk (dif (dif (2 ^ n - 1) s) (old (els (dif (2 ^ n - 1) s)) t)) s
  rw [e2] at g2
  have p0 : pop 0 = 0 := by decide
  have e3 : 2 ^ n - 1 - 0 = 2 ^ n - 1 := by omega
  rw [e3] at d0
  omega
/-- The dual's circuits are what hyperplanes leave. -/
theorem dual_cir {n : Nat} {l : List Nat} (hn : n ≤ 8) (hf : Fam n l) (hb : Bas l) : cirL n (cmp n l) = cmp n ((List.range (2 ^ n)).filter (hypB (rk l) n)) := by
  have hH : Fam n ((List.range (2 ^ n)).filter (hypB (rk l) n)) := Fam.range n _
  refine sorted_ext (Fam.range n _).up (cmp_fam hH).up fun s => ?_
  rw [mem_cir, mem_cmp hH.lt]
  refine and_congr_right fun hs => ?_
  have hc := cpl_lt (n := n) (s := s)
  rw [List.mem_filter, List.mem_range, cir_iff (lt256 hn hs)]
  have key : ∀ u, u < 2 ^ n → (rk (cmp n l) u = pop u ↔ rk l (2 ^ n - 1 - u) = rk l (2 ^ n - 1)) := fun u hu => by
    rw [dual_rk hn hf hb hu]
    have := dual_add (hb.rkOn n) hu
    omega
  have top : ∀ u, u < 2 ^ n → rk l u ≤ rk l (2 ^ n - 1) := fun u hu => hb.rk.mono _ _ (full_sub hu)
  constructor
  · rintro ⟨h1, h2⟩
    refine ⟨hc, ?_⟩
    rw [Ne, key s hs] at h2
    have hne : s ≠ 0 := fun e => by
      subst e
      exact h2 (by rw [Nat.sub_zero])
    obtain ⟨i, hi⟩ := exists_bit hne
    have h3 := h1 i hi
    rw [key _ (sub_lt (rm_sub s i) hs), cpl_rm hs hi] at h3
    have h4 := hb.rk.step (2 ^ n - 1 - s) i
    have h5 := top _ hc
    unfold hypB
    rw [Bool.and_eq_true, beq_iff_eq, flat_iff hn hc]
    refine ⟨fun j hj hsj => ?_, by omega⟩
    rw [cpl_bit hs] at hsj
    simp only [Bool.and_eq_false_iff, decide_eq_false_iff_not, Bool.not_eq_false'] at hsj
    have hsj' : s.testBit j = true := by rcases hsj with h | h; exact absurd hj h; exact h
    have h6 := h1 j hsj'
    rw [key _ (sub_lt (rm_sub s j) hs), cpl_rm hs hsj'] at h6
    omega
  · rintro ⟨_, h⟩
    unfold hypB at h
    rw [Bool.and_eq_true, beq_iff_eq, flat_iff hn hc] at h
    refine ⟨fun i hi => ?_, by rw [Ne, key s hs]; omega⟩
    rw [key _ (sub_lt (rm_sub s i) hs), cpl_rm hs hi]
    have hin := bit_n hs hi
    have h1 := h.1 i hin (by rw [cpl_bit hs, hi]; simp)
    have h2 := hb.rk.mono _ _ (sub_or (2 ^ n - 1 - s) (2 ^ i))
    have h3 := top _ (ad_lt hc hin)
    omega
end Go.Proofs.Ytdmppnnnegomgab
