/- Plain mathematics: the document's answers of chapter 2 by other roads are the program's. -/
import Derived.Test.YtkebhhpfnalbfaaDoorPlainMat2
import Derived.Test.YtkebhhpfnalbfaaDoorPlainPicks
namespace Go.Proofs.YtkebhhpfnalbfaaDoor

/-- Ranks that grow slower and slower, one step at a time. -/
theorem loc_adds {r : Nat → Nat} (mono : ∀ s t, subB s t = true → r s ≤ r t) {n : Nat} (loc : ∀ s i k, s < 2 ^ n → i < n → k < n → r (s ||| 2 ^ i ||| 2 ^ k) + r s ≤ r (s ||| 2 ^ i) + r (s ||| 2 ^ k)) {s : Nat} (hs : s < 2 ^ n) :
    ∀ t : Nat, t < 2 ^ n → n ≤ 8 → (∀ i, t.testBit i = true → r (s ||| 2 ^ i) = r s) → r (s ||| t) = r s ∧ ∀ j, j < n → r (s ||| 2 ^ j) = r s → r (s ||| t ||| 2 ^ j) = r s := by
  intro t
  induction t using Nat.strongRecOn with
  | ind t ih =>
    intro ht hn hb
    by_cases h0 : t = 0
    · subst h0
      rw [Nat.or_zero]
      exact ⟨rfl, fun j _ h => h⟩
    · obtain ⟨i, hi⟩ := exists_bit h0
      have hlt := rm_lt (lt256 hn ht) hi
      obtain ⟨e1, e2⟩ := ih (rm t i) hlt (by omega) hn fun j hj => hb j (by rw [rm_bit] at hj; simp at hj; exact hj.1)
      have hin := bit_n ht hi
      have e3 : s ||| rm t i ||| 2 ^ i = s ||| t := by rw [Nat.or_assoc, ad_rm hi]
      have e4 := e2 i hin (hb i hi)
      rw [e3] at e4
      refine ⟨e4, fun j hj hr => ?_⟩
      have h1 := loc (s ||| rm t i) i j (Nat.or_lt_two_pow hs (by omega)) hin hj
      rw [e3, e1, e4, e2 j hj hr] at h1
      have h2 := mono s (s ||| t ||| 2 ^ j) (sub_trans (sub_or _ _) (sub_or _ _))
      omega
theorem rk_mono {bs : List Nat} (hne : bs ≠ []) (s t : Nat) (hst : subB s t = true) : rk bs s ≤ rk bs t := by
  obtain ⟨b, hb, e⟩ := rk_at hne s
  rw [← e]
  exact Nat.le_trans (pop_sub (subB_iff.2 fun i hi => by rw [and_bit] at hi ⊢; simp at hi ⊢; exact ⟨subB_iff.1 hst i hi.1, hi.2⟩)) (rk_ge t hb)
theorem sub_and {s b : Nat} (h : subB s b = true) : s &&& b = s := by unfold subB at h; rwa [beq_iff_eq] at h
theorem ind_iff {bs : List Nat} (hne : bs ≠ []) {s : Nat} (hs : s < 256) : rk bs s = pop s ↔ ∃ b ∈ bs, subB s b = true := by
  constructor
  · intro h
    obtain ⟨b, hb, e⟩ := rk_at hne s
    refine ⟨b, hb, ?_⟩
    have h1 : subB (s &&& b) s = true := subB_iff.2 fun i hi => by rw [and_bit] at hi; simp at hi; exact hi.1
    have h2 := eq_of_pop hs h1 (by omega)
    unfold subB
    rw [h2]
    simp
  · rintro ⟨b, hb, h⟩
    have h1 := rk_ge s hb
    rw [sub_and h] at h1
    obtain ⟨c, hc, e⟩ := rk_at hne s
    have h2 : pop (s &&& c) ≤ pop s := pop_sub (subB_iff.2 fun i hi => by rw [and_bit] at hi; simp at hi; exact hi.1)
    omega
theorem loc_bas {n : Nat} {bs : List Nat} (hn : n ≤ 8) (hf : Fam n bs) (hne : bs ≠ []) (hone : ∀ a ∈ bs, ∀ b ∈ bs, pop a = pop b)
    (loc : ∀ s i k, s < 2 ^ n → i < n → k < n → rk bs (s ||| 2 ^ i ||| 2 ^ k) + rk bs s ≤ rk bs (s ||| 2 ^ i) + rk bs (s ||| 2 ^ k)) : Bas bs := by
  have lt := hf.lt256 hn
  refine ⟨lt, hone, fun a ha b hb x hx hbx => ?_, hne⟩
  apply Classical.byContradiction
  intro hno
  have hno' : ∀ y, b.testBit y = true → a.testBit y = false → rm a x ||| 2 ^ y ∉ bs := fun y h1 h2 h3 => hno ⟨y, h1, h2, h3⟩
  have la := lt a ha
  have hrm := rm_lt la hx
  have hra : rk bs (rm a x) = pop (rm a x) := (ind_iff hne (by omega)).2 ⟨a, ha, rm_sub a x⟩
  have pa := pop_rm' la hx
  have hlt : rm a x < 2 ^ n := Nat.lt_trans hrm (hf.lt a ha)
  have hd : dif b a < 2 ^ n := sub_lt (c := b) (subB_iff.2 fun i hi => by rw [dif_bit] at hi; simp at hi; exact hi.1) (hf.lt b hb)
  obtain ⟨h1, _⟩ := loc_adds (rk_mono hne) loc hlt (dif b a) hd hn fun i hi => by
    rw [dif_bit] at hi
    simp only [Bool.and_eq_true, Bool.not_eq_true'] at hi
    have h8 := bit8 (lt b hb) hi.1
    have p2 := pop_ad (rm a x) (by omega) i h8 (by rw [rm_bit, hi.2]; rfl)
    have m1 := rk_mono hne _ _ (sub_or (rm a x) (2 ^ i))
    have l1 : rm a x ||| 2 ^ i < 256 := or_lt (by omega) (pow_lt256 h8)
    obtain ⟨c, hc, e⟩ := rk_at hne (rm a x ||| 2 ^ i)
    have l2 : subB ((rm a x ||| 2 ^ i) &&& c) (rm a x ||| 2 ^ i) = true := subB_iff.2 fun j hj => by rw [and_bit] at hj; exact (Bool.and_eq_true_iff.1 hj).1
    have l3 := pop_sub l2
    rcases Nat.lt_or_ge (rk bs (rm a x ||| 2 ^ i)) (pop (rm a x ||| 2 ^ i)) with g | g
    · omega
    · have e5 : (rm a x ||| 2 ^ i) &&& c = rm a x ||| 2 ^ i := eq_of_pop l1 l2 (by omega)
      have e6 : subB (rm a x ||| 2 ^ i) c = true := by unfold subB; rw [e5]; simp
      have e7 := eq_of_pop (lt c hc) e6 (by have := hone a ha c hc; omega)
      exact absurd (e7 ▸ hc) (hno' i hi.1 hi.2)
  have hb2 : subB b (rm a x ||| dif b a) = true := subB_iff.2 fun i hi => by
    rw [Nat.testBit_or, rm_bit, dif_bit, hi]
    by_cases e : x = i
    · subst e; rw [hbx] at hi; cases hi
    · cases a.testBit i <;> simp [e]
  have h2 := rk_ge (rm a x ||| dif b a) hb
  have h3 : (rm a x ||| dif b a) &&& b = b := by rw [Nat.and_comm]; exact sub_and hb2
  rw [h3] at h2
  have := hone a ha b hb
  omega

/-- The document's check: no two elements' ranks grow faster. -/
def locB (n : Nat) (r : Nat → Nat) : Bool := (List.range (2 ^ n)).all fun s => (List.range n).all fun i => (List.range n).all fun k => !decide (r (s ||| 2 ^ i) + r (s ||| 2 ^ k) < r ((s ||| 2 ^ i) ||| (s ||| 2 ^ k)) + r ((s ||| 2 ^ i) &&& (s ||| 2 ^ k)))
theorem or_or (s i k : Nat) : (s ||| 2 ^ i) ||| (s ||| 2 ^ k) = s ||| 2 ^ i ||| 2 ^ k := Nat.eq_of_testBit_eq fun j => by
  simp only [Nat.testBit_or]; cases s.testBit j <;> simp
theorem loc_iff {n : Nat} {bs : List Nat} (hn : n ≤ 8) (hf : Fam n bs) (hne : bs ≠ []) (hone : ∀ a ∈ bs, ∀ b ∈ bs, pop a = pop b) : locB n (rk bs) = true ↔ Bas bs := by
  unfold locB
  simp only [List.all_eq_true, List.mem_range, Bool.not_eq_true', decide_eq_false_iff_not, Nat.not_lt]
  constructor
  · intro h
    refine loc_bas hn hf hne hone fun s i k hs hi hk => ?_
    have h1 := h s hs i hi k hk
    rw [or_or] at h1
    have h2 := rk_mono hne s ((s ||| 2 ^ i) &&& (s ||| 2 ^ k)) (subB_iff.2 fun j hj => by rw [and_bit, or_bit, or_bit, hj]; rfl)
    omega
  · intro h s _ i _ k _
    have := rk_sub h (s ||| 2 ^ i) (s ||| 2 ^ k)
    omega

variable {n : Nat} {l : List Nat}
/-- Independent: within a basis. -/
def freeK (l : List Nat) (s : Nat) : Bool := l.any fun b => subB s b
theorem free_iff (hb : Bas l) {s : Nat} (hs : s < 256) : freeK l s = (rk l s == pop s) := by
  rw [Bool.eq_iff_iff, beq_iff_eq, ind_iff hb.ne hs]
  unfold freeK
  simp only [List.any_eq_true]
def freeL (n : Nat) (l : List Nat) : List Nat := (List.range (2 ^ n)).filter (freeK l)
theorem free_eq (hn : n ≤ 8) (hb : Bas l) : freeL n l = (List.range (2 ^ n)).filter fun s => rk l s == pop s :=
  List.filter_congr fun s hs => free_iff hb (lt256 hn (by simpa using hs))
def depL (n : Nat) (l : List Nat) : List Nat := (List.range (2 ^ n)).filter fun s => !memB s (freeL n l)
theorem mem_dep (hn : n ≤ 8) (hb : Bas l) {s : Nat} : s ∈ depL n l ↔ s < 2 ^ n ∧ rk l s ≠ pop s := by
  unfold depL
  rw [free_eq hn hb]
  simp only [List.mem_filter, List.mem_range, memB, Bool.not_eq_true', decide_eq_false_iff_not, beq_iff_eq]
  constructor
  · rintro ⟨h1, h2⟩
    exact ⟨h1, fun h => h2 ⟨h1, h⟩⟩
  · rintro ⟨h1, h2⟩
    exact ⟨h1, fun h => h2 h.2⟩
theorem ind_sub (hb : Bas l) {s t : Nat} (ht : t < 256) (h : subB s t = true) (hs : s < 256) (hi : rk l t = pop t) : rk l s = pop s := by
  obtain ⟨b, hb1, hb2⟩ := (ind_iff hb.ne ht).1 hi
  exact (ind_iff hb.ne hs).2 ⟨b, hb1, sub_trans h hb2⟩
theorem cir_eq (hn : n ≤ 8) (hb : Bas l) : (List.range (2 ^ n)).filter (leastK (depL n l)) = (List.range (2 ^ n)).filter (cirB (rk l)) := by
  refine List.filter_congr fun s hs => ?_
  have hs' : s < 2 ^ n := by simpa using hs
  have h8 := lt256 hn hs'
  rw [Bool.eq_iff_iff, cir_iff h8]
  unfold leastK
  simp only [Bool.and_eq_true, memB, decide_eq_true_eq, mem_dep hn hb, Bool.not_eq_true', ← Bool.not_eq_true, List.any_eq_true, otherIn, bne_iff_ne, not_exists, not_and]
  constructor
  · rintro ⟨⟨_, h1⟩, h2⟩
    refine ⟨fun i hi => Classical.byContradiction fun hd => ?_, h1⟩
    have hlt := rm_lt h8 hi
    exact h2 (rm s i) ⟨by omega, hd⟩ (by omega) (rm_sub s i)
  · rintro ⟨h1, h2⟩
    refine ⟨⟨hs', h2⟩, fun t ht hne hsub => ?_⟩
    obtain ⟨i, hi, hti⟩ := sub_ne hsub hne
    have hlt := rm_lt h8 hi
    exact ht.2 (ind_sub hb (by omega) (sub_rm hsub hti) (lt256 hn ht.1) (h1 i hi))
theorem pop_one {s : Nat} (hs : s < 256) (h : pop s = 1) : ∃ j, s.testBit j = true ∧ s = 2 ^ j := by
  obtain ⟨j, hj⟩ := exists_bit (fun e => by subst e; revert h; decide : s ≠ 0)
  refine ⟨j, hj, ?_⟩
  have h1 := pop_rm' hs hj
  have h2 := (pop_pos (rm s j) (Nat.lt_trans (rm_lt hs hj) hs)).1 (by omega)
  have h3 := ad_rm hj
  rw [h2, Nat.zero_or] at h3
  exact h3.symm
/-- Circuits as the program tells them. -/
def cirL (n : Nat) (l : List Nat) : List Nat := (List.range (2 ^ n)).filter (cirB (rk l))
theorem mem_cir {s : Nat} : s ∈ cirL n l ↔ s < 2 ^ n ∧ cirB (rk l) s = true := by unfold cirL; simp
theorem cl_cir (hn : n ≤ 8) (hb : Bas l) {s j : Nat} (hs : s < 2 ^ n) (hj : j < n) (hsj : s.testBit j = false) :
    rk l (s ||| 2 ^ j) = rk l s ↔ ∃ c ∈ cirL n l, c.testBit j = true ∧ subB c (s ||| 2 ^ j) = true := by
  constructor
  · intro h
    obtain ⟨c, h1, h2, h3⟩ := hb.rk.cir_of (by omega) s (lt256 hn hs) hsj h
    exact ⟨c, mem_cir.2 ⟨sub_lt h1 (ad_lt hs hj), h3⟩, h2, h1⟩
  · rintro ⟨c, hc, h2, h1⟩
    obtain ⟨h3, h4⟩ := mem_cir.1 hc
    refine hb.rk.add (s := rm c j) (subB_iff.2 fun i hi => ?_) (hb.rk.cir_in (lt256 hn h3) h4 h2)
    rw [rm_bit] at hi
    simp only [Bool.and_eq_true, decide_eq_true_eq] at hi
    have := subB_iff.1 h1 i hi.1
    rw [or_bit] at this
    simpa [hi.2] using this
def flatK (c : List Nat) (s : Nat) : Bool := c.all fun x => !(pop (dif x s) == 1)
theorem flat_eq (hn : n ≤ 8) (hb : Bas l) : (List.range (2 ^ n)).filter (flatK (cirL n l)) = (List.range (2 ^ n)).filter (flatB (rk l) n) := by
  refine List.filter_congr fun s hs => ?_
  have hs' : s < 2 ^ n := by simpa using hs
  rw [Bool.eq_iff_iff, flat_iff hn hs']
  unfold flatK
  simp only [List.all_eq_true, Bool.not_eq_true', beq_eq_false_iff_ne]
  constructor
  · intro h j hj hsj he
    obtain ⟨c, hc, h2, h1⟩ := (cl_cir hn hb hs' hj hsj).1 he
    refine h c hc ?_
    have : dif c s = 2 ^ j := Nat.eq_of_testBit_eq fun i => by
      rw [dif_bit, Nat.testBit_two_pow]
      by_cases e : j = i
      · subst e; simp [h2, hsj]
      · have := subB_iff.1 h1 i
        rw [or_bit] at this
        simp [e] at this ⊢
        exact this
    rw [this]
    have : ∀ j : Nat, j < 8 → pop (2 ^ j) = 1 := by decide
    exact this j (by omega)
  · intro h c hc h1
    obtain ⟨h3, h4⟩ := mem_cir.1 hc
    obtain ⟨j, hj, e⟩ := pop_one (dif_lt (lt256 hn h3)) h1
    have hj' := hj
    rw [dif_bit] at hj'
    simp only [Bool.and_eq_true, Bool.not_eq_true'] at hj'
    have hjn := bit_n h3 hj'.1
    refine h j hjn hj'.2 ((cl_cir hn hb hs' hjn hj'.2).2 ⟨c, hc, hj'.1, subB_iff.2 fun i hi => ?_⟩)
    rw [or_bit]
    have h5 := congrArg (fun x => x.testBit i) e
    simp only [dif_bit, Nat.testBit_two_pow, hi, Bool.true_and] at h5
    cases hsi : s.testBit i
    · rw [hsi] at h5
      simpa using h5.symm
    · rfl
/-- A set and what circuits add to it. -/
def addK (c : List Nat) (s i : Nat) : Bool := c.any fun x => x.testBit i && subB x (s ||| 2 ^ i)
theorem add_iff (hn : n ≤ 8) (hb : Bas l) {s j : Nat} (hs : s < 2 ^ n) (hj : j < n) : (s.testBit j || addK (cirL n l) s j) = decide (rk l (s ||| 2 ^ j) = rk l s) := by
  cases hsj : s.testBit j
  · rw [Bool.false_or, Bool.eq_iff_iff, decide_eq_true_iff, cl_cir hn hb hs hj hsj]
    unfold addK
    simp only [List.any_eq_true, Bool.and_eq_true]
  · rw [ad_in hsj]; simp
/-- The greatest of those that have no basis within. -/
def spanK (l : List Nat) (s : Nat) : Bool := l.all fun b => !subB b s
theorem span_iff (hb : Bas l) {s k : Nat} (hk : ∀ b ∈ l, pop b = k) : spanK l s = true ↔ rk l s < k := by
  unfold spanK
  simp only [List.all_eq_true, Bool.not_eq_true']
  constructor
  · intro h
    obtain ⟨b, hb1, e⟩ := rk_at hb.ne s
    have h1 : subB (s &&& b) b = true := subB_iff.2 fun i hi => by rw [and_bit] at hi; simp at hi; exact hi.2
    have h2 := pop_sub h1
    rw [hk b hb1, e] at h2
    rcases Nat.lt_or_ge (rk l s) k with g | g
    · exact g
    · have h3 := eq_of_pop (hb.lt b hb1) h1 (by rw [hk b hb1, e]; exact g)
      have h4 : subB b s = true := subB_iff.2 fun i hi => by
        rw [← h3, and_bit] at hi
        simp at hi
        exact hi.1
      rw [h b hb1] at h4
      cases h4
  · intro h b hb1
    rw [Bool.eq_false_iff]
    intro h1
    have h2 := rk_ge s hb1
    have h3 : s &&& b = b := by rw [Nat.and_comm]; exact sub_and h1
    rw [h3, hk b hb1] at h2
    omega
theorem hyp_eq (hn : n ≤ 8) (hf : Fam n l) (hb : Bas l) : (List.range (2 ^ n)).filter (mostK ((List.range (2 ^ n)).filter (spanK l))) = (List.range (2 ^ n)).filter (hypB (rk l) n) := by
  refine List.filter_congr fun s hs => ?_
  have hs' : s < 2 ^ n := by simpa using hs
  obtain ⟨b0, hb0⟩ := List.exists_mem_of_ne_nil l hb.ne
  have hk : ∀ b ∈ l, pop b = pop b0 := fun b h => hb.size b h b0 hb0
  have RK := hb.rk
  have top : rk l (2 ^ n - 1) = pop b0 := by
    have h1 := rk_ge (2 ^ n - 1) hb0
    have h2 : (2 ^ n - 1) &&& b0 = b0 := Nat.eq_of_testBit_eq fun i => by
      rw [and_bit, full_bit]
      cases e : b0.testBit i
      · simp
      · simp [bit_n (hf.lt b0 hb0) e]
    rw [h2] at h1
    obtain ⟨b, hb1, e⟩ := rk_at hb.ne (2 ^ n - 1)
    have h3 : subB ((2 ^ n - 1) &&& b) b = true := subB_iff.2 fun i hi => by rw [and_bit] at hi; simp at hi; exact hi.2
    have h4 := pop_sub h3
    rw [hk b hb1] at h4
    omega
  rw [Bool.eq_iff_iff]
  unfold mostK hypB
  simp only [Bool.and_eq_true, memB, decide_eq_true_eq, List.mem_filter, List.mem_range, span_iff hb hk, Bool.not_eq_true', ← Bool.not_eq_true, List.any_eq_true, otherOut, bne_iff_ne, not_exists, not_and, flat_iff hn hs', beq_iff_eq, top]
  constructor
  · rintro ⟨⟨_, h1⟩, h2⟩
    have up : ∀ j, j < n → s.testBit j = false → rk l (s ||| 2 ^ j) = pop b0 := fun j hj hsj => by
      have h3 : ¬ rk l (s ||| 2 ^ j) < pop b0 := fun h => h2 (s ||| 2 ^ j) ⟨ad_lt hs' hj, h⟩ (fun e => by
        have := congrArg (fun x => x.testBit j) e
        simp only [or_bit, hsj] at this
        simp at this) (sub_or _ _)
      have h4 := RK.mono (s ||| 2 ^ j) (2 ^ n - 1) (subB_iff.2 fun i hi => by rw [full_bit]; simpa using bit_n (ad_lt hs' hj) hi)
      omega
    refine ⟨fun j hj hsj he => by have := up j hj (by simpa using hsj); omega, ?_⟩
    obtain ⟨j, hj1, hj2⟩ : ∃ j, j < n ∧ s.testBit j = false := Classical.byContradiction fun hno => by
      have : s = 2 ^ n - 1 := Nat.eq_of_testBit_eq fun i => by
        rw [full_bit]
        by_cases hi : i < n
        · cases e : s.testBit i
          · exact absurd ⟨i, hi, e⟩ hno
          · simp [hi]
        · cases e : s.testBit i
          · simp [hi]
          · exact absurd (bit_n hs' e) hi
      rw [this, top] at h1
      omega
    have h5 := up j hj1 hj2
    have h6 := RK.step s j
    omega
  · rintro ⟨h1, h2⟩
    refine ⟨⟨hs', by omega⟩, fun t ht hne hsub => ?_⟩
    obtain ⟨j, hj1, hj2⟩ := sub_ne hsub (fun e => hne e.symm)
    have h3 := h1 j (bit_n ht.1 hj1) (by simp [hj2])
    have h4 := RK.mono s (s ||| 2 ^ j) (sub_or _ _)
    have h5 := RK.mono (s ||| 2 ^ j) t (subB_iff.2 fun i hi => by
      rw [or_bit] at hi
      simp only [Bool.or_eq_true, decide_eq_true_eq] at hi
      rcases hi with hi | rfl
      · exact subB_iff.1 hsub i hi
      · exact hj1)
    omega
end Go.Proofs.YtkebhhpfnalbfaaDoor
