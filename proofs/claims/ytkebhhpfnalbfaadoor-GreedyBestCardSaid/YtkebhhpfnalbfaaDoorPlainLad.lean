/- Plain mathematics: ladders from one basis to another; the one circuit in a basis and an element more. -/
import Derived.Test.YtkebhhpfnalbfaaDoorPlainIsect
namespace Go.Proofs.YtkebhhpfnalbfaaDoor

/-- The least element of a that b has not goes away. -/
def downR (_l : List Nat) (a b : Nat) : Nat := rm a (tz (dif a b))
/-- The next rung: with the first of those that are missing with which it is a basis. -/
def nextR (l : List Nat) (a b : Nat) : Nat := match (els (dif b a)).find? fun y => memB (downR l a b ||| 2 ^ y) l with
  | some y => downR l a b ||| 2 ^ y
  | none => a
/-- The rungs. -/
def lad (l : List Nat) : Nat → Nat → Nat → List Nat
  | 0, a, _ => [a]
  | k + 1, a, b => a :: lad l k (nextR l a b) b
def ladder (l : List Nat) (a b : Nat) : List Nat := lad l (pop (dif a b)) a b
theorem tz_bit : ∀ s : Nat, s < 256 → 0 < s → s.testBit (tz s) = true := by decide +kernel
theorem dif_zero {a b : Nat} (ha : a < 256) (h : pop (dif a b) = 0) : subB a b = true := subB_iff.2 fun i hi => by
  have h1 := (pop_pos (dif a b) (dif_lt ha)).1 h
  have h2 := congrArg (·.testBit i) h1
  simp only [dif_bit, Nat.zero_testBit] at h2
  cases e : b.testBit i <;> simp_all
theorem dif_pos {a b : Nat} (ha : a < 256) (hb : b < 256) (hp : pop a = pop b) (h : a ≠ b) : 0 < dif a b := by
  apply Nat.pos_of_ne_zero
  intro h0
  have : pop (dif a b) = 0 := by rw [h0]; decide
  exact h (eq_of_pop hb (dif_zero ha this) (by omega))
/-- What the next rung is. -/
theorem next_is {l : List Nat} (hb : Bas l) {a b : Nat} (ha : a ∈ l) (hbb : b ∈ l) (h : a ≠ b) : ∃ y, (els (dif b a)).find? (fun y => memB (downR l a b ||| 2 ^ y) l) = some y ∧ y ∈ els (dif b a) ∧ nextR l a b = downR l a b ||| 2 ^ y ∧ nextR l a b ∈ l ∧ b.testBit y = true ∧ a.testBit y = false := by
  have a8 := hb.lt a ha
  have b8 := hb.lt b hbb
  have hd := dif_pos a8 b8 (hb.size a ha b hbb) h
  have h1 := tz_bit _ (dif_lt (b := b) a8) hd
  rw [dif_bit] at h1
  simp at h1
  obtain ⟨y, hy1, hy2, hy3⟩ := hb.exch a ha b hbb _ h1.1 h1.2
  have hm : y ∈ els (dif b a) := (mem_els (dif_lt b8)).2 (by rw [dif_bit, hy1, hy2]; rfl)
  cases hf : (els (dif b a)).find? (fun y => memB (downR l a b ||| 2 ^ y) l) with
  | none =>
    rw [List.find?_eq_none] at hf
    exact absurd (by unfold memB downR; simpa using hy3) (hf y hm)
  | some z =>
    have hz1 := List.find?_some hf
    have hz2 := List.mem_of_find?_eq_some hf
    have hz3 := (mem_els (dif_lt b8)).1 hz2
    rw [dif_bit] at hz3
    simp at hz3
    have e : nextR l a b = downR l a b ||| 2 ^ z := by unfold nextR; rw [hf]
    refine ⟨z, rfl, hz2, e, ?_, hz3⟩
    rw [e]
    unfold memB at hz1
    simpa using hz1
theorem next_dif {l : List Nat} (hb : Bas l) {a b : Nat} (ha : a ∈ l) (hbb : b ∈ l) (h : a ≠ b) : pop (dif a b) = pop (dif (nextR l a b) b) + 1 ∧ pop (dif (nextR l a b) a) = 1 := by
  obtain ⟨y, _, _, e, h1, h2, h3⟩ := next_is hb ha hbb h
  have a8 := hb.lt a ha
  have b8 := hb.lt b hbb
  have hd := dif_pos a8 b8 (hb.size a ha b hbb) h
  have ht := tz_bit _ (dif_lt (b := b) a8) hd
  have y8 := bit8 b8 h2
  rw [e]
  constructor
  · have e1 : dif (downR l a b ||| 2 ^ y) b = rm (dif a b) (tz (dif a b)) := dif_swap_l h2
    rw [e1]
    exact pop_rm' (dif_lt a8) ht
  · have e1 : dif (downR l a b ||| 2 ^ y) a = 2 ^ y := Nat.eq_of_testBit_eq fun j => by
      unfold downR
      rw [dif_bit, or_bit, rm_bit, Nat.testBit_two_pow]
      by_cases ej : y = j
      · subst ej; simp [h3]
      · cases e : a.testBit j <;> simp [ej]
    rw [e1]
    have : ∀ y, y < 8 → pop (2 ^ y) = 1 := by decide
    exact this y y8
theorem lad_len {l : List Nat} : ∀ (k a b : Nat), (lad l k a b).length = k + 1
  | 0, _, _ => rfl
  | k + 1, a, b => by unfold lad; rw [List.length_cons, lad_len k]
theorem ladder_step {l : List Nat} (hb : Bas l) {a b : Nat} (ha : a ∈ l) (hbb : b ∈ l) (h : a ≠ b) : ladder l a b = a :: ladder l (nextR l a b) b := by
  unfold ladder
  rw [(next_dif hb ha hbb h).1]
  rfl
theorem ladder_end {l : List Nat} (a : Nat) : ladder l a a = [a] := by
  unfold ladder
  have : dif a a = 0 := Nat.eq_of_testBit_eq fun i => by rw [dif_bit]; simp
  rw [this]
  rfl
theorem ladder_len {l : List Nat} (a b : Nat) : (ladder l a b).length = pop (dif a b) + 1 := lad_len _ _ _
/-- A ladder: it begins with a, ends with b; its rungs are bases, and one element comes each time. -/
theorem lad_rungs {l : List Nat} (hb : Bas l) {b : Nat} (hbb : b ∈ l) : ∀ (k a : Nat), a ∈ l → pop (dif a b) = k → (lad l k a b).getLast? = some b ∧ (∀ t ∈ lad l k a b, t ∈ l) ∧ (∀ j, j + 1 < (lad l k a b).length → pop (dif ((lad l k a b).getD (j + 1) 0) ((lad l k a b).getD j 0)) = 1)
  | 0, a, ha, hk => by
    have e : a = b := eq_of_pop (hb.lt b hbb) (dif_zero (hb.lt a ha) hk) (Nat.le_of_eq (hb.size b hbb a ha))
    subst e
    refine ⟨rfl, fun t ht => ?_, fun j hj => ?_⟩
    · unfold lad at ht
      rw [List.mem_singleton] at ht
      subst ht
      exact ha
    · unfold lad at hj
      simp at hj
  | k + 1, a, ha, hk => by
    have hne : a ≠ b := fun e => by
      subst e
      have : dif a a = 0 := Nat.eq_of_testBit_eq fun i => by rw [dif_bit]; simp
      rw [this] at hk
      have : pop 0 = 0 := by decide
      omega
    obtain ⟨y, _, _, _, h1, _⟩ := next_is hb ha hbb hne
    obtain ⟨d1, d2⟩ := next_dif hb ha hbb hne
    obtain ⟨i1, i2, i3⟩ := lad_rungs hb hbb k (nextR l a b) h1 (by omega)
    have e0 : (lad l k (nextR l a b) b).getD 0 0 = nextR l a b := by cases k <;> rfl
    have hne2 : lad l k (nextR l a b) b ≠ [] := fun e => by have := lad_len (l := l) k (nextR l a b) b; rw [e] at this; simp at this
    unfold lad
    refine ⟨?_, fun t ht => ?_, fun j hj => ?_⟩
    · rw [List.getLast?_cons_of_ne_nil hne2]
      exact i1
    · rw [List.mem_cons] at ht
      rcases ht with rfl | ht
      · exact ha
      · exact i2 t ht
    · cases j with
      | zero => simp only [List.getD_cons_succ, List.getD_cons_zero]; rw [e0]; exact d2
      | succ j => simp only [List.getD_cons_succ]; exact i3 j (by rw [List.length_cons] at hj; omega)
/-- Which of b's elements can go when i comes. -/
def fundTo (l : List Nat) (b i : Nat) (es : List Nat) : Nat := es.foldl (fun c x => if memB (rm b x ||| 2 ^ i) l = true then c ||| 2 ^ x else c) (2 ^ i)
def fund (l : List Nat) (b i : Nat) : Nat := fundTo l b i (els b)
theorem fundTo_snoc (l : List Nat) (b i : Nat) (es : List Nat) (x : Nat) : fundTo l b i (es ++ [x]) = if memB (rm b x ||| 2 ^ i) l = true then fundTo l b i es ||| 2 ^ x else fundTo l b i es := by
  unfold fundTo
  rw [List.foldl_append]
  rfl
theorem fundTo_lt (l : List Nat) (b i : Nat) (hi : i < 8) (es : List Nat) (h : ∀ x ∈ es, x < 8) : fundTo l b i es < 256 := by
  refine lt_of_bits (n := 8) fun j hj => ?_
  unfold fundTo at hj
  rw [fold_bit (fun x => memB (rm b x ||| 2 ^ i) l = true)] at hj
  simp only [Bool.or_eq_true, Bool.and_eq_true, decide_eq_true_eq] at hj
  rcases hj with hj | hj
  · rw [Nat.testBit_two_pow] at hj
    simp at hj
    omega
  · exact h j hj.1
theorem fund_bit {l : List Nat} {b i : Nat} (hb : b < 256) (j : Nat) : (fund l b i).testBit j = (decide (i = j) || (b.testBit j && memB (rm b j ||| 2 ^ i) l)) := by
  unfold fund fundTo
  rw [fold_bit (fun x => memB (rm b x ||| 2 ^ i) l = true), Nat.testBit_two_pow]
  have := @mem_els b j hb
  congr 1
  cases e : b.testBit j <;> simp_all
/-- The one circuit in b and i. -/
theorem fund_is {n : Nat} {l : List Nat} (hn : n ≤ 8) (hf : Fam n l) (hb : Bas l) {b i : Nat} (hbb : b ∈ l) (hi : i < n) (hbi : b.testBit i = false) {c : Nat} (hc : cirB (rk l) c = true) (hs : subB c (b ||| 2 ^ i) = true) : c = fund l b i := by
  have b1 : b < 2 ^ n := hf.lt b hbb
  have b8 := lt256 hn b1
  have u1 := ad_lt b1 hi
  have c1 := sub_lt hs u1
  have c8 := lt256 hn c1
  have R := hb.rk
  have pb := (bas_mem hn hf hb b1).1 hbb
  have c2 := (cir_iff c8).1 hc
  have hci : c.testBit i = true := by
    cases e : c.testBit i with
    | true => rfl
    | false =>
      exfalso
      refine c2.2 (ind_down R pb.1 (subB_iff.2 fun j hj => ?_))
      have h1 := subB_iff.1 hs j hj
      rw [or_bit] at h1
      by_cases ej : i = j
      · subst ej; rw [e] at hj; cases hj
      · simpa [ej] using h1
  have hru : rk l (b ||| 2 ^ i) = pop b := by
    have h1 := R.mono _ _ (full_sub u1)
    have h2 := R.mono _ _ (sub_or b (2 ^ i))
    omega
  refine Nat.eq_of_testBit_eq fun j => ?_
  rw [fund_bit b8]
  by_cases ej : i = j
  · subst ej; simp [hci]
  · have ej' : decide (i = j) = false := by simp [ej]
    rw [ej', Bool.false_or]
    cases ec : c.testBit j with
    | true =>
      have hbj : b.testBit j = true := by
        have h1 := subB_iff.1 hs j ec
        rw [or_bit] at h1
        simpa [ej] using h1
      have j8 := bit8 b8 hbj
      -- the rest of the circuit spans j
      have k1 := R.cir_in c8 hc ec
      have hsub : subB (rm c j) (rm b j ||| 2 ^ i) = true := subB_iff.2 fun z hz => by
        rw [rm_bit] at hz
        simp at hz
        have h1 := subB_iff.1 hs z hz.1
        rw [or_bit] at h1 ⊢
        rw [rm_bit]
        by_cases ez : i = z <;> simp_all
      have k2 := R.add hsub k1
      have e1 : rm b j ||| 2 ^ i ||| 2 ^ j = b ||| 2 ^ i := Nat.eq_of_testBit_eq fun z => by
        rw [or_bit, or_bit, or_bit, rm_bit]
        by_cases ez : j = z
        · subst ez; simp [hbj]
        · simp [ez]
      rw [e1] at k2
      have lt1 : rm b j ||| 2 ^ i < 2 ^ n := ad_lt (sub_lt (rm_sub b j) b1) hi
      have p1 := pop_rm' b8 hbj
      have p2 := pop_ad (rm b j) (lt256 hn (sub_lt (rm_sub b j) b1)) i (by omega) (by rw [rm_bit, hbi]; rfl)
      have : rm b j ||| 2 ^ i ∈ l := (bas_mem hn hf hb lt1).2 ⟨by omega, by omega⟩
      rw [hbj]
      unfold memB
      simp [this]
    | false =>
      cases hbj : b.testBit j with
      | false => rfl
      | true =>
        have hsub : subB c (rm b j ||| 2 ^ i) = true := subB_iff.2 fun z hz => by
          have h1 := subB_iff.1 hs z hz
          rw [or_bit] at h1 ⊢
          rw [rm_bit]
          by_cases ez : j = z
          · subst ez; rw [ec] at hz; cases hz
          · by_cases ez2 : i = z <;> simp_all
        have hno : ¬ (rm b j ||| 2 ^ i ∈ l) := fun hm => by
          have lt1 := hf.lt _ hm
          have := (bas_mem hn hf hb lt1).1 hm
          exact c2.2 (ind_down R this.1 hsub)
        unfold memB
        simp [hno]
theorem fund_cir {n : Nat} {l : List Nat} (hn : n ≤ 8) (hf : Fam n l) (hb : Bas l) {b i : Nat} (hbb : b ∈ l) (hi : i < n) (hbi : b.testBit i = false) : fund l b i < 2 ^ n ∧ cirB (rk l) (fund l b i) = true ∧ subB (fund l b i) (b ||| 2 ^ i) = true ∧ dif (fund l b i) b = 2 ^ i := by
  have b1 : b < 2 ^ n := hf.lt b hbb
  have b8 := lt256 hn b1
  have u1 := ad_lt b1 hi
  have R := hb.rk
  have pb := (bas_mem hn hf hb b1).1 hbb
  have hdep : rk l (b ||| 2 ^ i) ≠ pop (b ||| 2 ^ i) := by
    have h1 := R.mono _ _ (full_sub u1)
    have h2 := pop_ad b b8 i (by omega) hbi
    omega
  obtain ⟨c, h1, h2⟩ := dep_cir R (lt256 hn u1) hdep
  have e := fund_is hn hf hb hbb hi hbi h2 h1
  rw [← e]
  refine ⟨sub_lt h1 u1, h2, h1, ?_⟩
  rw [e]
  refine Nat.eq_of_testBit_eq fun j => ?_
  rw [dif_bit, fund_bit b8, Nat.testBit_two_pow]
  by_cases ej : i = j
  · subst ej; simp [hbi]
  · cases e : b.testBit j <;> simp [ej]
end Go.Proofs.YtkebhhpfnalbfaaDoor
