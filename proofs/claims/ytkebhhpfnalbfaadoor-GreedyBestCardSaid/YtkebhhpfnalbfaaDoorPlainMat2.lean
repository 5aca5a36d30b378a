/- Plain mathematics: closures, circuits, flats and hyperplanes by ranks. -/
import Derived.Test.YtkebhhpfnalbfaaDoorPlainMat
namespace Go.Proofs.YtkebhhpfnalbfaaDoor

theorem sub_or (s t : Nat) : subB s (s ||| t) = true := subB_iff.2 fun i hi => by rw [Nat.testBit_or, hi]; rfl
theorem sub_ad {s t i : Nat} (h : subB s t = true) : subB (s ||| 2 ^ i) (t ||| 2 ^ i) = true := subB_iff.2 fun j hj => by
  rw [or_bit] at hj ⊢
  have := subB_iff.1 h j
  cases e : s.testBit j <;> simp_all
variable {r : Nat → Nat}
theorem Rk.zero (h : Rk r) : r 0 = 0 := by
  have := h.le 0
  have e : pop 0 = 0 := by decide
  omega
theorem Rk.add (h : Rk r) {s t i : Nat} (hst : subB s t = true) (e : r (s ||| 2 ^ i) = r s) : r (t ||| 2 ^ i) = r t := by
  have h1 := h.sub (s ||| 2 ^ i) t
  have h2 : s ||| 2 ^ i ||| t = t ||| 2 ^ i := Nat.eq_of_testBit_eq fun j => by
    have := subB_iff.1 hst j
    simp only [Nat.testBit_or, Nat.testBit_two_pow]
    cases e1 : s.testBit j <;> cases e2 : t.testBit j <;> simp_all
  have h3 := h.mono s ((s ||| 2 ^ i) &&& t) (subB_iff.2 fun j hj => by rw [and_bit, or_bit, hj, subB_iff.1 hst j hj]; rfl)
  have h4 := h.mono t (t ||| 2 ^ i) (sub_or _ _)
  rw [h2] at h1
  omega
theorem ad_rm {t i : Nat} (h : t.testBit i = true) : rm t i ||| 2 ^ i = t := Nat.eq_of_testBit_eq fun j => by
  rw [or_bit, rm_bit]
  by_cases e : i = j
  · subst e; simp [h]
  · simp [e]
theorem rm_ad {t i : Nat} (h : t.testBit i = false) : rm (t ||| 2 ^ i) i = t := Nat.eq_of_testBit_eq fun j => by
  rw [rm_bit, or_bit]
  by_cases e : i = j
  · subst e; simp [h]
  · simp [e]
theorem exists_bit {t : Nat} (h : t ≠ 0) : ∃ i, t.testBit i = true := by
  apply Classical.byContradiction
  intro hn
  exact h (Nat.eq_of_testBit_eq fun i => by
    rw [Nat.zero_testBit]
    cases e : t.testBit i
    · rfl
    · exact absurd ⟨i, e⟩ hn)
theorem Rk.adds (h : Rk r) {s : Nat} : ∀ (t : Nat), t < 256 → (∀ i, t.testBit i = true → r (s ||| 2 ^ i) = r s) → r (s ||| t) = r s := by
  intro t
  induction t using Nat.strongRecOn with
  | ind t ih =>
    intro ht hb
    by_cases h0 : t = 0
    · subst h0; rw [Nat.or_zero]
    · obtain ⟨i, hi⟩ := exists_bit h0
      have hlt := rm_lt ht hi
      have e1 := ih (rm t i) hlt (by omega) fun j hj => hb j (by rw [rm_bit] at hj; simp at hj; exact hj.1)
      have e2 := h.add (t := s ||| rm t i) (sub_or s _) (hb i hi)
      rw [Nat.or_assoc, ad_rm hi, e1] at e2
      exact e2

/-- What has the rank with s. -/
def clo (r : Nat → Nat) (c s : Nat) : Nat := (els c).foldl (fun a i => if r (s ||| 2 ^ i) = r s then a ||| 2 ^ i else a) s
theorem fold_bit (p : Nat → Prop) [DecidablePred p] (j : Nat) : ∀ (l : List Nat) (a : Nat), (l.foldl (fun a i => if p i then a ||| 2 ^ i else a) a).testBit j = (a.testBit j || (decide (j ∈ l) && decide (p j)))
  | [], a => by simp
  | i :: l, a => by
    rw [List.foldl_cons, fold_bit p j l]
    by_cases hp : p i
    · rw [if_pos hp, or_bit]
      by_cases e : i = j
      · subst e; simp [hp]
      · have e' : ¬ j = i := fun h => e h.symm
        simp [e, e']
    · rw [if_neg hp]
      by_cases e : j = i
      · subst e; simp [hp]
      · simp [e]
def cl (r : Nat → Nat) (n s : Nat) : Nat := clo r (2 ^ n - 1 - s) s
theorem sub_compl {n s : Nat} (hs : s < 2 ^ n) : 2 ^ n - 1 - s = (2 ^ n - 1) ^^^ s := by
  refine Nat.eq_of_testBit_eq fun j => ?_
  rw [compl_bit n s j hs]
  have := Nat.testBit_two_pow_sub_succ hs j
  rw [← this]
  congr 1
  omega
theorem compl_lt {n : Nat} (hn : n ≤ 8) (s : Nat) : 2 ^ n - 1 - s < 256 := by
  have : (2 : Nat) ^ n ≤ 256 := (Nat.pow_le_pow_right (by omega) hn : 2 ^ n ≤ 2 ^ 8)
  have := Nat.one_le_two_pow (n := n)
  omega
theorem bit_n {n t i : Nat} (ht : t < 2 ^ n) (hi : t.testBit i = true) : i < n := by
  rcases Nat.lt_or_ge i n with h | h
  · exact h
  · have := Nat.testBit_lt_two_pow (Nat.lt_of_lt_of_le ht (Nat.pow_le_pow_right (by omega) h : 2 ^ n ≤ 2 ^ i))
    rw [this] at hi; cases hi
theorem cl_bit {n s : Nat} (hn : n ≤ 8) (hs : s < 2 ^ n) (j : Nat) : (cl r n s).testBit j = (decide (j < n) && decide (r (s ||| 2 ^ j) = r s)) := by
  unfold cl clo
  rw [fold_bit (fun i => r (s ||| 2 ^ i) = r s)]
  have e : decide (j ∈ els (2 ^ n - 1 - s)) = (decide (j < n) && !s.testBit j) := by
    rw [← compl_bit n s j hs, ← sub_compl hs, Bool.eq_iff_iff, decide_eq_true_iff, mem_els (compl_lt hn s)]
  rw [e]
  cases hb : s.testBit j
  · simp
  · have h1 := bit_n hs hb
    simp [h1, ad_in hb]
theorem full_bit (n j : Nat) : (2 ^ n - 1).testBit j = decide (j < n) := Nat.testBit_two_pow_sub_one n j
theorem full_lt (n : Nat) : 2 ^ n - 1 < 2 ^ n := by have := Nat.one_le_two_pow (n := n); omega
theorem lt_of_bits {n t : Nat} (h : ∀ j, t.testBit j = true → j < n) : t < 2 ^ n :=
  sub_lt (c := 2 ^ n - 1) (subB_iff.2 fun j hj => by rw [full_bit]; simpa using h j hj) (full_lt n)
theorem cl_lt {n s : Nat} (hn : n ≤ 8) (hs : s < 2 ^ n) : cl r n s < 2 ^ n :=
  lt_of_bits fun j hj => by rw [cl_bit hn hs] at hj; simp at hj; exact hj.1
theorem lt256 {n s : Nat} (hn : n ≤ 8) (hs : s < 2 ^ n) : s < 256 := Nat.lt_of_lt_of_le hs (Nat.pow_le_pow_right (by omega) hn : 2 ^ n ≤ 2 ^ 8)
theorem sub_cl {n s : Nat} (hn : n ≤ 8) (hs : s < 2 ^ n) : subB s (cl r n s) = true := subB_iff.2 fun j hj => by
  rw [cl_bit hn hs, ad_in hj]; simp [bit_n hs hj]
theorem or_eq_of_sub {s t : Nat} (h : subB s t = true) : s ||| t = t := Nat.eq_of_testBit_eq fun j => by
  have := subB_iff.1 h j
  rw [Nat.testBit_or]; cases e1 : s.testBit j <;> simp_all
theorem Rk.cl_eq (h : Rk r) {n s : Nat} (hn : n ≤ 8) (hs : s < 2 ^ n) : r (cl r n s) = r s := by
  have := h.adds (s := s) (cl r n s) (lt256 hn (cl_lt hn hs)) fun i hi => by rw [cl_bit hn hs] at hi; simp at hi; exact hi.2
  rwa [or_eq_of_sub (sub_cl hn hs)] at this
theorem Rk.cl_cl (h : Rk r) {n s : Nat} (hn : n ≤ 8) (hs : s < 2 ^ n) : cl r n (cl r n s) = cl r n s := Nat.eq_of_testBit_eq fun j => by
  rw [cl_bit hn (cl_lt hn hs), cl_bit hn hs]
  congr 1
  rw [Bool.eq_iff_iff, decide_eq_true_iff, decide_eq_true_iff, h.cl_eq hn hs]
  constructor
  · intro e
    have h1 := h.mono _ _ (sub_ad (i := j) (sub_cl (r := r) hn hs))
    have h2 := h.mono _ _ (sub_or s (2 ^ j))
    omega
  · intro e
    rw [h.add (sub_cl hn hs) e, h.cl_eq hn hs]
theorem Rk.cl_mono (h : Rk r) {n s t : Nat} (hn : n ≤ 8) (hs : s < 2 ^ n) (ht : t < 2 ^ n) (hst : subB s t = true) : subB (cl r n s) (cl r n t) = true := subB_iff.2 fun j hj => by
  rw [cl_bit hn hs] at hj
  rw [cl_bit hn ht]
  simp only [Bool.and_eq_true, decide_eq_true_eq] at hj ⊢
  exact ⟨hj.1, h.add hst hj.2⟩

/-- Circuits. -/
def cirB (r : Nat → Nat) (s : Nat) : Bool := ((els s).all fun i => r (rm s i) == pop (rm s i)) && !(r s == pop s)
theorem cir_iff {s : Nat} (hs : s < 256) : cirB r s = true ↔ (∀ i, s.testBit i = true → r (rm s i) = pop (rm s i)) ∧ r s ≠ pop s := by
  unfold cirB
  simp only [Bool.and_eq_true, List.all_eq_true, mem_els hs, beq_iff_eq, Bool.not_eq_true', beq_eq_false_iff_ne]
theorem pop_rm' {s i : Nat} (hs : s < 256) (hi : s.testBit i = true) : pop s = pop (rm s i) + 1 := pop_rm s hs i (bit8 hs hi) hi
theorem Rk.cir_ne (h : Rk r) {s : Nat} (hc : r s ≠ pop s) : s ≠ 0 := fun e => by
  subst e
  exact hc (by rw [h.zero]; decide)
theorem Rk.cir_rk (h : Rk r) {s : Nat} (hs : s < 256) (hc : cirB r s = true) : r s + 1 = pop s := by
  obtain ⟨h1, h2⟩ := (cir_iff hs).1 hc
  obtain ⟨i, hi⟩ := exists_bit (h.cir_ne h2)
  have e := h1 i hi
  have m := h.mono _ _ (rm_sub s i)
  have p := pop_rm' hs hi
  have l := h.le s
  omega
/-- An element of a circuit is in the closure of the others. -/
theorem Rk.cir_in (h : Rk r) {s i : Nat} (hs : s < 256) (hc : cirB r s = true) (hi : s.testBit i = true) : r (rm s i ||| 2 ^ i) = r (rm s i) := by
  have e := h.cir_rk hs hc
  have p := pop_rm' hs hi
  have := ((cir_iff hs).1 hc).1 i hi
  rw [ad_rm hi]
  omega
/-- A set without which the rank falls nowhere is independent. -/
theorem Rk.ind_of (h : Rk r) : ∀ (s : Nat), s < 256 → (∀ z, s.testBit z = true → r (rm s z) ≠ r s) → r s = pop s := by
  intro s
  induction s using Nat.strongRecOn with
  | ind s ih =>
    intro hs hz
    by_cases h0 : s = 0
    · subst h0; rw [h.zero]; decide
    · obtain ⟨i, hi⟩ := exists_bit h0
      have hlt := rm_lt hs hi
      have p := pop_rm' hs hi
      have e : r (rm s i) = pop (rm s i) := ih _ hlt (by omega) fun z hzb he => by
        have hzs : s.testBit z = true := by rw [rm_bit] at hzb; simp at hzb; exact hzb.1
        have hne : i ≠ z := by rw [rm_bit] at hzb; simp at hzb; exact hzb.2
        refine hz z hzs ?_
        have a := h.add (s := rm (rm s i) z) (t := rm s z) (i := z) (subB_iff.2 fun j hj => by simp only [rm_bit, Bool.and_eq_true, decide_eq_true_eq] at hj ⊢; exact ⟨hj.1.1, hj.2⟩) (by rw [ad_rm hzb]; exact he.symm)
        rw [ad_rm hzs] at a
        exact a.symm
      have st := h.step (rm s i) i
      rw [ad_rm hi] at st
      have m := h.mono _ _ (rm_sub s i)
      have n := hz i hi
      omega
/-- Where y is in the closure of a set, it is in a circuit with some of it. -/
theorem Rk.cir_of (h : Rk r) {y : Nat} (hy : y < 8) : ∀ (d : Nat), d < 256 → d.testBit y = false → r (d ||| 2 ^ y) = r d → ∃ c, subB c (d ||| 2 ^ y) = true ∧ c.testBit y = true ∧ cirB r c = true := by
  intro d
  induction d using Nat.strongRecOn with
  | ind d ih =>
    intro hd hyd e
    by_cases hz : ∃ z, d.testBit z = true ∧ r (rm d z ||| 2 ^ y) = r (rm d z)
    · obtain ⟨z, hz, ez⟩ := hz
      have hlt := rm_lt hd hz
      obtain ⟨c, h1, h2, h3⟩ := ih (rm d z) hlt (by omega) (by rw [rm_bit, hyd]; rfl) ez
      exact ⟨c, sub_trans h1 (sub_ad (rm_sub d z)), h2, h3⟩
    · have hz' : ∀ z, d.testBit z = true → r (rm d z ||| 2 ^ y) ≠ r (rm d z) := fun z h1 h2 => hz ⟨z, h1, h2⟩
      have hlt : d ||| 2 ^ y < 256 := or_lt hd (pow_lt256 hy)
      have ind : r d = pop d := h.ind_of d hd fun z hzd he => hz' z hzd (by
        have m1 := h.mono _ _ (sub_ad (i := y) (rm_sub d z))
        have m2 := h.mono _ _ (sub_or (rm d z) (2 ^ y))
        omega)
      have p := pop_ad d hd y hy hyd
      refine ⟨d ||| 2 ^ y, sub_refl _, by rw [or_bit]; simp, (cir_iff hlt).2 ⟨fun i hi => ?_, by omega⟩⟩
      by_cases hiy : y = i
      · subst hiy
        rw [rm_ad hyd, ind]
      · have hid : d.testBit i = true := by rw [or_bit] at hi; simpa [hiy] using hi
        have e1 : rm (d ||| 2 ^ y) i = rm d i ||| 2 ^ y := Nat.eq_of_testBit_eq fun j => by
          simp only [rm_bit, or_bit]
          by_cases e2 : y = j
          · subst e2; simp; exact fun h => hiy h.symm
          · simp [e2]
        have lt2 := rm_lt hd hid
        have n1 := hz' i hid
        have s1 := h.step (rm d i) y
        have m1 := h.mono _ _ (sub_or (rm d i) (2 ^ y))
        have p2 := pop_rm' hd hid
        have s2 := h.step (rm d i) i
        rw [ad_rm hid] at s2
        have l2 := h.le (rm d i)
        have p3 := pop_ad (rm d i) (by omega) y hy (by rw [rm_bit, hyd]; rfl)
        rw [e1, p3]
        omega
/-- WHITNEY'S strong elimination. -/
theorem Rk.strong (h : Rk r) {a b x y : Nat} (ha : a < 256) (hb : b < 256) (ca : cirB r a = true) (cb : cirB r b = true) (hbx : b.testBit x = true) (hay : a.testBit y = true) (hby : b.testBit y = false) :
    ∃ c, cirB r c = true ∧ c.testBit y = true ∧ c.testBit x = false ∧ subB c (a ||| b) = true := by
  have hxy : x ≠ y := fun e => by subst e; rw [hbx] at hby; cases hby
  obtain ⟨d, hd⟩ : ∃ d, d = rm (rm (a ||| b) x) y := ⟨_, rfl⟩
  have dbit : ∀ j, d.testBit j = ((a.testBit j || b.testBit j) && decide (x ≠ j) && decide (y ≠ j)) := fun j => by rw [hd, rm_bit, rm_bit, Nat.testBit_or]
  have dlt : d < 256 := sub_lt (n := 8) (c := a ||| b) (subB_iff.2 fun j hj => by rw [dbit] at hj; rw [Nat.testBit_or]; simp at hj ⊢; exact hj.1.1) (or_lt ha hb)
  have e1 : r (d ||| 2 ^ x) = r d := h.add (s := rm b x) (subB_iff.2 fun j hj => by
    rw [rm_bit] at hj
    rw [dbit]
    simp only [Bool.and_eq_true, decide_eq_true_eq, Bool.or_eq_true] at hj ⊢
    exact ⟨⟨.inr hj.1, hj.2⟩, fun e => by subst e; rw [hj.1] at hby; cases hby⟩) (h.cir_in hb cb hbx)
  have e2 : r (d ||| 2 ^ x ||| 2 ^ y) = r (d ||| 2 ^ x) := h.add (s := rm a y) (subB_iff.2 fun j hj => by
    rw [rm_bit] at hj
    rw [or_bit, dbit]
    simp only [Bool.and_eq_true, decide_eq_true_eq, Bool.or_eq_true] at hj ⊢
    by_cases e : x = j
    · exact .inr e
    · exact .inl ⟨⟨.inl hj.1, e⟩, hj.2⟩) (h.cir_in ha ca hay)
  have e3 : r (d ||| 2 ^ y) = r d := by
    have m1 := h.mono (d ||| 2 ^ y) (d ||| 2 ^ x ||| 2 ^ y) (sub_ad (sub_or _ _))
    have m2 := h.mono d (d ||| 2 ^ y) (sub_or _ _)
    omega
  obtain ⟨c, h1, h2, h3⟩ := h.cir_of (bit8 ha hay) d dlt (by rw [dbit]; simp) e3
  refine ⟨c, h3, h2, ?_, ?_⟩
  · cases e : c.testBit x
    · rfl
    · have := subB_iff.1 h1 x e
      rw [or_bit, dbit] at this
      simp at this
      exact absurd this.symm hxy
  · refine subB_iff.2 fun j hj => ?_
    have := subB_iff.1 h1 j hj
    rw [or_bit, dbit] at this
    rw [Nat.testBit_or]
    simp only [Bool.and_eq_true, decide_eq_true_eq, Bool.or_eq_true] at this ⊢
    rcases this with h4 | rfl
    · exact h4.1.1
    · exact .inl hay

/-- Flats and hyperplanes. -/
def flatB (r : Nat → Nat) (n s : Nat) : Bool := cl r n s == s
def hypB (r : Nat → Nat) (n s : Nat) : Bool := flatB r n s && (r s + 1 == r (2 ^ n - 1))
theorem flat_iff {n s : Nat} (hn : n ≤ 8) (hs : s < 2 ^ n) : flatB r n s = true ↔ ∀ j, j < n → s.testBit j = false → r (s ||| 2 ^ j) ≠ r s := by
  unfold flatB
  rw [beq_iff_eq]
  constructor
  · intro e j hj hb he
    have := cl_bit (r := r) hn hs j
    rw [e, hb] at this
    simp [hj, he] at this
  · intro hall
    refine Nat.eq_of_testBit_eq fun j => ?_
    rw [cl_bit hn hs]
    cases hb : s.testBit j
    · simp only [Bool.and_eq_false_iff, decide_eq_false_iff_not]
      by_cases hj : j < n
      · exact .inr (hall j hj hb)
      · exact .inl hj
    · simp [bit_n hs hb, ad_in hb]
theorem Rk.meet (h : Rk r) {n a b : Nat} (hn : n ≤ 8) (ha : a < 2 ^ n) (hb : b < 2 ^ n) (fa : flatB r n a = true) (fb : flatB r n b = true) : flatB r n (a &&& b) = true := by
  rw [flat_iff hn (Nat.lt_of_le_of_lt Nat.and_le_left ha)]
  intro j hj hbit he
  rw [and_bit] at hbit
  cases e : a.testBit j
  · exact (flat_iff hn ha).1 fa j hj e (h.add (subB_iff.2 fun i hi => by rw [and_bit] at hi; simp at hi; exact hi.1) he)
  · rw [e] at hbit
    exact (flat_iff hn hb).1 fb j hj (by simpa using hbit) (h.add (subB_iff.2 fun i hi => by rw [and_bit] at hi; simp at hi; exact hi.2) he)
theorem ad_lt {n s i : Nat} (hs : s < 2 ^ n) (hi : i < n) : s ||| 2 ^ i < 2 ^ n := Nat.or_lt_two_pow hs (Nat.pow_lt_pow_right (by omega) hi)
/-- Ahead of an element that a flat has not there is a hyperplane around it. -/
theorem Rk.hyper (h : Rk r) {n x : Nat} (hn : n ≤ 8) (hx : x < n) : ∀ (k a : Nat), a < 2 ^ n → 2 ^ n - a ≤ k → flatB r n a = true → a.testBit x = false → ∃ c, c < 2 ^ n ∧ subB a c = true ∧ c.testBit x = false ∧ hypB r n c = true := by
  intro k
  induction k with
  | zero => intro a ha hk; omega
  | succ k ih =>
    intro a ha hk fa hax
    by_cases hy : ∃ y, y < n ∧ r (a ||| 2 ^ x ||| 2 ^ y) ≠ r (a ||| 2 ^ x)
    · obtain ⟨y, hyn, hne⟩ := hy
      have hay : a.testBit y = false := by
        cases e : a.testBit y
        · rfl
        · refine absurd ?_ hne
          rw [ad_in (by rw [or_bit, e]; rfl)]
      have ady := ad_lt ha hyn
      have hx1 := (flat_iff hn ha).1 fa x hx hax
      have hcx : (cl r n (a ||| 2 ^ y)).testBit x = false := by
        rw [cl_bit hn ady]
        simp only [Bool.and_eq_false_iff, decide_eq_false_iff_not]
        refine .inr fun e => hne ?_
        have s1 := h.step a y
        have s2 := h.step a x
        have m1 := h.mono a (a ||| 2 ^ x) (sub_or _ _)
        have e1 : a ||| 2 ^ x ||| 2 ^ y = a ||| 2 ^ y ||| 2 ^ x := by rw [Nat.or_assoc, Nat.or_comm (2 ^ x), ← Nat.or_assoc]
        have m2 := h.mono (a ||| 2 ^ x) (a ||| 2 ^ x ||| 2 ^ y) (sub_or _ _)
        rw [e1] at m2 ⊢
        omega
      have sa : subB a (cl r n (a ||| 2 ^ y)) = true := sub_trans (sub_or _ _) (sub_cl hn ady)
      have hgt : a < cl r n (a ||| 2 ^ y) := by
        have hle : a ≤ cl r n (a ||| 2 ^ y) := by
          have := sa
          unfold subB at this
          rw [beq_iff_eq] at this
          have h9 : a &&& cl r n (a ||| 2 ^ y) ≤ cl r n (a ||| 2 ^ y) := Nat.and_le_right
          omega
        rcases Nat.lt_or_ge a (cl r n (a ||| 2 ^ y)) with g | g
        · exact g
        · have e : cl r n (a ||| 2 ^ y) = a := by omega
          have := subB_iff.1 (sub_cl (r := r) hn ady) y (by rw [or_bit]; simp)
          rw [e, hay] at this
          cases this
      obtain ⟨c, h1, h2, h3, h4⟩ := ih (cl r n (a ||| 2 ^ y)) (cl_lt hn ady) (by omega) (by unfold flatB; rw [h.cl_cl hn ady]; simp) hcx
      exact ⟨c, h1, sub_trans sa h2, h3, h4⟩
    · have hy' : ∀ y, y < n → r (a ||| 2 ^ x ||| 2 ^ y) = r (a ||| 2 ^ x) := fun y h1 => Classical.byContradiction fun h2 => hy ⟨y, h1, h2⟩
      have full := h.adds (s := a ||| 2 ^ x) (2 ^ n - 1) (lt256 hn (full_lt n)) fun i hi => hy' i (by rw [full_bit] at hi; simpa using hi)
      have e1 : (a ||| 2 ^ x) ||| (2 ^ n - 1) = 2 ^ n - 1 := or_eq_of_sub (subB_iff.2 fun j hj => by
        rw [full_bit]; simpa using bit_n (ad_lt ha hx) hj)
      rw [e1] at full
      have s2 := h.step a x
      have m1 := h.mono a (a ||| 2 ^ x) (sub_or _ _)
      have n1 := (flat_iff hn ha).1 fa x hx hax
      exact ⟨a, ha, sub_refl _, hax, by unfold hypB; rw [fa, Bool.true_and, beq_iff_eq]; omega⟩
/-- What all of them have that are around a. -/
def meetAll (n a : Nat) (l : List Nat) : Nat := l.foldl (fun m b => if subB a b = true then m &&& b else m) (2 ^ n - 1)
theorem meets_bit (a j : Nat) : ∀ (l : List Nat) (m : Nat), (l.foldl (fun m b => if subB a b = true then m &&& b else m) m).testBit j = (m.testBit j && l.all fun b => !subB a b || b.testBit j)
  | [], m => by simp
  | b :: l, m => by
    rw [List.foldl_cons, meets_bit a j l]
    by_cases hb : subB a b = true
    · rw [if_pos hb, and_bit, List.all_cons, hb]; simp [Bool.and_assoc]
    · rw [if_neg hb, List.all_cons]; simp at hb; simp [hb]
theorem Rk.meets (h : Rk r) {n a : Nat} (hn : n ≤ 8) (ha : a < 2 ^ n) (fa : flatB r n a = true) : meetAll n a ((List.range (2 ^ n)).filter (hypB r n)) = a := Nat.eq_of_testBit_eq fun j => by
  unfold meetAll
  rw [meets_bit, full_bit]
  cases e : a.testBit j
  · by_cases hj : j < n
    · obtain ⟨c, h1, h2, h3, h4⟩ := h.hyper hn hj (2 ^ n) a ha (by omega) fa e
      rw [Bool.and_eq_false_iff]
      refine .inr (Bool.eq_false_iff.2 fun hall => ?_)
      have := List.all_eq_true.1 hall c (by simp [h1, h4])
      rw [h2, h3] at this
      cases this
    · simp [hj]
  · simp only [Bool.and_eq_true, decide_eq_true_eq, List.all_eq_true, bit_n ha e, true_and]
    intro b _
    cases hb : subB a b
    · rfl
    · rw [subB_iff.1 hb j e]; rfl
end Go.Proofs.YtkebhhpfnalbfaaDoor
