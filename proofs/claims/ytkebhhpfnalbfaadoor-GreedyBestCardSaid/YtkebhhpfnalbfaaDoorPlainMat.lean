/- Plain mathematics: matroids by their bases: ranks grow slower and slower. -/
import Derived.Test.YtkebhhpfnalbfaaDoorPlainBlock
namespace Go.Proofs.YtkebhhpfnalbfaaDoor

theorem filt_len (p q : Nat → Bool) : ∀ l : List Nat, (l.filter fun i => p i || q i).length + (l.filter fun i => p i && q i).length = (l.filter p).length + (l.filter q).length
  | [] => rfl
  | a :: l => by
    have := filt_len p q l
    simp only [List.filter_cons]
    cases p a <;> cases q a <;> simp <;> omega
theorem pop_or_and (a b : Nat) : pop (a ||| b) + pop (a &&& b) = pop a + pop b := by
  unfold pop; simp only [Nat.testBit_or, Nat.testBit_and]; exact filt_len _ _ _
theorem filt_le {p q : Nat → Bool} (h : ∀ i, p i = true → q i = true) : ∀ l : List Nat, (l.filter p).length ≤ (l.filter q).length
  | [] => Nat.le_refl _
  | a :: l => by
    have := filt_le h l
    have h' := h a
    simp only [List.filter_cons]
    cases hp : p a <;> cases hq : q a <;> simp_all <;> omega
theorem pop_sub {a b : Nat} (h : subB a b = true) : pop a ≤ pop b := filt_le (subB_iff.1 h) _

/-- What a has and b has not. -/
def dif (a b : Nat) : Nat := a ^^^ (a &&& b)
theorem dif_bit (a b i : Nat) : (dif a b).testBit i = (a.testBit i && !b.testBit i) := by
  unfold dif; rw [Nat.testBit_xor, Nat.testBit_and]; cases a.testBit i <;> cases b.testBit i <;> rfl
theorem dif_lt {a b : Nat} (h : a < 256) : dif a b < 256 :=
  sub_lt (n := 8) (subB_iff.2 fun i hi => by rw [dif_bit] at hi; simp at hi; exact hi.1) h
theorem pop_dif (a b : Nat) : pop (dif a b) + pop (a &&& b) = pop a := by
  have h := pop_or_and (dif a b) (a &&& b)
  have h1 : dif a b ||| a &&& b = a := Nat.eq_of_testBit_eq fun i => by rw [Nat.testBit_or, Nat.testBit_and, dif_bit]; cases a.testBit i <;> cases b.testBit i <;> rfl
  have h2 : dif a b &&& (a &&& b) = 0 := Nat.eq_of_testBit_eq fun i => by rw [Nat.testBit_and, Nat.testBit_and, dif_bit, Nat.zero_testBit]; cases a.testBit i <;> cases b.testBit i <;> rfl
  have h3 : pop 0 = 0 := by decide
  rw [h1, h2, h3] at h
  omega
theorem and_lt {a b : Nat} (h : a < 256) : a &&& b < 256 := Nat.lt_of_le_of_lt Nat.and_le_left h
theorem or_lt {a b : Nat} (h : a < 256) (k : b < 256) : a ||| b < 256 := Nat.or_lt_two_pow (n := 8) h k
theorem bit8 {a i : Nat} (h : a < 256) (hi : a.testBit i = true) : i < 8 := by
  rcases Nat.lt_or_ge i 8 with h1 | h1
  · exact h1
  · have := Nat.testBit_lt_two_pow (Nat.lt_of_lt_of_le h (Nat.pow_le_pow_right (by omega) h1 : 2 ^ 8 ≤ 2 ^ i))
    rw [this] at hi; cases hi
theorem pow_lt256 {i : Nat} (h : i < 8) : 2 ^ i < 256 := Nat.pow_lt_pow_right (by omega) h
theorem or_bit (a i j : Nat) : (a ||| 2 ^ i).testBit j = (a.testBit j || decide (i = j)) := by
  rw [Nat.testBit_or, Nat.testBit_two_pow]
theorem pop_ad : ∀ t : Nat, t < 256 → ∀ i : Nat, i < 8 → t.testBit i = false → pop (t ||| 2 ^ i) = pop t + 1 := by decide +kernel
theorem rm_eq (s i : Nat) : rm s i = dif s (2 ^ i) := rfl
theorem eq_of_pop {a b : Nat} (hb : b < 256) (h : subB a b = true) (hp : pop b ≤ pop a) : a = b := by
  have h1 := pop_dif b a
  have h2 : b &&& a = a := Nat.eq_of_testBit_eq fun i => by
    have := subB_iff.1 h i
    rw [Nat.testBit_and]; cases ha : a.testBit i <;> simp_all
  rw [h2] at h1
  have h3 : dif b a = 0 := (pop_pos _ (dif_lt hb)).1 (by omega)
  refine Nat.eq_of_testBit_eq fun i => ?_
  have h4 := congrArg (fun x => x.testBit i) h3
  simp only [dif_bit, Nat.zero_testBit] at h4
  have := subB_iff.1 h i
  cases ha : a.testBit i <;> cases hb : b.testBit i <;> simp_all
theorem rm_out {s i : Nat} (h : s.testBit i = false) : rm s i = s := Nat.eq_of_testBit_eq fun j => by
  rw [rm_bit]
  by_cases e : i = j
  · subst e; simp [h]
  · simp [e]
theorem ad_in {s i : Nat} (h : s.testBit i = true) : s ||| 2 ^ i = s := Nat.eq_of_testBit_eq fun j => by
  rw [or_bit]
  by_cases e : i = j
  · subst e; simp [h]
  · simp [e]
theorem and_rm (s a i : Nat) : s &&& rm a i = rm (s &&& a) i := Nat.eq_of_testBit_eq fun j => by
  rw [Nat.testBit_and, rm_bit, rm_bit, Nat.testBit_and]; cases s.testBit j <;> cases a.testBit j <;> rfl
theorem and_ad_in {s a i : Nat} (h : s.testBit i = true) : s &&& (a ||| 2 ^ i) = (s &&& a) ||| 2 ^ i := Nat.eq_of_testBit_eq fun j => by
  rw [Nat.testBit_and, or_bit, or_bit, Nat.testBit_and]
  by_cases e : i = j
  · subst e; simp [h]
  · simp [e]
theorem and_ad_out {s a i : Nat} (h : s.testBit i = false) : s &&& (a ||| 2 ^ i) = s &&& a := Nat.eq_of_testBit_eq fun j => by
  rw [Nat.testBit_and, or_bit, Nat.testBit_and]
  by_cases e : i = j
  · subst e; simp [h]
  · simp [e]
theorem and_bit (a b i : Nat) : (a &&& b).testBit i = (a.testBit i && b.testBit i) := Nat.testBit_and _ _ _

/-- Sets of one size, any two of which exchange each element. -/
structure Bas (bs : List Nat) : Prop where
  lt : ∀ b ∈ bs, b < 256
  size : ∀ a ∈ bs, ∀ b ∈ bs, pop a = pop b
  exch : ∀ a ∈ bs, ∀ b ∈ bs, ∀ x, a.testBit x = true → b.testBit x = false → ∃ y, b.testBit y = true ∧ a.testBit y = false ∧ rm a x ||| 2 ^ y ∈ bs
  ne : bs ≠ []

/-- The rank. -/
def rk (bs : List Nat) (s : Nat) : Nat := bs.foldl (fun m b => max m (pop (s &&& b))) 0
theorem fold_ge (f : Nat → Nat) : ∀ (l : List Nat) (m : Nat), m ≤ l.foldl (fun m b => max m (f b)) m ∧ ∀ b ∈ l, f b ≤ l.foldl (fun m b => max m (f b)) m
  | [], m => ⟨Nat.le_refl _, by simp⟩
  | a :: l, m => by
    obtain ⟨h1, h2⟩ := fold_ge f l (max m (f a))
    refine ⟨Nat.le_trans (Nat.le_max_left _ _) h1, fun b hb => ?_⟩
    rw [List.mem_cons] at hb
    rcases hb with rfl | hb
    · exact Nat.le_trans (Nat.le_max_right _ _) h1
    · exact h2 b hb
theorem fold_at (f : Nat → Nat) : ∀ (l : List Nat) (m : Nat), l.foldl (fun m b => max m (f b)) m = m ∨ ∃ b ∈ l, l.foldl (fun m b => max m (f b)) m = f b
  | [], m => .inl rfl
  | a :: l, m => by
    rcases fold_at f l (max m (f a)) with h | ⟨b, hb, h⟩
    · rw [List.foldl_cons, h]
      rcases Nat.le_total m (f a) with g | g
      · exact .inr ⟨a, by simp, by rw [Nat.max_eq_right g]⟩
      · exact .inl (Nat.max_eq_left g)
    · exact .inr ⟨b, by simp [hb], h⟩
theorem rk_ge {bs : List Nat} {b : Nat} (s : Nat) (h : b ∈ bs) : pop (s &&& b) ≤ rk bs s := (fold_ge (fun b => pop (s &&& b)) bs 0).2 b h
theorem rk_at {bs : List Nat} (h : bs ≠ []) (s : Nat) : ∃ b ∈ bs, pop (s &&& b) = rk bs s := by
  rcases fold_at (fun b => pop (s &&& b)) bs 0 with g | ⟨b, hb, g⟩
  · obtain ⟨b, hb⟩ := List.exists_mem_of_ne_nil bs h
    have := rk_ge s hb
    unfold rk at *
    exact ⟨b, hb, by omega⟩
  · exact ⟨b, hb, g.symm⟩

theorem swap_pop {a s x y : Nat} (ha : a < 256) (hx : a.testBit x = true) (hy : a.testBit y = false) (hy8 : y < 8) :
    pop (s &&& (rm a x ||| 2 ^ y)) + (if s.testBit x = true then 1 else 0) = pop (s &&& a) + (if s.testBit y = true then 1 else 0) := by
  have h8 := bit8 ha hx
  have hA : s &&& a < 256 := by rw [Nat.and_comm]; exact and_lt ha
  have e1 : pop (s &&& rm a x) + (if s.testBit x = true then 1 else 0) = pop (s &&& a) := by
    rw [and_rm]
    cases hs : s.testBit x
    · rw [rm_out (by rw [and_bit, hs]; rfl)]; simp
    · rw [pop_rm (s &&& a) hA x h8 (by rw [and_bit, hs, hx]; rfl)]; simp
  have e2 : pop (s &&& (rm a x ||| 2 ^ y)) = pop (s &&& rm a x) + (if s.testBit y = true then 1 else 0) := by
    cases hs : s.testBit y
    · rw [and_ad_out hs]; simp
    · rw [and_ad_in hs, pop_ad _ (by rw [Nat.and_comm]; exact and_lt (Nat.lt_of_le_of_lt (Nat.le_of_lt (rm_lt ha hx)) ha)) y hy8 (by rw [and_bit, rm_bit, hy]; simp)]; simp
  omega

theorem dif_swap_l {a b x y : Nat} (hby : b.testBit y = true) : dif (rm a x ||| 2 ^ y) b = rm (dif a b) x := Nat.eq_of_testBit_eq fun j => by
  rw [dif_bit, or_bit, rm_bit, rm_bit, dif_bit]
  by_cases e : y = j
  · subst e; simp [hby]
  · by_cases e2 : x = j
    · subst e2; simp [e]
    · simp [e, e2]
theorem dif_swap_r {a b x y : Nat} (hax : a.testBit x = false) : dif a (rm b x ||| 2 ^ y) = rm (dif a b) y := Nat.eq_of_testBit_eq fun j => by
  rw [dif_bit, or_bit, rm_bit, rm_bit, dif_bit]
  by_cases e : y = j
  · subst e; simp
  · by_cases e2 : x = j
    · subst e2; simp [hax]
    · simp [e, e2]

theorem not_all {p : Nat → Prop} [DecidablePred p] (s : Nat) (h : ¬ ∃ i, s.testBit i = true ∧ ¬ p i) : ∀ i, s.testBit i = true → p i := fun i hi => Decidable.byContradiction fun hn => h ⟨i, hi, hn⟩

theorem both {bs : List Nat} (h : Bas bs) {S T : Nat} (hST : subB S T = true) :
    ∀ (d a b : Nat), a ∈ bs → b ∈ bs → pop (T &&& a) = rk bs T → pop (S &&& b) = rk bs S → pop (dif a b) = d → ∃ c ∈ bs, pop (T &&& c) = rk bs T ∧ pop (S &&& c) = rk bs S := by
  intro d
  induction d using Nat.strongRecOn with
  | ind d ih =>
    intro a b ha hb hTa hSb hd
    have la := h.lt a ha
    have lb := h.lt b hb
    have goA : ∀ x, a.testBit x = true → b.testBit x = false → (∀ y, b.testBit y = true → a.testBit y = false → T.testBit x = true → T.testBit y = true) → ∃ c ∈ bs, pop (T &&& c) = rk bs T ∧ pop (S &&& c) = rk bs S := by
      intro x hx hbx hk
      obtain ⟨y, hy1, hy2, hm⟩ := h.exch a ha b hb x hx hbx
      have hp := swap_pop (s := T) la hx hy2 (bit8 lb hy1)
      have hg := rk_ge T hm
      have hT := hk y hy1 hy2
      have hd' : pop (dif (rm a x ||| 2 ^ y) b) + 1 = pop (dif a b) := by
        rw [dif_swap_l hy1, ← pop_rm (dif a b) (dif_lt la) x (bit8 la hx) (by rw [dif_bit, hx, hbx]; rfl)]
      refine ih (pop (dif (rm a x ||| 2 ^ y) b)) (by omega) _ b hm hb ?_ hSb rfl
      cases e1 : T.testBit x <;> cases e2 : T.testBit y <;> simp_all <;> omega
    have goB : ∀ x, b.testBit x = true → a.testBit x = false → S.testBit x = false → ∃ c ∈ bs, pop (T &&& c) = rk bs T ∧ pop (S &&& c) = rk bs S := by
      intro x hx hax hk
      obtain ⟨y, hy1, hy2, hm⟩ := h.exch b hb a ha x hx hax
      have hp := swap_pop (s := S) lb hx hy2 (bit8 la hy1)
      have hg := rk_ge S hm
      have hd' : pop (dif a (rm b x ||| 2 ^ y)) + 1 = pop (dif a b) := by
        rw [dif_swap_r hax, ← pop_rm (dif a b) (dif_lt la) y (bit8 la hy1) (by rw [dif_bit, hy1, hy2]; rfl)]
      refine ih (pop (dif a (rm b x ||| 2 ^ y))) (by omega) a _ ha hm hTa ?_ rfl
      cases e1 : S.testBit x <;> cases e2 : S.testBit y <;> simp_all <;> omega
    by_cases c1 : ∃ x, (dif a b).testBit x = true ∧ ¬ T.testBit x = true
    · obtain ⟨x, hx, hT⟩ := c1
      rw [dif_bit] at hx
      simp only [Bool.and_eq_true, Bool.not_eq_true'] at hx
      exact goA x hx.1 hx.2 fun _ _ _ h => absurd h hT
    by_cases c2 : ∃ x, (dif b a).testBit x = true ∧ ¬ S.testBit x = true
    · obtain ⟨x, hx, hS⟩ := c2
      rw [dif_bit] at hx
      simp only [Bool.and_eq_true, Bool.not_eq_true'] at hx
      exact goB x hx.1 hx.2 (by simpa using hS)
    have k2 := not_all _ c2
    by_cases c3 : ∃ x, (dif a b).testBit x = true ∧ ¬ S.testBit x = true
    · obtain ⟨x, hx, hS⟩ := c3
      rw [dif_bit] at hx
      simp only [Bool.and_eq_true, Bool.not_eq_true'] at hx
      exact goA x hx.1 hx.2 fun y hy1 hy2 _ => subB_iff.1 hST y (k2 y (by rw [dif_bit, hy1, hy2]; rfl))
    have k3 := not_all _ c3
    refine ⟨a, ha, hTa, ?_⟩
    rw [← hSb]
    have hs := h.size a ha b hb
    have p1 := pop_dif a b
    have p2 := pop_dif b a
    rw [Nat.and_comm b a] at p2
    have q1 := pop_dif (S &&& a) b
    have q2 := pop_dif (S &&& b) a
    have e1 : dif (S &&& a) b = dif a b := Nat.eq_of_testBit_eq fun j => by
      have := k3 j
      rw [dif_bit] at this
      rw [dif_bit, dif_bit, and_bit]; cases e1 : a.testBit j <;> cases e2 : b.testBit j <;> cases e3 : S.testBit j <;> simp_all
    have e2 : dif (S &&& b) a = dif b a := Nat.eq_of_testBit_eq fun j => by
      have := k2 j
      rw [dif_bit] at this
      rw [dif_bit, dif_bit, and_bit]; cases e1 : a.testBit j <;> cases e2 : b.testBit j <;> cases e3 : S.testBit j <;> simp_all
    have e3 : S &&& a &&& b = S &&& b &&& a := by rw [Nat.and_assoc, Nat.and_assoc, Nat.and_comm a b]
    rw [e1] at q1
    rw [e2, ← e3] at q2
    omega

theorem rk_sub {bs : List Nat} (h : Bas bs) (s t : Nat) : rk bs (s ||| t) + rk bs (s &&& t) ≤ rk bs s + rk bs t := by
  obtain ⟨a, ha, hTa⟩ := rk_at h.ne (s ||| t)
  obtain ⟨b, hb, hSb⟩ := rk_at h.ne (s &&& t)
  obtain ⟨c, hc, h1, h2⟩ := both h (S := s &&& t) (T := s ||| t) (subB_iff.2 fun i hi => by rw [and_bit] at hi; rw [Nat.testBit_or]; simp_all) _ a b ha hb hTa hSb rfl
  have p := pop_or_and (s &&& c) (t &&& c)
  have e1 : (s &&& c) ||| (t &&& c) = (s ||| t) &&& c := Nat.eq_of_testBit_eq fun j => by
    simp only [Nat.testBit_or, Nat.testBit_and]; cases s.testBit j <;> cases t.testBit j <;> cases c.testBit j <;> rfl
  have e2 : (s &&& c) &&& (t &&& c) = (s &&& t) &&& c := Nat.eq_of_testBit_eq fun j => by
    simp only [Nat.testBit_and]; cases s.testBit j <;> cases t.testBit j <;> cases c.testBit j <;> rfl
  rw [e1, e2] at p
  have g1 := rk_ge s hc
  have g2 := rk_ge t hc
  omega

/-- Ranks. -/
structure Rk (r : Nat → Nat) : Prop where
  le : ∀ s, r s ≤ pop s
  mono : ∀ s t, subB s t = true → r s ≤ r t
  step : ∀ s i, r (s ||| 2 ^ i) ≤ r s + 1
  sub : ∀ s t, r (s ||| t) + r (s &&& t) ≤ r s + r t
theorem pop_pow (i : Nat) : pop (2 ^ i) ≤ 1 := by
  rcases Nat.lt_or_ge i 8 with h | h
  · revert i; decide
  · unfold pop
    rw [List.filter_eq_nil_iff.2 fun j hj => by rw [Nat.testBit_two_pow]; simp at hj ⊢; omega]
    simp
theorem Bas.rk {bs : List Nat} (h : Bas bs) : Rk (rk bs) where
  le := fun s => by obtain ⟨b, hb, e⟩ := rk_at h.ne s; rw [← e]; exact pop_sub (subB_iff.2 fun i hi => by rw [and_bit] at hi; simp at hi; exact hi.1)
  mono := fun s t hst => by
    obtain ⟨b, hb, e⟩ := rk_at h.ne s
    rw [← e]
    exact Nat.le_trans (pop_sub (subB_iff.2 fun i hi => by rw [and_bit] at hi ⊢; simp at hi ⊢; exact ⟨subB_iff.1 hst i hi.1, hi.2⟩)) (rk_ge t hb)
  step := fun s i => by
    obtain ⟨b, hb, e⟩ := rk_at h.ne (s ||| 2 ^ i)
    have g := rk_ge s hb
    have p := pop_or_and (s &&& b) (2 ^ i)
    have q := pop_pow i
    have m : pop ((s ||| 2 ^ i) &&& b) ≤ pop ((s &&& b) ||| 2 ^ i) := pop_sub (subB_iff.2 fun j hj => by rw [and_bit, or_bit] at hj; rw [or_bit, and_bit]; simp at hj ⊢; rcases hj with ⟨h1 | h1, h2⟩ <;> simp_all)
    omega
  sub := rk_sub h
end Go.Proofs.YtkebhhpfnalbfaaDoor
