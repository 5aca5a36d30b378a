/- Plain mathematics: EDMONDS: the largest set that is independent in two matroids; GREENE: of two bases any elements of the one can be swapped for some of the other. -/
import Derived.Test.YtkebhhpfnalbfaaDoorPlainRank
namespace Go.Proofs.YtkebhhpfnalbfaaDoor

theorem top_add {n s : Nat} (hs : s < 2 ^ n) : s ||| 2 ^ n = s + 2 ^ n := by
  have := Nat.two_pow_add_eq_or_of_lt hs 1
  rw [Nat.mul_one] at this
  rw [Nat.or_comm, Nat.add_comm, ← this]
theorem top_lt {n s : Nat} (hs : s < 2 ^ n) : s ||| 2 ^ n < 2 ^ (n + 1) := by rw [top_add hs, Nat.pow_succ]; omega
theorem up_lt {n s : Nat} (hs : s < 2 ^ n) : s < 2 ^ (n + 1) := by rw [Nat.pow_succ]; omega
theorem top_cpl {n s : Nat} (hs : s < 2 ^ n) : 2 ^ (n + 1) - 1 - s = (2 ^ n - 1 - s) ||| 2 ^ n := by
  rw [top_add (by omega), Nat.pow_succ]; omega
theorem top_cpl' {n s : Nat} (hs : s < 2 ^ n) : 2 ^ (n + 1) - 1 - (s ||| 2 ^ n) = 2 ^ n - 1 - s := by
  rw [top_add hs, Nat.pow_succ]; omega
theorem no_top {n s : Nat} (hs : s < 2 ^ n) : s.testBit n = false := Nat.testBit_lt_two_pow hs
theorem or_ltn {n s t : Nat} (hs : s < 2 ^ n) (ht : t < 2 ^ n) : s ||| t < 2 ^ n := Nat.or_lt_two_pow hs ht
theorem RkOn.down {n : Nat} {r : Nat → Nat} (h : RkOn (n + 1) r) : RkOn n r :=
  ⟨fun s hs => h.le s (up_lt hs), fun s t hs ht => h.mono s t (up_lt hs) (up_lt ht), fun s t hs ht => h.sub s t (up_lt hs) (up_lt ht)⟩
theorem RkOn.add {n : Nat} {r : Nat → Nat} (h : RkOn n r) {s t : Nat} (hs : s < 2 ^ n) (ht : t < 2 ^ n) : r (s ||| t) ≤ r s + r t := by
  have := h.sub s t hs ht; omega
theorem RkOn.con {n : Nat} {r : Nat → Nat} (hn : n < 8) (h : RkOn (n + 1) r) (h1 : 1 ≤ r (2 ^ n)) : RkOn n (fun s => r (s ||| 2 ^ n) - 1) := by
  have he : 2 ^ n < 2 ^ (n + 1) := by rw [Nat.pow_succ]; have := Nat.two_pow_pos n; omega
  have hge : ∀ s, s < 2 ^ n → 1 ≤ r (s ||| 2 ^ n) := fun s hs => Nat.le_trans h1 (h.mono _ _ he (top_lt hs) (subB_iff.2 fun i hi => by rw [Nat.testBit_or, hi]; simp))
  refine ⟨fun s hs => ?_, fun s t hs ht hst => ?_, fun s t hs ht => ?_⟩
  · have := h.le _ (top_lt hs)
    rw [pop_ad s (Nat.lt_of_lt_of_le hs (Nat.pow_le_pow_right (by omega) (by omega : n ≤ 8))) n hn (no_top hs)] at this
    omega
  · have := h.mono _ _ (top_lt hs) (top_lt ht) (subB_iff.2 fun i hi => by
      rw [Nat.testBit_or] at hi ⊢
      have := subB_iff.1 hst i
      cases e : s.testBit i <;> simp_all)
    omega
  · have h2 := h.sub _ _ (top_lt hs) (top_lt ht)
    have e1 : (s ||| 2 ^ n) ||| (t ||| 2 ^ n) = (s ||| t) ||| 2 ^ n := Nat.eq_of_testBit_eq fun j => by
      simp only [Nat.testBit_or]; cases s.testBit j <;> cases t.testBit j <;> cases (2 ^ n).testBit j <;> rfl
    have e2 : (s ||| 2 ^ n) &&& (t ||| 2 ^ n) = (s &&& t) ||| 2 ^ n := Nat.eq_of_testBit_eq fun j => by
      simp only [Nat.testBit_or, Nat.testBit_and]; cases s.testBit j <;> cases t.testBit j <;> cases (2 ^ n).testBit j <;> rfl
    rw [e1, e2] at h2
    have h3 := hge (s ||| t) (or_ltn hs ht)
    have h4 := hge (s &&& t) (and_ltn hs)
    have h5 := hge s hs
    have h6 := hge t ht
    omega
/-- EDMONDS: where no set bars it there is a set of k elements that is independent in both. -/
theorem isect : ∀ (n : Nat), n ≤ 8 → ∀ (r q : Nat → Nat), RkOn n r → RkOn n q → ∀ k, (∀ s, s < 2 ^ n → k ≤ r s + q (2 ^ n - 1 - s)) → ∃ i, i < 2 ^ n ∧ pop i = k ∧ r i = k ∧ q i = k := by
  intro n
  induction n with
  | zero =>
    intro _ r q hr hq k hk
    have h1 := hk 0 (by decide)
    have h2 := hr.zero
    have h3 := hq.zero
    have e : 2 ^ 0 - 1 - 0 = 0 := rfl
    rw [e, h2, h3] at h1
    have e2 : k = 0 := by omega
    subst e2
    exact ⟨0, by decide, by decide, h2, h3⟩
  | succ n ih =>
    intro hn r q hr hq k hk
    by_cases hA : ∀ s, s < 2 ^ n → k ≤ r s + q (2 ^ n - 1 - s)
    · obtain ⟨i, h1, h2⟩ := ih (by omega) r q hr.down hq.down k hA
      exact ⟨i, up_lt h1, h2⟩
    · obtain ⟨s, hs⟩ := Classical.not_forall.1 hA
      obtain ⟨hs, hlt⟩ := Classical.not_imp.1 hs
      have hlt : r s + q (2 ^ n - 1 - s) < k := by omega
      have hcs : 2 ^ n - 1 - s < 2 ^ n := by have := Nat.two_pow_pos n; omega
      have he : 2 ^ n < 2 ^ (n + 1) := by rw [Nat.pow_succ]; have := Nat.two_pow_pos n; omega
      have r1 : 1 ≤ r (2 ^ n) := by
        have h1 := hk (s ||| 2 ^ n) (top_lt hs)
        rw [top_cpl' hs] at h1
        have h2 := hr.add (up_lt hs) he
        omega
      have q1 : 1 ≤ q (2 ^ n) := by
        have h1 := hk s (up_lt hs)
        rw [top_cpl hs] at h1
        have h2 := hq.add (up_lt hcs) he
        omega
      obtain ⟨i, i1, i2, i3, i4⟩ := ih (by omega) _ _ (hr.con (by omega) r1) (hq.con (by omega) q1) (k - 1) (fun t ht => by
        have hct : 2 ^ n - 1 - t < 2 ^ n := by have := Nat.two_pow_pos n; omega
        have a1 := hr.sub s (t ||| 2 ^ n) (up_lt hs) (top_lt ht)
        have a2 := hq.sub (2 ^ n - 1 - s) ((2 ^ n - 1 - t) ||| 2 ^ n) (up_lt hcs) (top_lt hct)
        have b1 := hk (s &&& t) (up_lt (and_ltn hs))
        have b2 := hk ((s ||| t) ||| 2 ^ n) (top_lt (or_ltn hs ht))
        rw [top_cpl (and_ltn hs), cpl_and hs ht] at b1
        rw [top_cpl' (or_ltn hs ht), cpl_or hs ht] at b2
        have e1 : s ||| (t ||| 2 ^ n) = (s ||| t) ||| 2 ^ n := (Nat.or_assoc ..).symm
        have e2 : s &&& (t ||| 2 ^ n) = s &&& t := and_ad_out (no_top hs)
        have e3 : (2 ^ n - 1 - s) ||| ((2 ^ n - 1 - t) ||| 2 ^ n) = ((2 ^ n - 1 - s) ||| (2 ^ n - 1 - t)) ||| 2 ^ n := (Nat.or_assoc ..).symm
        have e4 : (2 ^ n - 1 - s) &&& ((2 ^ n - 1 - t) ||| 2 ^ n) = (2 ^ n - 1 - s) &&& (2 ^ n - 1 - t) := and_ad_out (no_top hcs)
        rw [e1, e2] at a1
        rw [e3, e4] at a2
        have c1 : 1 ≤ r (t ||| 2 ^ n) := Nat.le_trans r1 (hr.mono _ _ he (top_lt ht) (subB_iff.2 fun i hi => by rw [Nat.testBit_or, hi]; simp))
        have c2 : 1 ≤ q ((2 ^ n - 1 - t) ||| 2 ^ n) := Nat.le_trans q1 (hq.mono _ _ he (top_lt hct) (subB_iff.2 fun i hi => by rw [Nat.testBit_or, hi]; simp))
        omega)
      have p := pop_ad i (Nat.lt_of_lt_of_le i1 (Nat.pow_le_pow_right (by omega) (by omega : n ≤ 8))) n (by omega) (no_top i1)
      have c1 : 1 ≤ r (i ||| 2 ^ n) := Nat.le_trans r1 (hr.mono _ _ he (top_lt i1) (subB_iff.2 fun i hi => by rw [Nat.testBit_or, hi]; simp))
      have c2 : 1 ≤ q (i ||| 2 ^ n) := Nat.le_trans q1 (hq.mono _ _ he (top_lt i1) (subB_iff.2 fun i hi => by rw [Nat.testBit_or, hi]; simp))
      exact ⟨i ||| 2 ^ n, top_lt i1, by omega, by omega, by omega⟩

theorem difn_lt {n a b : Nat} (h : a < 2 ^ n) : dif a b < 2 ^ n := sub_lt (subB_iff.2 fun i hi => by rw [dif_bit] at hi; simp at hi; exact hi.1) h
theorem dif_subl (a b : Nat) : subB (dif a b) a = true := subB_iff.2 fun i hi => by rw [dif_bit] at hi; simp at hi; exact hi.1
theorem RkOn.gap {n : Nat} {r : Nat → Nat} (h : RkOn n r) {a b : Nat} (ha : a < 2 ^ n) (hb : b < 2 ^ n) : r a ≤ r b + pop (dif a b) := by
  have h1 := h.add hb (difn_lt (b := b) ha)
  have h2 := h.le _ (difn_lt (b := b) ha)
  have h3 := h.mono a (b ||| dif a b) ha (or_ltn hb (difn_lt ha)) (subB_iff.2 fun i hi => by rw [Nat.testBit_or, dif_bit, hi]; cases b.testBit i <;> rfl)
  omega
theorem pop_disj {a b : Nat} (h : a &&& b = 0) : pop (a ||| b) = pop a + pop b := by
  have := pop_or_and a b
  rw [h] at this
  have e : pop 0 = 0 := by decide
  omega
/-- GREENE: of two bases, for any elements of the one alone there are some of the other alone. -/
theorem greene {n : Nat} {l : List Nat} (hn : n ≤ 8) (hf : Fam n l) (hb : Bas l) {a b x : Nat} (ha : a ∈ l) (hbb : b ∈ l) (hx : subB x (dif a b) = true) :
    ∃ y, subB y (dif b a) = true ∧ pop y = pop x ∧ (dif a x ||| y) ∈ l ∧ (dif b y ||| x) ∈ l := by
  have self := basR_self hn hf hb
  rw [← self] at ha hbb
  obtain ⟨a1, a2, a3⟩ := mem_basR.1 ha
  obtain ⟨b1, b2, b3⟩ := mem_basR.1 hbb
  have R := hb.rkOn n
  generalize rk l = r at *
  have hx1 : x < 2 ^ n := sub_lt hx (difn_lt a1)
  have c1 : dif a x < 2 ^ n := difn_lt a1
  have xa : ∀ i, x.testBit i = true → a.testBit i = true ∧ b.testBit i = false := fun i hi => by
    have := subB_iff.1 hx i hi
    rw [dif_bit] at this
    simp at this
    exact this
  have ca : dif a x ||| x = a := Nat.eq_of_testBit_eq fun i => by
    rw [Nat.testBit_or, dif_bit]
    have := xa i
    cases e : x.testBit i <;> cases e2 : a.testBit i <;> simp_all
  have cx : dif a x &&& x = 0 := Nat.eq_of_testBit_eq fun i => by
    rw [Nat.testBit_and, dif_bit]
    cases e : x.testBit i <;> simp
  have pc := pop_disj cx
  rw [ca] at pc
  -- what is left of a is independent
  have rc : r (dif a x) = pop (dif a x) := by
    have h1 := R.add c1 hx1
    have h2 := R.le _ c1
    have h3 := R.le _ hx1
    rw [ca] at h1
    omega
  have rx : r x = pop x := by
    have h1 := R.add c1 hx1
    have h2 := R.le _ c1
    have h3 := R.le _ hx1
    rw [ca] at h1
    omega
  have hbs : ∀ s, s &&& b < 2 ^ n := fun s => Nat.lt_of_le_of_lt Nat.and_le_right b1
  have full : 2 ^ n - 1 < 2 ^ n := full_lt n
  have u1 : ∀ s, (s &&& b) ||| dif a x < 2 ^ n := fun s => or_ltn (hbs s) c1
  have u2 : ∀ s, dif b s ||| x < 2 ^ n := fun s => or_ltn (difn_lt b1) hx1
  have g1 : ∀ s, pop (dif a x) ≤ r ((s &&& b) ||| dif a x) := fun s => by
    rw [← rc]
    exact R.mono _ _ c1 (u1 s) (subB_iff.2 fun i hi => by rw [Nat.testBit_or, hi]; simp)
  have top : ∀ s, s < 2 ^ n → r s ≤ r (2 ^ n - 1) := fun s hs => R.mono _ _ hs full (full_sub hs)
  have g2 : ∀ s, r (2 ^ n - 1) ≤ pop (s &&& b) + r (dif b s ||| x) := fun s => by
    have h1 := R.gap b1 (u2 s)
    have h2 : pop (dif b (dif b s ||| x)) ≤ pop (s &&& b) := pop_sub (subB_iff.2 fun i hi => by
      rw [dif_bit, Nat.testBit_or, dif_bit] at hi
      rw [Nat.testBit_and]
      cases e : s.testBit i <;> cases e2 : b.testBit i <;> simp_all)
    omega
  have r1on : RkOn n (fun s => r ((s &&& b) ||| dif a x) - pop (dif a x)) := by
    refine ⟨fun s hs => ?_, fun s t hs ht hst => ?_, fun s t hs ht => ?_⟩
    · have h1 := R.add (hbs s) c1
      have h2 := R.le _ (hbs s)
      have h3 : pop (s &&& b) ≤ pop s := pop_sub (subB_iff.2 fun i hi => by rw [Nat.testBit_and] at hi; simp at hi; exact hi.1)
      omega
    · have := R.mono _ _ (u1 s) (u1 t) (subB_iff.2 fun i hi => by
        rw [Nat.testBit_or, Nat.testBit_and] at hi ⊢
        have := subB_iff.1 hst i
        cases e : s.testBit i <;> cases e2 : b.testBit i <;> simp_all)
      omega
    · have h1 := R.sub _ _ (u1 s) (u1 t)
      have e1 : ((s &&& b) ||| dif a x) ||| ((t &&& b) ||| dif a x) = ((s ||| t) &&& b) ||| dif a x := Nat.eq_of_testBit_eq fun i => by
        simp only [Nat.testBit_or, Nat.testBit_and]
        cases s.testBit i <;> cases t.testBit i <;> cases b.testBit i <;> cases (dif a x).testBit i <;> rfl
      have e2 : ((s &&& b) ||| dif a x) &&& ((t &&& b) ||| dif a x) = ((s &&& t) &&& b) ||| dif a x := Nat.eq_of_testBit_eq fun i => by
        simp only [Nat.testBit_or, Nat.testBit_and]
        cases s.testBit i <;> cases t.testBit i <;> cases b.testBit i <;> cases (dif a x).testBit i <;> rfl
      rw [e1, e2] at h1
      have := g1 s; have := g1 t; have := g1 (s ||| t); have := g1 (s &&& t)
      omega
  have r2on : RkOn n (fun s => pop (s &&& b) + r (dif b s ||| x) - r (2 ^ n - 1)) := by
    refine ⟨fun s hs => ?_, fun s t hs ht hst => ?_, fun s t hs ht => ?_⟩
    · have h1 := top _ (u2 s)
      have h3 : pop (s &&& b) ≤ pop s := pop_sub (subB_iff.2 fun i hi => by rw [Nat.testBit_and] at hi; simp at hi; exact hi.1)
      omega
    · have h1 := R.gap (u2 s) (u2 t)
      have h2 : pop (dif (dif b s ||| x) (dif b t ||| x)) + pop (s &&& b) ≤ pop (t &&& b) := by
        have hd : dif (dif b s ||| x) (dif b t ||| x) &&& (s &&& b) = 0 := Nat.eq_of_testBit_eq fun i => by
          simp only [Nat.testBit_and, dif_bit, Nat.testBit_or]
          cases s.testBit i <;> cases t.testBit i <;> cases b.testBit i <;> cases x.testBit i <;> simp
        rw [← pop_disj hd]
        refine pop_sub (subB_iff.2 fun i hi => ?_)
        simp only [Nat.testBit_and, dif_bit, Nat.testBit_or] at hi ⊢
        have := subB_iff.1 hst i
        cases e : s.testBit i <;> cases e1 : t.testBit i <;> cases e2 : b.testBit i <;> cases e3 : x.testBit i <;> simp_all
      omega
    · have h1 := R.sub _ _ (u2 s) (u2 t)
      have e1 : (dif b s ||| x) ||| (dif b t ||| x) = dif b (s &&& t) ||| x := Nat.eq_of_testBit_eq fun i => by
        simp only [Nat.testBit_or, Nat.testBit_and, dif_bit]
        cases s.testBit i <;> cases t.testBit i <;> cases b.testBit i <;> cases x.testBit i <;> rfl
      have e2 : (dif b s ||| x) &&& (dif b t ||| x) = dif b (s ||| t) ||| x := Nat.eq_of_testBit_eq fun i => by
        simp only [Nat.testBit_or, Nat.testBit_and, dif_bit]
        cases s.testBit i <;> cases t.testBit i <;> cases b.testBit i <;> cases x.testBit i <;> rfl
      rw [e1, e2] at h1
      have h2 := pop_or_and (s &&& b) (t &&& b)
      have e3 : (s &&& b) ||| (t &&& b) = (s ||| t) &&& b := Nat.eq_of_testBit_eq fun i => by
        simp only [Nat.testBit_or, Nat.testBit_and]
        cases s.testBit i <;> cases t.testBit i <;> cases b.testBit i <;> rfl
      have e4 : (s &&& b) &&& (t &&& b) = (s &&& t) &&& b := Nat.eq_of_testBit_eq fun i => by
        simp only [Nat.testBit_and]
        cases s.testBit i <;> cases t.testBit i <;> cases b.testBit i <;> rfl
      rw [e3, e4] at h2
      have := g2 s; have := g2 t; have := g2 (s ||| t); have := g2 (s &&& t)
      omega
  obtain ⟨y, y1, y2, y3, y4⟩ := isect n hn _ _ r1on r2on (pop x) (fun s hs => by
    have hc : 2 ^ n - 1 - s < 2 ^ n := by have := Nat.two_pow_pos n; omega
    have cb : ∀ i, (2 ^ n - 1 - s).testBit i = (decide (i < n) && !s.testBit i) := fun i => by
      rw [show 2 ^ n - 1 - s = 2 ^ n - (s + 1) by omega, Nat.testBit_two_pow_sub_succ hs]
    have bn : ∀ i, b.testBit i = true → i < n := fun i hi => by
      apply Classical.byContradiction; intro hh
      rw [Nat.testBit_lt_two_pow (Nat.lt_of_lt_of_le b1 (Nat.pow_le_pow_right (by omega) (by omega)))] at hi
      cases hi
    have e1 : dif b (2 ^ n - 1 - s) = s &&& b := Nat.eq_of_testBit_eq fun i => by
      rw [dif_bit, cb, Nat.testBit_and]
      have := bn i
      cases e : b.testBit i <;> cases e2 : s.testBit i <;> simp_all
    have e2 : (2 ^ n - 1 - s) &&& b = dif b s := Nat.eq_of_testBit_eq fun i => by
      rw [dif_bit, Nat.testBit_and, cb]
      have := bn i
      cases e : b.testBit i <;> cases e2 : s.testBit i <;> simp_all
    have h1 := R.sub _ _ (u1 s) (u2 (2 ^ n - 1 - s))
    show pop x ≤ (r ((s &&& b) ||| dif a x) - pop (dif a x)) + (pop ((2 ^ n - 1 - s) &&& b) + r (dif b (2 ^ n - 1 - s) ||| x) - r (2 ^ n - 1))
    rw [e1] at h1 ⊢
    rw [e2]
    have k1 : ((s &&& b) ||| dif a x) ||| ((s &&& b) ||| x) = (s &&& b) ||| a := Nat.eq_of_testBit_eq fun i => by
      simp only [Nat.testBit_or, Nat.testBit_and, dif_bit]
      have := xa i
      cases e1 : s.testBit i <;> cases e2 : b.testBit i <;> cases e3 : a.testBit i <;> cases e4 : x.testBit i <;> simp_all
    have k2 : ((s &&& b) ||| dif a x) &&& ((s &&& b) ||| x) = s &&& b := Nat.eq_of_testBit_eq fun i => by
      simp only [Nat.testBit_or, Nat.testBit_and, dif_bit]
      cases s.testBit i <;> cases b.testBit i <;> cases a.testBit i <;> cases x.testBit i <;> rfl
    rw [k1, k2] at h1
    have h2 := R.mono a _ a1 (or_ltn (hbs s) a1) (subB_iff.2 fun i hi => by rw [Nat.testBit_or, hi]; simp : subB a ((s &&& b) ||| a) = true)
    have h3 : r (s &&& b) = pop (s &&& b) := by
      have i1 := R.gap b1 (hbs s)
      have i2 := R.le _ (hbs s)
      have i3 := pop_dif b (s &&& b)
      have e5 : b &&& (s &&& b) = s &&& b := Nat.eq_of_testBit_eq fun i => by
        simp only [Nat.testBit_and]
        cases s.testBit i <;> cases b.testBit i <;> rfl
      rw [e5] at i3
      omega
    have h4 := pop_dif b s
    rw [Nat.and_comm] at h4
    have := g1 s
    have := g2 (2 ^ n - 1 - s)
    rw [e2, e1] at this
    omega)
  have q1 := g1 y
  have q2 := g2 y
  -- y lies in b
  have t1 := R.add (hbs y) c1
  have t2 := R.le _ (hbs y)
  have t3 : pop (y &&& b) ≤ pop y := pop_sub (subB_iff.2 fun i hi => by rw [Nat.testBit_and] at hi; simp at hi; exact hi.1)
  have yb : y &&& b = y := eq_of_pop (lt256 hn y1) (subB_iff.2 fun i hi => by rw [Nat.testBit_and] at hi; simp at hi; exact hi.1) (by omega)
  rw [yb] at q1 q2 y3 y4
  have t4 := R.le _ (or_ltn y1 c1)
  have t5 := pop_or_and y (dif a x)
  have t6 : y &&& dif a x = 0 := by
    apply Classical.byContradiction; intro hh
    have : 0 < pop (y &&& dif a x) := by
      apply Nat.pos_of_ne_zero; intro h0
      exact hh (eq_of_pop (lt256 hn (and_ltn y1)) (subB_iff.2 fun i hi => by simp at hi) (by rw [h0]; omega)).symm
    omega
  have t6b : ∀ i, y.testBit i = true → b.testBit i = true ∧ a.testBit i = false := fun i hi => by
    have h1 : b.testBit i = true := by
      have := congrArg (·.testBit i) yb
      simp only [Nat.testBit_and] at this
      rw [hi] at this
      simpa using this
    refine ⟨h1, ?_⟩
    have h2 := congrArg (·.testBit i) t6
    simp only [Nat.testBit_and, dif_bit, Nat.zero_testBit] at h2
    have h3 := xa i
    cases e : a.testBit i <;> cases e2 : x.testBit i <;> simp_all
  refine ⟨y, subB_iff.2 fun i hi => by rw [dif_bit]; obtain ⟨h1, h2⟩ := t6b i hi; rw [h1, h2]; rfl, y2, ?_, ?_⟩
  · rw [← self]
    have e1 : dif a x ||| y = y ||| dif a x := Nat.or_comm ..
    rw [e1]
    have h0 := pop_disj t6
    have h1 := top _ (or_ltn y1 c1)
    refine mem_basR.2 ⟨or_ltn y1 c1, ?_, ?_⟩ <;> omega
  · rw [← self]
    have h0 : dif b y &&& x = 0 := Nat.eq_of_testBit_eq fun i => by
      rw [Nat.testBit_and, dif_bit]
      have := xa i
      cases e : x.testBit i <;> simp_all
    have h1 := pop_disj h0
    have h2 := pop_dif b y
    rw [Nat.and_comm, yb] at h2
    have h3 := top _ (u2 y)
    have h4 := R.le _ (u2 y)
    refine mem_basR.2 ⟨u2 y, ?_, ?_⟩ <;> omega
end Go.Proofs.YtkebhhpfnalbfaaDoor
