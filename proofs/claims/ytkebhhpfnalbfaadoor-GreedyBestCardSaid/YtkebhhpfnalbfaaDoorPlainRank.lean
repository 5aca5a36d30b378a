/- Plain mathematics: ranks that grow slower and slower make the bases of a matroid; its ranks are these. -/
import Derived.Test.YtkebhhpfnalbfaaDoorPlainMade
namespace Go.Proofs.YtkebhhpfnalbfaaDoor

theorem ind_down {r : Nat → Nat} (h : Rk r) {a b : Nat} (hi : r b = pop b) (hab : subB a b = true) : r a = pop a := by
  have h1 := h.sub a (dif b a)
  have h2 := h.le (dif b a)
  have h3 := h.le a
  have e1 : a ||| dif b a = b := Nat.eq_of_testBit_eq fun j => by
    rw [Nat.testBit_or, dif_bit]
    have := subB_iff.1 hab j
    cases e : a.testBit j <;> cases e2 : b.testBit j <;> simp_all
  have p := pop_dif b a
  have e2 : b &&& a = a := by rw [Nat.and_comm]; exact sub_and hab
  rw [e1] at h1
  rw [e2] at p
  omega
theorem ind_in {r : Nat → Nat} (h : Rk r) : ∀ (s : Nat), s < 256 → ∃ t, subB t s = true ∧ r t = pop t ∧ r t = r s := by
  intro s
  induction s using Nat.strongRecOn with
  | ind s ih =>
    intro hs
    by_cases hi : r s = pop s
    · exact ⟨s, sub_refl s, hi, rfl⟩
    · have hz : ∃ z, s.testBit z = true ∧ r (rm s z) = r s := by
        apply Classical.byContradiction
        intro hno
        exact hi (h.ind_of s hs fun z hz e => hno ⟨z, hz, e⟩)
      obtain ⟨z, hz, e⟩ := hz
      have h1 := rm_lt hs hz
      obtain ⟨t, h2, h3, h4⟩ := ih (rm s z) h1 (by omega)
      exact ⟨t, sub_trans h2 (rm_sub s z), h3, by omega⟩
theorem ind_out {n : Nat} {r : Nat → Nat} (hn : n ≤ 8) (h : Rk r) : ∀ (k s : Nat), s < 2 ^ n → r s = pop s → r (2 ^ n - 1) - r s ≤ k → ∃ b, b < 2 ^ n ∧ subB s b = true ∧ r b = pop b ∧ r b = r (2 ^ n - 1) := by
  intro k
  induction k with
  | zero =>
    intro s hs hi hk
    have := h.mono _ _ (full_sub hs)
    exact ⟨s, hs, sub_refl s, hi, by omega⟩
  | succ k ih =>
    intro s hs hi hk
    by_cases e : r s = r (2 ^ n - 1)
    · exact ⟨s, hs, sub_refl s, hi, e⟩
    · obtain ⟨j, hj, hsj, h1⟩ := ind_up hn h hs hi e
      have h2 := pop_ad s (lt256 hn hs) j (by omega) hsj
      obtain ⟨b, h3, h4, h5⟩ := ih (s ||| 2 ^ j) (ad_lt hs hj) h1 (by omega)
      exact ⟨b, h3, sub_trans (sub_or s _) h4, h5⟩
/-- The bases that ranks make. -/
def basR (n : Nat) (r : Nat → Nat) : List Nat := (List.range (2 ^ n)).filter fun s => r s == pop s && r s == r (2 ^ n - 1)
theorem mem_basR {n s : Nat} {r : Nat → Nat} : s ∈ basR n r ↔ s < 2 ^ n ∧ r s = pop s ∧ r s = r (2 ^ n - 1) := by unfold basR; simp
theorem basR_fam (n : Nat) (r : Nat → Nat) : Fam n (basR n r) := Fam.range n _
theorem basR_bas {n : Nat} {r : Nat → Nat} (hn : n ≤ 8) (h : Rk r) : Bas (basR n r) := by
  refine ⟨(basR_fam n r).lt256 hn, fun a ha b hb => ?_, fun a ha b hb x hx hbx => ?_, ?_⟩
  · rw [mem_basR] at ha hb
    omega
  · rw [mem_basR] at ha hb
    have a8 := lt256 hn ha.1
    have h1 : r (rm a x) = pop (rm a x) := ind_down h ha.2.1 (rm_sub a x)
    have h2 := pop_rm' a8 hx
    have hlt := sub_lt (rm_sub a x) ha.1
    apply Classical.byContradiction
    intro hno
    have h3 := h.adds (s := rm a x) b (lt256 hn hb.1) fun y hy => by
      apply Classical.byContradiction
      intro hne
      have h4 := h.step (rm a x) y
      have h5 := h.mono _ _ (sub_or (rm a x) (2 ^ y))
      have hy1 : (rm a x).testBit y = false := by
        cases e : (rm a x).testBit y
        · rfl
        · exact absurd (by rw [ad_in e]) hne
      have hxy : x ≠ y := fun e => by subst e; rw [hbx] at hy; cases hy
      have hay : a.testBit y = false := by rw [rm_bit] at hy1; simpa [hxy] using hy1
      have h6 := pop_ad (rm a x) (lt256 hn hlt) y (bit8 (lt256 hn hb.1) hy) hy1
      refine hno ⟨y, hy, hay, mem_basR.2 ⟨ad_lt hlt (bit_n hb.1 hy), by omega, by omega⟩⟩
    have h7 := h.mono b (rm a x ||| b) (by rw [Nat.or_comm]; exact sub_or b _)
    omega
  · obtain ⟨b, h1, _, h2, h3⟩ := ind_out hn h _ 0 (Nat.two_pow_pos n) (by rw [h.zero]; decide) (Nat.le_refl _)
    intro e
    have : b ∈ basR n r := mem_basR.2 ⟨h1, h2, h3⟩
    rw [e] at this
    cases this
theorem basR_rk {n : Nat} {r : Nat → Nat} (hn : n ≤ 8) (h : Rk r) {s : Nat} (hs : s < 2 ^ n) : rk (basR n r) s = r s := by
  have hb := basR_bas hn h
  apply Nat.le_antisymm
  · obtain ⟨b, hb1, e⟩ := rk_at hb.ne s
    rw [mem_basR] at hb1
    have h1 : r (s &&& b) = pop (s &&& b) := ind_down h hb1.2.1 (subB_iff.2 fun i hi => by rw [and_bit] at hi; simp at hi; exact hi.2)
    have h2 := h.mono (s &&& b) s (subB_iff.2 fun i hi => by rw [and_bit] at hi; simp at hi; exact hi.1)
    omega
  · obtain ⟨t, h1, h2, h3⟩ := ind_in h s (lt256 hn hs)
    obtain ⟨b, h4, h5, h6⟩ := ind_out hn h _ t (sub_lt h1 hs) h2 (Nat.le_refl _)
    have h7 := rk_ge s (mem_basR.2 ⟨h4, h6⟩ : b ∈ basR n r)
    have h8 : pop t ≤ pop (s &&& b) := pop_sub (subB_iff.2 fun i hi => by rw [and_bit, subB_iff.1 h1 i hi, subB_iff.1 h5 i hi]; rfl)
    omega

/-- Ranks of the sets of n elements alone. -/
structure RkOn (n : Nat) (r : Nat → Nat) : Prop where
  le : ∀ s, s < 2 ^ n → r s ≤ pop s
  mono : ∀ s t, s < 2 ^ n → t < 2 ^ n → subB s t = true → r s ≤ r t
  sub : ∀ s t, s < 2 ^ n → t < 2 ^ n → r (s ||| t) + r (s &&& t) ≤ r s + r t
theorem mask_lt (n s : Nat) : s &&& (2 ^ n - 1) < 2 ^ n := Nat.lt_of_le_of_lt Nat.and_le_right (full_lt n)
theorem mask_in {n s : Nat} (hs : s < 2 ^ n) : s &&& (2 ^ n - 1) = s := sub_and (full_sub hs)
theorem mask_sub (n s : Nat) : subB (s &&& (2 ^ n - 1)) s = true := subB_iff.2 fun i hi => by rw [and_bit] at hi; simp at hi; exact hi.1
theorem RkOn.rk {n : Nat} {r : Nat → Nat} (h : RkOn n r) : Rk fun s => r (s &&& (2 ^ n - 1)) := by
  have hsub : ∀ s t, r ((s ||| t) &&& (2 ^ n - 1)) + r (s &&& t &&& (2 ^ n - 1)) ≤ r (s &&& (2 ^ n - 1)) + r (t &&& (2 ^ n - 1)) := fun s t => by
    have h1 := h.sub _ _ (mask_lt n s) (mask_lt n t)
    have e1 : s &&& (2 ^ n - 1) ||| t &&& (2 ^ n - 1) = (s ||| t) &&& (2 ^ n - 1) := Nat.eq_of_testBit_eq fun j => by
      simp only [Nat.testBit_or, Nat.testBit_and]; cases s.testBit j <;> cases t.testBit j <;> simp
    have e2 : s &&& (2 ^ n - 1) &&& (t &&& (2 ^ n - 1)) = s &&& t &&& (2 ^ n - 1) := Nat.eq_of_testBit_eq fun j => by
      simp only [Nat.testBit_and]; cases s.testBit j <;> cases t.testBit j <;> simp
    rw [e1, e2] at h1
    exact h1
  have hle : ∀ s, r (s &&& (2 ^ n - 1)) ≤ pop s := fun s => Nat.le_trans (h.le _ (mask_lt n s)) (pop_sub (mask_sub n s))
  refine ⟨hle, fun s t hst => h.mono _ _ (mask_lt n s) (mask_lt n t) (subB_iff.2 fun i hi => ?_), fun s i => ?_, hsub⟩
  · rw [and_bit] at hi ⊢
    simp only [Bool.and_eq_true] at hi ⊢
    exact ⟨subB_iff.1 hst i hi.1, hi.2⟩
  · have h1 := hsub s (2 ^ i)
    have h2 := hle (2 ^ i)
    have h3 := pop_pow i
    show r ((s ||| 2 ^ i) &&& (2 ^ n - 1)) ≤ r (s &&& (2 ^ n - 1)) + 1
    omega
theorem basR_mask {n : Nat} {r : Nat → Nat} : basR n (fun s => r (s &&& (2 ^ n - 1))) = basR n r := by
  unfold basR
  refine List.filter_congr fun s hs => ?_
  rw [List.mem_range] at hs
  dsimp only
  rw [mask_in hs, mask_in (full_lt n)]
theorem RkOn.bas {n : Nat} {r : Nat → Nat} (hn : n ≤ 8) (h : RkOn n r) : Bas (basR n r) := by
  have := basR_bas hn h.rk
  rwa [basR_mask] at this
theorem RkOn.rk_eq {n : Nat} {r : Nat → Nat} (hn : n ≤ 8) (h : RkOn n r) {s : Nat} (hs : s < 2 ^ n) : Go.Proofs.YtkebhhpfnalbfaaDoor.rk (basR n r) s = r s := by
  have := basR_rk hn h.rk hs
  rw [basR_mask] at this
  rw [this, mask_in hs]
theorem Bas.rkOn {l : List Nat} (h : Bas l) (n : Nat) : RkOn n (Go.Proofs.YtkebhhpfnalbfaaDoor.rk l) := ⟨fun s _ => h.rk.le s, fun s t _ _ => h.rk.mono s t, fun s t _ _ => h.rk.sub s t⟩
theorem basR_self {n : Nat} {l : List Nat} (hn : n ≤ 8) (hf : Fam n l) (hb : Bas l) : basR n (rk l) = l := rank_list hn hf hb
theorem basR_congr {n : Nat} {r r' : Nat → Nat} (h : ∀ s, s < 2 ^ n → r s = r' s) : basR n r = basR n r' := by
  unfold basR
  refine List.filter_congr fun s hs => ?_
  rw [List.mem_range] at hs
  rw [h s hs, h _ (full_lt n)]
/-- Two matroids with the same ranks are the same. -/
theorem bas_ext {n : Nat} {l k : List Nat} (hn : n ≤ 8) (hf : Fam n l) (hb : Bas l) (kf : Fam n k) (kb : Bas k) (h : ∀ s, s < 2 ^ n → rk l s = rk k s) : l = k := by
  rw [← basR_self hn hf hb, ← basR_self hn kf kb, basR_congr h]

/-- The dual's ranks. -/
def dualR (n : Nat) (r : Nat → Nat) (s : Nat) : Nat := pop s + r (2 ^ n - 1 - s) - r (2 ^ n - 1)
theorem cpl_or {n s t : Nat} (hs : s < 2 ^ n) (ht : t < 2 ^ n) : 2 ^ n - 1 - (s ||| t) = (2 ^ n - 1 - s) &&& (2 ^ n - 1 - t) := Nat.eq_of_testBit_eq fun j => by
  rw [cpl_bit (Nat.or_lt_two_pow hs ht), and_bit, cpl_bit hs, cpl_bit ht, Nat.testBit_or]
  cases decide (j < n) <;> cases s.testBit j <;> cases t.testBit j <;> rfl
theorem and_ltn {n s t : Nat} (hs : s < 2 ^ n) : s &&& t < 2 ^ n := Nat.lt_of_le_of_lt Nat.and_le_left hs
theorem cpl_and {n s t : Nat} (hs : s < 2 ^ n) (ht : t < 2 ^ n) : 2 ^ n - 1 - (s &&& t) = (2 ^ n - 1 - s) ||| (2 ^ n - 1 - t) := Nat.eq_of_testBit_eq fun j => by
  rw [cpl_bit (and_ltn hs), Nat.testBit_or, cpl_bit hs, cpl_bit ht, and_bit]
  cases decide (j < n) <;> cases s.testBit j <;> cases t.testBit j <;> rfl
theorem cpl_union {n s : Nat} (hs : s < 2 ^ n) : s ||| (2 ^ n - 1 - s) = 2 ^ n - 1 := Nat.eq_of_testBit_eq fun j => by
  rw [Nat.testBit_or, cpl_bit hs, full_bit]
  cases e : s.testBit j
  · simp
  · simp [bit_n hs e]
theorem cpl_meet {n s : Nat} (hs : s < 2 ^ n) : s &&& (2 ^ n - 1 - s) = 0 := Nat.eq_of_testBit_eq fun j => by
  rw [and_bit, cpl_bit hs, Nat.zero_testBit]
  cases s.testBit j <;> simp
theorem pop_cpl {n s : Nat} (hs : s < 2 ^ n) : pop s + pop (2 ^ n - 1 - s) = pop (2 ^ n - 1) := by
  have h := pop_or_and s (2 ^ n - 1 - s)
  rw [cpl_union hs, cpl_meet hs] at h
  have : pop 0 = 0 := by decide
  omega
theorem cpl_subs {n s t : Nat} (hs : s < 2 ^ n) (ht : t < 2 ^ n) (h : subB s t = true) : subB (2 ^ n - 1 - t) (2 ^ n - 1 - s) = true := subB_iff.2 fun i hi => by
  rw [cpl_bit ht] at hi
  rw [cpl_bit hs]
  have := subB_iff.1 h i
  cases e : s.testBit i <;> simp_all
theorem dual_ge {n : Nat} {r : Nat → Nat} (h : RkOn n r) {s : Nat} (hs : s < 2 ^ n) : r (2 ^ n - 1) ≤ pop s + r (2 ^ n - 1 - s) := by
  have h1 := h.sub s _ hs (cpl_lt (n := n) (s := s))
  rw [cpl_union hs] at h1
  have := h.le s hs
  omega
theorem dual_add {n : Nat} {r : Nat → Nat} (h : RkOn n r) {s : Nat} (hs : s < 2 ^ n) : dualR n r s + r (2 ^ n - 1) = pop s + r (2 ^ n - 1 - s) := by
  have := dual_ge h hs
  unfold dualR
  omega
theorem dual_rkOn {n : Nat} {r : Nat → Nat} (h : RkOn n r) : RkOn n (dualR n r) := by
  refine ⟨fun s hs => ?_, fun s t hs ht hst => ?_, fun s t hs ht => ?_⟩
  · have h1 := dual_add h hs
    have h2 := h.mono _ _ (cpl_lt (n := n) (s := s)) (full_lt n) (full_sub cpl_lt)
    omega
  · have h1 := dual_add h hs
    have h2 := dual_add h ht
    have h3 := h.sub (2 ^ n - 1 - t) (dif t s) cpl_lt (sub_lt (subB_iff.2 fun i hi => by rw [dif_bit] at hi; simp at hi; exact hi.1) ht)
    have h4 := h.le (dif t s) (sub_lt (subB_iff.2 fun i hi => by rw [dif_bit] at hi; simp at hi; exact hi.1) ht)
    have e : (2 ^ n - 1 - t) ||| dif t s = 2 ^ n - 1 - s := Nat.eq_of_testBit_eq fun j => by
      rw [Nat.testBit_or, cpl_bit ht, cpl_bit hs, dif_bit]
      have h5 := subB_iff.1 hst j
      have h6 := bit_n ht (i := j)
      cases e1 : s.testBit j <;> cases e2 : t.testBit j <;> simp_all
    have p := pop_dif t s
    have e2 : t &&& s = s := by rw [Nat.and_comm]; exact sub_and hst
    rw [e] at h3
    rw [e2] at p
    omega
  · have h1 := dual_add h hs
    have h2 := dual_add h ht
    have h3 := dual_add h (Nat.or_lt_two_pow hs ht)
    have h4 := dual_add h (and_ltn (t := t) hs)
    have h5 := h.sub _ _ (cpl_lt (n := n) (s := s)) (cpl_lt (n := n) (s := t))
    rw [cpl_or hs ht] at h3
    rw [cpl_and hs ht] at h4
    have p := pop_or_and s t
    omega
theorem cpl_full (n : Nat) : 2 ^ n - 1 - (2 ^ n - 1) = 0 := by omega
theorem RkOn.zero {n : Nat} {r : Nat → Nat} (h : RkOn n r) : r 0 = 0 := by
  have := h.le 0 (Nat.two_pow_pos n)
  have h0 : pop 0 = 0 := by decide
  omega
theorem basR_cmp {n : Nat} {l : List Nat} (hn : n ≤ 8) (hf : Fam n l) (hb : Bas l) : basR n (dualR n (rk l)) = cmp n l := by
  refine sorted_ext (basR_fam n _).up (cmp_fam hf).up fun s => ?_
  rw [mem_basR, mem_cmp hf.lt]
  refine and_congr_right fun hs => ?_
  have h1 := dual_add (hb.rkOn n) hs
  have h2 := dual_add (hb.rkOn n) (full_lt n)
  rw [cpl_full, (hb.rkOn n).zero] at h2
  have h3 := pop_cpl hs
  rw [bas_mem hn hf hb cpl_lt]
  have h4 := hb.rk.mono _ _ (full_sub (cpl_lt (n := n) (s := s)))
  have h5 := hb.rk.le (2 ^ n - 1 - s)
  omega
theorem dual_bas {n : Nat} {l : List Nat} (hn : n ≤ 8) (hf : Fam n l) (hb : Bas l) : Bas (cmp n l) := by
  rw [← basR_cmp hn hf hb]
  exact (dual_rkOn (hb.rkOn n)).bas hn
theorem dual_rk {n : Nat} {l : List Nat} (hn : n ≤ 8) (hf : Fam n l) (hb : Bas l) {s : Nat} (hs : s < 2 ^ n) : rk (cmp n l) s = dualR n (rk l) s := by
  rw [← basR_cmp hn hf hb]
  exact (dual_rkOn (hb.rkOn n)).rk_eq hn hs
end Go.Proofs.YtkebhhpfnalbfaaDoor
