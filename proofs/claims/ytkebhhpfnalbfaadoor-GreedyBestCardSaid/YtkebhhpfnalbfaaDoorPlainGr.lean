/- Plain mathematics: the greedy basis by an order (RADO, EDMONDS, GALE). -/
import Derived.Test.YtkebhhpfnalbfaaDoorPlainRen
import Derived.Test.YtkebhhpfnalbfaaDoorPlainIsect
namespace Go.Proofs.YtkebhhpfnalbfaaDoor

/-- What is taken in the end. -/
def grS (r : Nat → Nat) (s : Nat) (o : List Nat) : Nat := o.foldl (fun s x => if r (s ||| 2 ^ x) = pop (s ||| 2 ^ x) then s ||| 2 ^ x else s) s
/-- What is taken behind each that is. -/
def gr (r : Nat → Nat) : Nat → List Nat → List Nat
  | _, [] => []
  | s, x :: o => if r (s ||| 2 ^ x) = pop (s ||| 2 ^ x) then (s ||| 2 ^ x) :: gr r (s ||| 2 ^ x) o else gr r s o
/-- The elements of a list, as a set. -/
def setL (o : List Nat) : Nat := o.foldl (fun s x => s ||| 2 ^ x) 0
theorem setL_snoc (o : List Nat) (x : Nat) : setL (o ++ [x]) = setL o ||| 2 ^ x := by unfold setL; rw [List.foldl_append]; rfl
theorem grS_snoc (r : Nat → Nat) (s : Nat) (o : List Nat) (x : Nat) : grS r s (o ++ [x]) = if r (grS r s o ||| 2 ^ x) = pop (grS r s o ||| 2 ^ x) then grS r s o ||| 2 ^ x else grS r s o := by
  unfold grS; rw [List.foldl_append]; rfl
theorem grS_cons (r : Nat → Nat) (s x : Nat) (o : List Nat) : grS r s (x :: o) = grS r (if r (s ||| 2 ^ x) = pop (s ||| 2 ^ x) then s ||| 2 ^ x else s) o := rfl
theorem setL_bit : ∀ (k : Nat) (o : List Nat), o.length = k → ∀ j, (setL o).testBit j = decide (j ∈ o)
  | 0, o, h, j => by
    obtain rfl : o = [] := List.length_eq_zero_iff.1 h
    simp [setL]
  | k + 1, o, h, j => by
    rcases snoc_cases (p := o) with rfl | ⟨q, x, rfl⟩
    · simp at h
    · rw [setL_snoc, or_bit, setL_bit k q (by simpa using h) j]
      by_cases e : x = j
      · subst e; simp
      · have e' : ¬ j = x := fun h => e h.symm
        simp [e, e']
theorem setL_has (o : List Nat) (j : Nat) : (setL o).testBit j = decide (j ∈ o) := setL_bit _ o rfl j
theorem gr_last (r : Nat → Nat) : ∀ (o : List Nat) (s : Nat), (s :: gr r s o).getLast? = some (grS r s o)
  | [], s => rfl
  | x :: o, s => by
    rw [grS_cons]
    unfold gr
    by_cases h : r (s ||| 2 ^ x) = pop (s ||| 2 ^ x)
    · rw [if_pos h, if_pos h, List.getLast?_cons_of_ne_nil (by simp)]
      exact gr_last r o _
    · rw [if_neg h, if_neg h]
      exact gr_last r o s
theorem grS_sub (r : Nat → Nat) : ∀ (o : List Nat) (s : Nat), subB s (grS r s o) = true
  | [], s => sub_refl s
  | x :: o, s => by
    rw [grS_cons]
    by_cases h : r (s ||| 2 ^ x) = pop (s ||| 2 ^ x)
    · rw [if_pos h]; exact sub_trans (sub_or s _) (grS_sub r o _)
    · rw [if_neg h]; exact grS_sub r o s
theorem grS_out (r : Nat → Nat) {j : Nat} : ∀ (o : List Nat) (s : Nat), j ∉ o → (grS r s o).testBit j = s.testBit j
  | [], s, _ => rfl
  | x :: o, s, h => by
    rw [List.mem_cons, not_or] at h
    rw [grS_cons, grS_out r o _ h.2]
    split
    · rw [or_bit]; have : ¬ x = j := fun e => h.1 e.symm
      simp [this]
    · rfl
theorem grS_split (r : Nat → Nat) (s : Nat) (p q : List Nat) : grS r s (p ++ q) = grS r (grS r s p) q := by unfold grS; rw [List.foldl_append]
/-- What is taken is as large as may be, of those that have come. -/
theorem gr_span {r : Nat → Nat} (h : Rk r) : ∀ (k : Nat) (o : List Nat), o.length = k → (∀ x ∈ o, x < 8) → subB (grS r 0 o) (setL o) = true ∧ r (grS r 0 o) = pop (grS r 0 o) ∧ r (setL o) = r (grS r 0 o)
  | 0, o, hk, _ => by
    obtain rfl : o = [] := List.length_eq_zero_iff.1 hk
    have h0 := h.le 0
    have e : pop 0 = 0 := by decide
    have h1 : r 0 = pop 0 := by omega
    exact ⟨sub_refl 0, h1, rfl⟩
  | k + 1, o, hk, h8 => by
    rcases snoc_cases (p := o) with rfl | ⟨q, x, rfl⟩
    · simp at hk
    · obtain ⟨i1, i2, i3⟩ := gr_span h k q (by simpa using hk) (fun y hy => h8 y (by simp [hy]))
      have hx8 := h8 x (by simp)
      rw [grS_snoc, setL_snoc]
      have hU : setL q < 256 := lt_of_bits (n := 8) fun j hj => by rw [setL_has] at hj; exact h8 j (by simp at hj; simp [hj])
      have hS : grS r 0 q < 256 := sub_lt (n := 8) i1 hU
      generalize grS r 0 q = S at *
      generalize setL q = U at *
      by_cases hi : r (S ||| 2 ^ x) = pop (S ||| 2 ^ x)
      · rw [if_pos hi]
        refine ⟨sub_ad i1, hi, ?_⟩
        have h1 := h.mono _ _ (sub_ad (i := x) i1)
        have h2 := h.sub U (S ||| 2 ^ x)
        have e1 : U ||| (S ||| 2 ^ x) = U ||| 2 ^ x := Nat.eq_of_testBit_eq fun j => by
          rw [Nat.testBit_or, or_bit, or_bit]
          have := subB_iff.1 i1 j
          cases e : S.testBit j <;> simp_all
        have h3 := h.mono S (U &&& (S ||| 2 ^ x)) (subB_iff.2 fun j hj => by
          rw [Nat.testBit_and, or_bit, subB_iff.1 i1 j hj, hj]; rfl)
        rw [e1] at h2
        omega
      · rw [if_neg hi]
        refine ⟨sub_trans i1 (sub_or _ _), i2, ?_⟩
        have hSx : S.testBit x = false := by
          cases e : S.testBit x with
          | false => rfl
          | true => rw [ad_in e] at hi; exact absurd i2 hi
        have p1 := pop_ad S hS x hx8 hSx
        have l1 := h.le (S ||| 2 ^ x)
        have m1 := h.mono _ _ (sub_or S (2 ^ x))
        have := h.add i1 (i := x) (by omega)
        omega
/-- How many of a list's elements a set has. -/
theorem cnt_pop {s : Nat} : ∀ (k : Nat) (o : List Nat), o.length = k → (∀ x ∈ o, x < 8) → o.Nodup → (o.filter fun x => s.testBit x).length = pop (s &&& setL o)
  | 0, o, hk, _, _ => by
    obtain rfl : o = [] := List.length_eq_zero_iff.1 hk
    have : s &&& setL [] = 0 := by unfold setL; simp
    rw [this]
    show 0 = pop 0
    decide
  | k + 1, o, hk, h8, hd => by
    rcases snoc_cases (p := o) with rfl | ⟨q, x, rfl⟩
    · simp at hk
    · have hq : q.Nodup := (List.nodup_append.1 hd).1
      have hxq : x ∉ q := fun hx => (List.nodup_append.1 hd).2.2 x hx x (by simp) rfl
      have ih := cnt_pop (s := s) k q (by simpa using hk) (fun y hy => h8 y (by simp [hy])) hq
      have hx8 := h8 x (by simp)
      have hU : setL q < 256 := lt_of_bits (n := 8) fun j hj => by rw [setL_has] at hj; exact h8 j (by simp at hj; simp [hj])
      rw [List.filter_append, List.length_append, ih, setL_snoc]
      have hux : (setL q).testBit x = false := by rw [setL_has]; simp [hxq]
      cases e : s.testBit x with
      | true =>
        rw [and_ad_in e, pop_ad _ (Nat.lt_of_le_of_lt Nat.and_le_right hU) x hx8 (by rw [Nat.testBit_and, hux]; simp)]
        simp [e]
      | false =>
        rw [and_ad_out e]
        simp [e]
theorem cnt_full {n : Nat} (hn : n ≤ 8) {s : Nat} (hs : s < 2 ^ n) {o : List Nat} (hB : Beg n o) (hall : ∀ i, i < n → i ∈ o) : (o.filter fun x => s.testBit x).length = pop s := by
  rw [cnt_pop _ o rfl (fun x hx => Nat.lt_of_lt_of_le (hB.lt x hx) hn) hB.once]
  congr 1
  refine Nat.eq_of_testBit_eq fun j => ?_
  rw [Nat.testBit_and, setL_has]
  cases e : s.testBit j with
  | false => rfl
  | true => simp [hall j (bit_n hs e)]
/-- GALE: of each beginning of the order the greedy set has as many elements as any independent one, or more. -/
theorem gr_dom {r : Nat → Nat} (h : Rk r) {n : Nat} (hn : n ≤ 8) {o : List Nat} (hB : Beg n o) {t : Nat} (hi : r t = pop t) : ∀ p, p <+: o → (p.filter fun x => t.testBit x).length ≤ (p.filter fun x => (grS r 0 o).testBit x).length := by
  rintro p ⟨q, rfl⟩
  have h8 : ∀ x ∈ p, x < 8 := fun x hx => Nat.lt_of_lt_of_le (hB.lt x (by simp [hx])) hn
  have hd := (List.nodup_append.1 hB.once).1
  have hx : ∀ x ∈ p, x ∉ q := fun x hx hq => (List.nodup_append.1 hB.once).2.2 x hx x hq rfl
  have e : (p.filter fun x => (grS r 0 (p ++ q)).testBit x) = p.filter fun x => (grS r 0 p).testBit x := by
    refine List.filter_congr fun x hx' => ?_
    rw [grS_split, grS_out r q _ (hx x hx')]
  rw [e, cnt_pop _ p rfl h8 hd, cnt_pop _ p rfl h8 hd]
  obtain ⟨g1, g2, g3⟩ := gr_span h _ p rfl h8
  rw [sub_and g1]
  have h1 := h.mono (t &&& setL p) (setL p) (subB_iff.2 fun j hj => by rw [Nat.testBit_and] at hj; simp at hj; exact hj.2)
  have h2 : r (t &&& setL p) = pop (t &&& setL p) := ind_down h hi (subB_iff.2 fun j hj => by rw [Nat.testBit_and] at hj; simp at hj; exact hj.1)
  omega
/-- The greedy set is a basis. -/
theorem gr_bas {n : Nat} {l : List Nat} (hn : n ≤ 8) (hf : Fam n l) (hb : Bas l) {o : List Nat} (hB : Beg n o) (hall : ∀ i, i < n → i ∈ o) : grS (rk l) 0 o ∈ l := by
  obtain ⟨g1, g2, g3⟩ := gr_span hb.rk _ o rfl (fun x hx => Nat.lt_of_lt_of_le (hB.lt x hx) hn)
  have e : setL o = 2 ^ n - 1 := Nat.eq_of_testBit_eq fun j => by
    rw [setL_has, full_bit, Bool.eq_iff_iff, decide_eq_true_eq, decide_eq_true_eq]
    exact ⟨fun h => hB.lt j h, fun h => hall j h⟩
  rw [e] at g1 g3
  exact (bas_mem hn hf hb (sub_lt g1 (full_lt n))).2 ⟨g2, g3.symm⟩

/-- What the elements of a set weigh, along a list. -/
def wSum (w : Nat → Int) (s : Nat) : List Nat → Int
  | [] => 0
  | x :: o => (if s.testBit x = true then w x else 0) + wSum w s o
def cntI (s : Nat) : List Nat → Int
  | [] => 0
  | x :: o => (if s.testBit x = true then 1 else 0) + cntI s o
theorem cntI_eq (s : Nat) : ∀ o : List Nat, cntI s o = ((o.filter fun x => s.testBit x).length : Nat)
  | [] => rfl
  | x :: o => by
    unfold cntI
    rw [cntI_eq s o]
    cases e : s.testBit x <;> simp [e] <;> omega
theorem abel (w : Nat → Int) (p q : Nat) : ∀ (o : List Nat) (K D W : Int), 0 ≤ K → W * K ≤ D → (∀ x ∈ o, w x ≤ W) → o.Pairwise (fun x y => w y ≤ w x) → (∀ pre, pre <+: o → 0 ≤ K + cntI p pre - cntI q pre) → ∃ W', W' * (K + cntI p o - cntI q o) ≤ D + wSum w p o - wSum w q o
  | [], K, D, W, _, hD, _, _, _ => ⟨W, by simpa [cntI, wSum] using hD⟩
  | x :: o, K, D, W, hK, hD, hW, hp, hpre => by
    have h1 := hpre [x] ⟨o, rfl⟩
    have hwx := hW x (by simp)
    rw [List.pairwise_cons] at hp
    have hm : w x * K ≤ W * K := Int.mul_le_mul_of_nonneg_right hwx hK
    simp only [cntI, Int.add_zero] at h1
    obtain ⟨W', h2⟩ := abel w p q o (K + (if p.testBit x = true then 1 else 0) - (if q.testBit x = true then 1 else 0)) (D + (if p.testBit x = true then w x else 0) - (if q.testBit x = true then w x else 0)) (w x) h1 (by
        rw [Int.mul_sub, Int.mul_add]
        cases p.testBit x <;> cases q.testBit x <;> simp <;> omega) (fun y hy => hp.1 y hy) hp.2 (fun pre ⟨suf, e⟩ => by
        have := hpre (x :: pre) ⟨suf, by rw [← e]; rfl⟩
        simp only [cntI] at this
        omega)
    refine ⟨W', ?_⟩
    simp only [cntI, wSum]
    have e1 : K + ((if p.testBit x = true then 1 else 0) + cntI p o) - ((if q.testBit x = true then 1 else 0) + cntI q o) = K + (if p.testBit x = true then 1 else 0) - (if q.testBit x = true then 1 else 0) + cntI p o - cntI q o := by omega
    rw [e1]
    omega
/-- RADO, EDMONDS: of as many elements no independent set weighs more. -/
theorem gr_heavy {r : Nat → Nat} (h : Rk r) {n : Nat} (hn : n ≤ 8) {o : List Nat} (hB : Beg n o) (hall : ∀ i, i < n → i ∈ o) (w : Nat → Int) (hw : o.Pairwise (fun x y => w y ≤ w x)) {t : Nat} (ht : t < 2 ^ n) (hi : r t = pop t) (hsz : pop t = pop (grS r 0 o)) (hS : grS r 0 o < 2 ^ n) : wSum w t o ≤ wSum w (grS r 0 o) o := by
  have hdom := gr_dom h hn hB hi
  obtain ⟨W', h2⟩ := abel w (grS r 0 o) t o 0 0 (match o with | [] => 0 | x :: _ => w x) (by omega) (by omega) (fun x hx => by
    cases o with
    | nil => simp at hx
    | cons y o =>
      rw [List.mem_cons] at hx
      rcases hx with rfl | hx
      · exact Int.le_refl _
      · exact (List.pairwise_cons.1 hw).1 x hx) hw (fun pre hp => by
    have := hdom pre hp
    rw [cntI_eq, cntI_eq]
    omega)
  rw [cntI_eq, cntI_eq, cnt_full hn ht hB hall, cnt_full hn hS hB hall, hsz] at h2
  have e : (0 : Int) + ↑(pop (grS r 0 o)) - ↑(pop (grS r 0 o)) = 0 := by omega
  rw [e, Int.mul_zero] at h2
  omega
/-- What is taken when no more than k are wanted. -/
theorem grS_full (r : Nat → Nat) (k : Nat) : ∀ (o : List Nat) (s : Nat), pop s = k → (∀ x ∈ o, s.testBit x = false) → s < 256 → (∀ x ∈ o, x < 8) → grS (fun s => min k (r s)) s o = s
  | [], _, _, _, _, _ => rfl
  | x :: o, s, hk, hx, hs, h8 => by
    have p := pop_ad s hs x (h8 x (by simp)) (hx x (by simp))
    rw [grS_cons, if_neg (by omega)]
    exact grS_full r k o s hk (fun y hy => hx y (by simp [hy])) hs (fun y hy => h8 y (by simp [hy]))
theorem gr_at (r : Nat → Nat) (hle : ∀ s, r s ≤ pop s) (k : Nat) : ∀ (o : List Nat) (s : Nat), pop s ≤ k → k ≤ pop (grS r s o) → o.Nodup → (∀ x ∈ o, s.testBit x = false) → s < 256 → (∀ x ∈ o, x < 8) → (s :: gr r s o).getD (k - pop s) 0 = grS (fun s => min k (r s)) s o
  | [], s, h1, h2, _, _, _, _ => by
    have e : k - pop s = 0 := by have : pop (grS r s []) = pop s := rfl
                                 omega
    rw [e]
    rfl
  | x :: o, s, h1, h2, hd, hx, hs, h8 => by
    have p := pop_ad s hs x (h8 x (by simp)) (hx x (by simp))
    rw [List.nodup_cons] at hd
    by_cases e : pop s = k
    · rw [grS_full r k (x :: o) s e hx hs h8, e, Nat.sub_self]
      rfl
    · rw [grS_cons]
      rw [grS_cons] at h2
      unfold gr
      by_cases hi : r (s ||| 2 ^ x) = pop (s ||| 2 ^ x)
      · rw [if_pos hi] at h2 ⊢
        rw [if_pos (by omega)]
        have ih := gr_at r hle k o (s ||| 2 ^ x) (by omega) h2 hd.2 (fun y hy => by
          rw [or_bit, hx y (by simp [hy])]
          have : ¬ x = y := fun e => hd.1 (e ▸ hy)
          simp [this]) (or_lt hs (pow_lt256 (h8 x (by simp)))) (fun y hy => h8 y (by simp [hy]))
        rw [← ih]
        have e1 : k - pop s = (k - pop (s ||| 2 ^ x)) + 1 := by omega
        rw [e1, List.getD_cons_succ]
      · rw [if_neg hi] at h2 ⊢
        have l0 := hle (s ||| 2 ^ x)
        have l1 : ¬ min k (r (s ||| 2 ^ x)) = pop (s ||| 2 ^ x) := by omega
        rw [if_neg l1]
        exact gr_at r hle k o s h1 h2 hd.2 (fun y hy => hx y (by simp [hy])) hs (fun y hy => h8 y (by simp [hy]))
end Go.Proofs.YtkebhhpfnalbfaaDoor
