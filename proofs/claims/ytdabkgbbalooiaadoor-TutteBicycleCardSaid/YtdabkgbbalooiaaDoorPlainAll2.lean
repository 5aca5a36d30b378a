/- Plain mathematics of sets, matroids, graphs and lists, on which the walks rest. -/
import Derived.Test.YtdabkgbbalooiaaDoorPlainAll1
import Derived.Test.YtdabkgbbalooiaaDoorPlainAll
namespace Go.Proofs.YtdabkgbbalooiaaDoor

def ea (E : List (Nat × Nat)) (j : Nat) : Nat := (E.getD j (0, 0)).1
def eb (E : List (Nat × Nat)) (j : Nat) : Nat := (E.getD j (0, 0)).2
/-- u and v hang together by edges of s. -/
inductive Conn (E : List (Nat × Nat)) (s : Nat) : Nat → Nat → Prop
  | refl (u : Nat) : Conn E s u u
  | fwd {u : Nat} (j : Nat) (hj : s.testBit j = true) (h : Conn E s u (ea E j)) : Conn E s u (eb E j)
  | bwd {u : Nat} (j : Nat) (hj : s.testBit j = true) (h : Conn E s u (eb E j)) : Conn E s u (ea E j)
variable {E : List (Nat × Nat)}
theorem Conn.trans {s u v x : Nat} (h1 : Conn E s u v) (h2 : Conn E s v x) : Conn E s u x := by
  induction h2 with
  | refl => exact h1
  | fwd j hj _ ih => exact .fwd j hj ih
  | bwd j hj _ ih => exact .bwd j hj ih
theorem Conn.symm {s u v : Nat} (h : Conn E s u v) : Conn E s v u := by
  induction h with
  | refl => exact .refl _
  | fwd j hj _ ih => exact (Conn.bwd j hj (.refl _)).trans ih
  | bwd j hj _ ih => exact (Conn.fwd j hj (.refl _)).trans ih
theorem Conn.drop {s t u v : Nat} (hd : ∀ j, t.testBit j = true → Conn E s (ea E j) (eb E j)) (h : Conn E t u v) : Conn E s u v := by
  induction h with
  | refl => exact .refl _
  | fwd j hj _ ih => exact ih.trans (hd j hj)
  | bwd j hj _ ih => exact ih.trans (hd j hj).symm
theorem Conn.edge {s j : Nat} (hj : s.testBit j = true) : Conn E s (ea E j) (eb E j) := .fwd j hj (.refl _)
theorem Conn.mono {s t u v : Nat} (hst : subB s t = true) (h : Conn E s u v) : Conn E t u v := h.drop fun j hj => .edge (subB_iff.1 hst j hj)
theorem Conn.one {s i u v : Nat} (h : Conn E (s ||| 2 ^ i) u v) : Conn E s u v ∨ (Conn E s u (ea E i) ∧ Conn E s (eb E i) v) ∨ (Conn E s u (eb E i) ∧ Conn E s (ea E i) v) := by
  induction h with
  | refl => exact .inl (.refl _)
  | fwd j hj _ ih =>
    rw [or_bit] at hj
    by_cases hs : s.testBit j = true
    · rcases ih with h | ⟨h, k⟩ | ⟨h, k⟩
      · exact .inl (.fwd j hs h)
      · exact .inr (.inl ⟨h, .fwd j hs k⟩)
      · exact .inr (.inr ⟨h, .fwd j hs k⟩)
    · have e : i = j := by simpa [Bool.eq_false_iff.2 hs] using hj
      subst e
      rcases ih with h | ⟨h, k⟩ | ⟨h, k⟩
      · exact .inr (.inl ⟨h, .refl _⟩)
      · exact .inr (.inl ⟨h, .refl _⟩)
      · exact .inl h
  | bwd j hj _ ih =>
    rw [or_bit] at hj
    by_cases hs : s.testBit j = true
    · rcases ih with h | ⟨h, k⟩ | ⟨h, k⟩
      · exact .inl (.bwd j hs h)
      · exact .inr (.inl ⟨h, .bwd j hs k⟩)
      · exact .inr (.inr ⟨h, .bwd j hs k⟩)
    · have e : i = j := by simpa [Bool.eq_false_iff.2 hs] using hj
      subst e
      rcases ih with h | ⟨h, k⟩ | ⟨h, k⟩
      · exact .inr (.inr ⟨h, .refl _⟩)
      · exact .inl h
      · exact .inr (.inr ⟨h, .refl _⟩)
theorem ad_sub (s i : Nat) : subB s (s ||| 2 ^ i) = true := sub_or _ _
theorem ad_self (s i : Nat) : (s ||| 2 ^ i).testBit i = true := by rw [or_bit]; simp
/-- An edge hangs on a set of edges: its ends do. -/
def depG (E : List (Nat × Nat)) (s i : Nat) : Prop := Conn E s (ea E i) (eb E i)
theorem depG_dep (E : List (Nat × Nat)) (n : Nat) : Dep n (depG E) where
  self := fun s i _ _ h => .edge h
  mono := fun s t i _ _ _ hst h => h.mono hst
  trans := fun s i j _ _ _ h1 h2 => h2.drop fun k hk => by
    rw [or_bit] at hk
    by_cases hs : s.testBit k = true
    · exact .edge hs
    · have e : j = k := by simpa [Bool.eq_false_iff.2 hs] using hk
      subst e
      exact h1
  exch := fun s i j _ _ _ h1 h2 => by
    rcases h2.one with h | ⟨h, k⟩ | ⟨h, k⟩
    · exact absurd h h1
    · exact ((h.mono (ad_sub s j)).symm.trans (.edge (ad_self s j))).trans (k.mono (ad_sub s j)).symm
    · exact ((k.mono (ad_sub s j)).trans (Conn.edge (ad_self s j)).symm).trans (h.mono (ad_sub s j))

/-- The parts of the vertices, by the edges of s below k: those of one part have the same number. -/
def parts (E : List (Nat × Nat)) (s : Nat) : Nat → List Nat
  | 0 => List.range 7
  | k + 1 => if s.testBit k = true then (parts E s k).map fun x => if x = (parts E s k).getD (eb E k) 0 then (parts E s k).getD (ea E k) 0 else x else parts E s k
def ringAt (E : List (Nat × Nat)) (s k : Nat) : Bool := s.testBit k && (parts E s k).getD (ea E k) 0 == (parts E s k).getD (eb E k) 0
def ringB (E : List (Nat × Nat)) (s : Nat) : Bool := (List.range E.length).any (ringAt E s)
theorem parts_len (E : List (Nat × Nat)) (s : Nat) : ∀ k, (parts E s k).length = 7
  | 0 => by unfold parts; simp
  | k + 1 => by
    unfold parts
    split
    · rw [List.length_map, parts_len E s k]
    · exact parts_len E s k
theorem map_getD {l : List Nat} {u : Nat} (f : Nat → Nat) (h : u < l.length) : (l.map f).getD u 0 = f (l.getD u 0) := by
  simp [List.getD, h]
theorem conn_zero {u v : Nat} (h : Conn E 0 u v) : u = v := by
  induction h with
  | refl => rfl
  | fwd j hj _ _ => simp at hj
  | bwd j hj _ _ => simp at hj
theorem parts_conn {n : Nat} (hE : ∀ j, j < n → ea E j < 7 ∧ eb E j < 7) (s : Nat) : ∀ k, k ≤ n → ∀ u v, u < 7 → v < 7 → ((parts E s k).getD u 0 = (parts E s k).getD v 0 ↔ Conn E (lo s k) u v)
  | 0, _, u, v, hu, hv => by
    unfold parts
    rw [lo_zero]
    simp only [List.getD, List.getElem?_range hu, List.getElem?_range hv, Option.getD_some]
    exact ⟨fun e => e ▸ .refl _, conn_zero⟩
  | k + 1, hk, u, v, hu, hv => by
    have ih := parts_conn hE s k (by omega)
    have hl := parts_len E s k
    by_cases hb : s.testBit k = true
    · unfold parts
      rw [if_pos hb, lo_hit hb, map_getD _ (by omega), map_getD _ (by omega)]
      obtain ⟨ha7, hb7⟩ := hE k (by omega)
      have iab := ih _ _ ha7 hb7
      have iub := ih u _ hu hb7
      have ivb := ih v _ hv hb7
      have iua := ih u _ hu ha7
      have iva := ih v _ hv ha7
      have iuv := ih u v hu hv
      have hm : ∀ {x y}, Conn E (lo s k) x y → Conn E (lo s k ||| 2 ^ k) x y := fun h => h.mono (ad_sub _ _)
      have hed : Conn E (lo s k ||| 2 ^ k) (ea E k) (eb E k) := .edge (ad_self _ _)
      by_cases cu : (parts E s k).getD u 0 = (parts E s k).getD (eb E k) 0 <;> by_cases cv : (parts E s k).getD v 0 = (parts E s k).getD (eb E k) 0
      · rw [if_pos cu, if_pos cv]
        exact ⟨fun _ => hm (iuv.1 (cu.trans cv.symm)), fun _ => rfl⟩
      · rw [if_pos cu, if_neg cv]
        constructor
        · intro e
          exact ((hm (iub.1 cu)).trans hed.symm).trans (hm (iva.1 e.symm)).symm
        · intro h
          rcases h.one with h | ⟨h, g⟩ | ⟨h, g⟩
          · exact absurd ((iuv.2 h).symm.trans cu) cv
          · exact absurd (ivb.2 g.symm) cv
          · exact (iva.2 g.symm).symm
      · rw [if_neg cu, if_pos cv]
        constructor
        · intro e
          exact ((hm (iua.1 e)).trans hed).trans (hm (ivb.1 cv)).symm
        · intro h
          rcases h.one with h | ⟨h, g⟩ | ⟨h, g⟩
          · exact absurd ((iuv.2 h).trans cv) cu
          · exact iua.2 h
          · exact absurd (iub.2 h) cu
      · rw [if_neg cu, if_neg cv]
        constructor
        · intro e
          exact hm (iuv.1 e)
        · intro h
          rcases h.one with h | ⟨h, g⟩ | ⟨h, g⟩
          · exact iuv.2 h
          · exact absurd (ivb.2 g.symm) cv
          · exact absurd (iub.2 h) cu
    · unfold parts
      rw [if_neg hb, lo_miss (by simpa using hb)]
      exact ih u v hu hv
theorem ring_iff (hn : E.length ≤ 8) (hE : ∀ j, j < E.length → ea E j < 7 ∧ eb E j < 7) {s : Nat} (hs : s < 2 ^ E.length) : (!ringB E s) = (depR E.length (depG E) s == pop s) := by
  rw [Bool.eq_iff_iff, beq_iff_eq, Dep.ind hn hs]
  unfold ringB ringAt
  rw [Bool.not_eq_true', List.any_eq_false]
  constructor
  · intro h i hi hb hd
    have := h i (List.mem_range.2 hi)
    simp only [hb, Bool.true_and, beq_iff_eq] at this
    exact this ((parts_conn hE s i (by omega) _ _ (hE i hi).1 (hE i hi).2).2 hd)
  · intro h i hi c
    rw [List.mem_range] at hi
    rw [Bool.and_eq_true, beq_iff_eq] at c
    exact h i hi c.1 ((parts_conn hE s i (by omega) _ _ (hE i hi).1 (hE i hi).2).1 c.2)
end Go.Proofs.YtdabkgbbalooiaaDoor

namespace Go.Proofs.YtdabkgbbalooiaaDoor

theorem next_below : ∀ (n c s t : Nat), c < 2 ^ n → subB c s = true → subB t s = true → t < c → t ≤ (c - 1) &&& s
  | 0, c, s, t, h, _, _, hlt => by simp at h; omega
  | n + 1, c, s, t, h, hc, ht, hlt => by
    have e1 : ((c - 1) &&& s) / 2 = (c - 1) / 2 &&& s / 2 := Nat.and_div_two
    have d0 : (c / 2) &&& (s / 2) = c / 2 := by
      have := congrArg (· / 2) (sub_and hc)
      simpa [Nat.and_div_two] using this
    rcases Nat.mod_two_eq_zero_or_one c with h2 | h2
    · have hd : c / 2 < 2 ^ n := by have := Nat.pow_succ 2 n; omega
      have d1 : (t / 2) &&& (s / 2) = t / 2 := by
        have := congrArg (· / 2) (sub_and ht)
        simpa [Nat.and_div_two] using this
      have ih := next_below n (c / 2) (s / 2) (t / 2) hd (by unfold subB; rw [d0]; simp) (by unfold subB; rw [d1]; simp) (by omega)
      have e2 : (c - 1) / 2 = c / 2 - 1 := by omega
      rw [e2] at e1
      have b0 : ((c - 1) &&& s).testBit 0 = s.testBit 0 := by
        rw [Nat.testBit_and, Nat.testBit_zero]
        have : (c - 1) % 2 = 1 := by omega
        simp [this]
      have b1 := subB_iff.1 ht 0
      rw [← b0] at b1
      rw [Nat.testBit_zero, Nat.testBit_zero, decide_eq_true_eq, decide_eq_true_eq] at b1
      omega
    · have e2 : (c - 1) / 2 = c / 2 := by omega
      rw [e2, d0] at e1
      omega
theorem next_sub (c s : Nat) : subB ((c - 1) &&& s) s = true := subB_iff.2 fun i hi => by rw [and_bit] at hi; simp at hi; exact hi.2
theorem next_lt {c : Nat} (s : Nat) (h : c ≠ 0) : (c - 1) &&& s < c := Nat.lt_of_le_of_lt Nat.and_le_left (by omega)

/-- How many of the sets have an element of t. -/
def meets (l : List Nat) (t : Nat) : Nat := (l.filter fun o => meetB o t).length
/-- HALL'S condition, for what is within s and no further than c. -/
def hallTo (l : List Nat) (s c : Nat) : Bool := (List.range (c + 1)).all fun t => !subB t s || decide (pop t ≤ meets l t)
theorem hall_step {l : List Nat} {s c : Nat} (hc : subB c s = true) (h0 : c ≠ 0) (h8 : c < 256) : hallTo l s c = (decide (pop c ≤ meets l c) && hallTo l s ((c - 1) &&& s)) := by
  unfold hallTo
  rw [Bool.eq_iff_iff, Bool.and_eq_true, List.all_eq_true, List.all_eq_true]
  have hlt := next_lt s h0
  constructor
  · intro h
    refine ⟨?_, fun t ht => h t (by rw [List.mem_range] at ht ⊢; omega)⟩
    have := h c (by simp)
    simpa [hc] using this
  · rintro ⟨h1, h2⟩ t ht
    rw [List.mem_range] at ht
    by_cases e : t = c
    · subst e; simp only [hc, Bool.not_true, Bool.false_or]; exact h1
    · by_cases hs : subB t s = true
      · exact h2 t (by have := next_below 8 c s t h8 hc hs (by omega); rw [List.mem_range]; omega)
      · simp [Bool.eq_false_iff.2 hs]
theorem hall_zero (l : List Nat) (s : Nat) : hallTo l s 0 = true := by
  unfold hallTo
  have : pop 0 = 0 := by decide
  simp [this]
theorem hall_succ (l : List Nat) (s k : Nat) : hallTo l s (k + 1) = (hallTo l s k && (!subB (k + 1) s || decide (pop (k + 1) ≤ meets l (k + 1)))) := by
  unfold hallTo
  rw [List.range_succ (n := k + 1), List.all_append]
  simp
theorem meets_take {l : List Nat} {k t : Nat} (hk : k < l.length) : meets (l.take (k + 1)) t = meets (l.take k) t + if meetB (l.getD k 0) t then 1 else 0 := by
  unfold meets
  rw [List.take_succ_eq_append_getElem hk, List.filter_append, List.length_append]
  simp only [List.getD, List.getElem?_eq_getElem hk, Option.getD_some]
  by_cases h : meetB l[k] t = true <;> simp [h]
theorem meets_le (l : List Nat) (t : Nat) : meets l t ≤ l.length := List.length_filter_le _ _

/-- Two sets have elements together, and neither is within the other. -/
def crossB (s o : Nat) : Bool := (s &&& o != 0) && !subB s o && !subB o s
/-- What is wrong with the i-th set of a family and its number: 0: nothing. -/
def lamAt (l : List Nat) (ms : List Int) (i : Nat) : Int := if ms.getD i 0 < 0 then 1 else if (l.take i).any (crossB (l.getD i 0)) = true then 3 else 0
/-- What is wrong first, of the last k ones. -/
def lamR (l : List Nat) (ms : List Int) : Nat → Int
  | 0 => 0
  | k + 1 => if lamAt l ms (l.length - (k + 1)) = 0 then lamR l ms k else lamAt l ms (l.length - (k + 1))
def keepH (l : List Nat) (ms : List Int) (s : Nat) : Bool := (List.range l.length).all fun i => decide ((pop (s &&& l.getD i 0) : Int) ≤ ms.getD i 0)
end Go.Proofs.YtdabkgbbalooiaaDoor

namespace Go.Proofs.YtdabkgbbalooiaaDoor

/-- The least number by which b, so many times, brings a to nought. -/
def fcN (p a b : Int) : Nat := ((List.range 8).find? fun f : Nat => (a + (f : Int) * b) % p == 0).getD 0
theorem fcN_spec {p a b : Int} (hp : isP p) (a0 : 0 ≤ a) (a1 : a < p) (b0 : 0 < b) (b1 : b < p) : fcN p a b < 7 ∧ (a + (fcN p a b : Nat) * b) % p = 0 ∧ ∀ f : Nat, f < fcN p a b → (a + (f : Int) * b) % p ≠ 0 := by
  have key : ∀ q ∈ [2, 3, 5, 7], ∀ x ∈ List.range 7, ∀ y ∈ List.range 7, x < q → 0 < y → y < q → fcN (q : Nat) (x : Nat) (y : Nat) < 7 ∧ (((x : Nat) : Int) + (fcN (q : Nat) (x : Nat) (y : Nat) : Nat) * ((y : Nat) : Int)) % ((q : Nat) : Int) = 0 ∧ ∀ f ∈ List.range 7, f < fcN (q : Nat) (x : Nat) (y : Nat) → (((x : Nat) : Int) + ((f : Nat) : Int) * ((y : Nat) : Int)) % ((q : Nat) : Int) ≠ 0 := by decide +kernel
  have hp2 := isP_pos hp
  obtain ⟨q, rfl⟩ : ∃ q : Nat, p = q := ⟨p.toNat, by omega⟩
  obtain ⟨x, rfl⟩ : ∃ x : Nat, a = x := ⟨a.toNat, by omega⟩
  obtain ⟨y, rfl⟩ : ∃ y : Nat, b = y := ⟨b.toNat, by omega⟩
  have hq : q ∈ [2, 3, 5, 7] := by
    rcases hp with h | h | h | h <;> simp <;> omega
  obtain ⟨h1, h2, h3⟩ := key q hq x (List.mem_range.2 (by omega)) y (List.mem_range.2 (by omega)) (by omega) (by omega) (by omega)
  exact ⟨h1, h2, fun f hf => h3 f (List.mem_range.2 (by omega)) hf⟩
variable {p : Int} {m q N : Nat} {K f0 : Nat → Nat → Int} {ld : Nat → Nat} {v v' : Nat → Int}
/-- The rows that are kept: each has a lead, at which those behind are nought. -/
structure Kpt (p : Int) (m q : Nat) (K : Nat → Nat → Int) (ld : Nat → Nat) : Prop where
  lt : ∀ k, k < q → ld k < m
  ne : ∀ k, k < q → K k (ld k) ≠ 0
  fst : ∀ k, k < q → ∀ r, r < ld k → K k r = 0
  clr : ∀ k j, k < j → j < q → K j (ld k) = 0
  rng : ∀ k, k < q → ∀ r, r < m → 0 ≤ K k r ∧ K k r < p
theorem Kpt.free (hp : isP p) (h : Kpt p m q K ld) : FreeM p m q K := fun x hx i => by
  have hp2 := isP_pos hp
  induction i using Nat.strongRecOn with
  | ind i ih =>
    intro hi
    have h1 := hx (ld i) (h.lt i hi)
    have h2 : Em p (sm q fun j => x j * K j (ld i)) (sm q fun j => if j = i then x i * K i (ld i) else 0) := Em.sm fun j hj => by
      by_cases e : j = i
      · subst e; rw [if_pos rfl]; exact Em.refl _
      · rw [if_neg e]
        rcases Nat.lt_or_ge j i with hl | hl
        · exact (ih j hl hj).mul0
        · rw [h.clr i j (by omega) hj, Int.mul_zero]; exact Em.refl _
    rw [sm_one _ hi] at h2
    have h3 := h2.symm.trans h1
    have hne : ¬ Em p (K i (ld i)) 0 := fun e => h.ne i hi (Em.eq e (h.rng i hi _ (h.lt i hi)) ⟨Int.le_refl 0, by omega⟩)
    obtain ⟨e, he⟩ := Em.inv hp hne
    have h4 := h3.mul0' (a := e)
    have h5 := he.mul (Em.refl (p := p) (x i))
    rw [Int.one_mul] at h5
    refine h5.symm.trans (Em.trans (Em.of ?_) h4)
    rw [Int.mul_assoc, Int.mul_comm (K i (ld i))]
theorem Kpt.num (hp : isP p) (h : Kpt p m q K ld) (h0 : ∀ i, i < N → ∀ r, r < m → 0 ≤ f0 i r ∧ f0 i r < p) (s1 : ∀ k, k < q → InS p m N f0 (K k)) (s2 : ∀ j, j < N → InS p m q K (f0 j)) : q = redN p m N f0 := by
  obtain ⟨-, b, r1, r2, r3⟩ := red_ok hp h0
  exact Nat.le_antisymm (free_le hp (h.free hp) fun k hk => (s1 k hk).trans r3) (free_le hp r1.free fun i hi => (r2 i hi).trans s2)
/-- One more is kept. -/
theorem Kpt.snoc (h : Kpt p m q K ld) {K' : Nat → Nat → Int} {a : Nat} (hK : ∀ k, k < q → K' k = K k) (hq : K' q = v) (ha : a < m) (h1 : v a ≠ 0) (h2 : ∀ r, r < a → v r = 0) (h3 : ∀ k, k < q → v (ld k) = 0) (hr : ∀ r, r < m → 0 ≤ v r ∧ v r < p) : Kpt p m (q + 1) K' fun k => if k = q then a else ld k := by
  refine ⟨fun k hk => ?_, fun k hk => ?_, fun k hk r hr2 => ?_, fun k j hkj hj => ?_, fun k hk r hr2 => ?_⟩
  · by_cases e : k = q
    · rw [if_pos e]; exact ha
    · rw [if_neg e]; exact h.lt k (by omega)
  · by_cases e : k = q
    · subst e; rw [if_pos rfl, hq]; exact h1
    · rw [if_neg e, hK k (by omega)]; exact h.ne k (by omega)
  · by_cases e : k = q
    · subst e; rw [if_pos rfl] at hr2; rw [hq]; exact h2 r hr2
    · rw [if_neg e] at hr2; rw [hK k (by omega)]; exact h.fst k (by omega) r hr2
  · rw [if_neg (by omega)]
    by_cases e : j = q
    · subst e; rw [hq]; exact h3 k hkj
    · rw [hK j (by omega)]; exact h.clr k j hkj (by omega)
  · by_cases e : k = q
    · subst e; rw [hq]; exact hr r hr2
    · rw [hK k (by omega)]; exact h.rng k (by omega) r hr2
/-- A row while it is cleared. -/
structure Clr (p : Int) (m q k : Nat) (K : Nat → Nat → Int) (ld : Nat → Nat) (u v : Nat → Int) : Prop where
  nil : ∀ j, j < k → v (ld j) = 0
  rng : ∀ r, r < m → 0 ≤ v r ∧ v r < p
  dif : InS p m q K fun r => v r - u r
theorem Clr.start (hr : ∀ r, r < m → 0 ≤ v r ∧ v r < p) : Clr p m q 0 K ld v v := ⟨fun j hj => by omega, hr, InS.zero.cg fun r _ => Em.of (by omega)⟩
theorem Clr.step (hp : isP p) (h : Kpt p m q K ld) {k : Nat} {u : Nat → Int} (hc : Clr p m q k K ld u v) (hk : k < q) (f : Int) (hf : (v (ld k) + f * K k (ld k)) % p = 0) : Clr p m q (k + 1) K ld u fun r => (v r + f * K k r) % p := by
  have hp2 := isP_pos hp
  refine ⟨fun j hj => ?_, fun r _ => ⟨Int.emod_nonneg _ (by omega), Int.emod_lt_of_pos _ (by omega)⟩, ?_⟩
  · by_cases e : j = k
    · subst e; exact hf
    · show (v (ld j) + f * K k (ld j)) % p = 0
      rw [hc.nil j (by omega), h.clr j k (by omega) hk, Int.mul_zero, Int.add_zero]
      exact Int.zero_emod p
  · refine (hc.dif.lin (InS.of hk) f).cg fun r _ => ?_
    refine ((Em.mod _).sub (Em.refl (p := p) (u r))).trans (Em.of (by omega))
theorem Clr.congr {k : Nat} {u : Nat → Int} (hc : Clr p m q k K ld u v) (hl : ∀ j, j < k → ld j < m) (e : ∀ r, r < m → v' r = v r) : Clr p m q k K ld u v' :=
  ⟨fun j hj => by rw [e _ (hl j hj)]; exact hc.nil j hj, fun r hr => by rw [e r hr]; exact hc.rng r hr, hc.dif.cg fun r hr => by rw [e r hr]; exact Em.refl _⟩
/-- The sums stay: a row that is kept. -/
theorem Clr.keep {u : Nat → Int} (hc : Clr p m q q K ld u v) {K' : Nat → Nat → Int} (hK : ∀ k, k < q → K' k = K k) (hq : K' q = v) {i : Nat} (hu : f0 i = u) (s1 : ∀ k, k < q → InS p m i f0 (K k)) (s2 : ∀ j, j < i → InS p m q K (f0 j)) : (∀ k, k < q + 1 → InS p m (i + 1) f0 (K' k)) ∧ ∀ j, j < i + 1 → InS p m (q + 1) K' (f0 j) := by
  have up : ∀ {x : Nat → Int}, InS p m i f0 x → InS p m (i + 1) f0 x := fun h => h.trans fun j hj => InS.of (by omega)
  have upK : ∀ {x : Nat → Int}, InS p m q K x → InS p m (q + 1) K' x := fun h => h.trans fun j hj => by
    rw [← hK j hj]; exact InS.of (by omega)
  refine ⟨fun k hk => ?_, fun j hj => ?_⟩
  · by_cases e : k = q
    · subst e
      rw [hq]
      have h1 : InS p m (i + 1) f0 u := by rw [← hu]; exact InS.of (by omega)
      exact (h1.lin (up (hc.dif.trans s1)) 1).cg fun r _ => Em.of (by omega)
    · rw [hK k (by omega)]; exact up (s1 k (by omega))
  · by_cases e : j = i
    · subst e
      rw [hu]
      have h1 : InS p m (q + 1) K' v := by rw [← hq]; exact InS.of (by omega)
      exact (h1.lin (upK hc.dif) (-1)).cg fun r _ => Em.of (by omega)
    · exact upK (s2 j (by omega))
/-- And a row that hangs on them. -/
theorem Clr.leave {u : Nat → Int} (hc : Clr p m q q K ld u v) (h0 : ∀ r, r < m → v r = 0) {i : Nat} (hu : f0 i = u) (s1 : ∀ k, k < q → InS p m i f0 (K k)) (s2 : ∀ j, j < i → InS p m q K (f0 j)) : (∀ k, k < q → InS p m (i + 1) f0 (K k)) ∧ ∀ j, j < i + 1 → InS p m q K (f0 j) := by
  refine ⟨fun k hk => (s1 k hk).trans fun j hj => InS.of (by omega), fun j hj => ?_⟩
  by_cases e : j = i
  · subst e
    rw [hu]
    refine (InS.zero.lin hc.dif (-1)).cg fun r hr => Em.of ?_
    rw [h0 r hr]; omega
  · exact s2 j (by omega)
end Go.Proofs.YtdabkgbbalooiaaDoor

namespace Go.Proofs.YtdabkgbbalooiaaDoor

theorem tal_range (F : Nat → Int) (k : Nat) : tal F (List.range (k + 1)) = tal F (List.range k) + F k := by
  rw [List.range_succ, tal_append]
  simp [tal]
theorem tal_bound {F : Nat → Int} {c : Nat} : ∀ {l : List Nat}, (∀ x ∈ l, -(c : Int) ≤ F x ∧ F x ≤ c) → -((c * l.length : Nat) : Int) ≤ tal F l ∧ tal F l ≤ ((c * l.length : Nat) : Int)
  | [], _ => by simp [tal]
  | x :: l, h => by
    have h1 := h x (List.mem_cons_self ..)
    have h2 := tal_bound (l := l) fun y hy => h y (List.mem_cons_of_mem _ hy)
    have e : c * (x :: l).length = c * l.length + c := by rw [List.length_cons, Nat.mul_add]; omega
    rw [e]
    simp only [tal]
    omega
theorem sgn_bound (s : Nat) : -1 ≤ sgn s ∧ sgn s ≤ 1 := by unfold sgn; split <;> omega
/-- a coefficient, by the first k sets -/
def chrS (r : Nat → Nat) (R k j : Nat) : Int := tal (fun s => if R - r s = j then sgn s else 0) (List.range k)
theorem chr_zero (r : Nat → Nat) (R j : Nat) : chrS r R 0 j = 0 := rfl
theorem chr_step (r : Nat → Nat) (R k j : Nat) : chrS r R (k + 1) j = if R - r k = j then chrS r R k j + sgn k else chrS r R k j := by
  unfold chrS
  rw [tal_range]
  split <;> omega
theorem chr_bound (r : Nat → Nat) (R k j : Nat) : -(k : Int) ≤ chrS r R k j ∧ chrS r R k j ≤ k := by
  have := tal_bound (F := fun s => if R - r s = j then sgn s else 0) (c := 1) (l := List.range k) fun x _ => by
    have := sgn_bound x
    try dsimp only
    split <;> omega
  simpa [chrS] using this
/-- how many of the first k sets are such, and of rank j -/
def cntS (p : Nat → Bool) (r : Nat → Nat) (k j : Nat) : Nat := ((List.range k).filter fun s => p s && r s == j).length
theorem cnt_zero (p : Nat → Bool) (r : Nat → Nat) (j : Nat) : cntS p r 0 j = 0 := rfl
theorem cnt_step (p : Nat → Bool) (r : Nat → Nat) (k j : Nat) : cntS p r (k + 1) j = if (p k && r k == j) = true then cntS p r k j + 1 else cntS p r k j := by
  unfold cntS
  rw [List.range_succ, List.filter_append, List.filter_cons]
  split
  · simp
  · simp
theorem cnt_le (p : Nat → Bool) (r : Nat → Nat) (k j : Nat) : cntS p r k j ≤ k := by
  unfold cntS
  exact Nat.le_trans (List.length_filter_le _ _) (by simp)
theorem cnt_congr {p q r r' : Nat → _} {T j : Nat} (h : ∀ s, s < T → p s = q s) (h' : ∀ s, s < T → r s = r' s) : cntS p r T j = cntS q r' T j := by
  unfold cntS
  refine congrArg List.length (List.filter_congr fun s hs => ?_)
  rw [h s (List.mem_range.1 hs), h' s (List.mem_range.1 hs)]

theorem mobS_bound (r : Nat → Nat) {n : Nat} (hn : n ≤ 8) (f : Nat) : -256 ≤ mobS r n f ∧ mobS r n f ≤ 256 := by
  have := tal_bound (F := fun s => if cl r n s = f then (if s &&& loopS r n = 0 then sgn s else 0) else 0) (c := 1) (l := List.range (2 ^ n)) fun x _ => by
    have := sgn_bound x
    try dsimp only
    split
    · split <;> omega
    · omega
  have h2 : 2 ^ n ≤ 2 ^ 8 := Nat.pow_le_pow_right (by omega) hn
  have h3 : (1 * (List.range (2 ^ n)).length) ≤ 256 := by simpa using h2
  unfold mobS
  omega
theorem rg_before {p : Nat → Bool} {T i : Nat} (hi : i < ((List.range T).filter p).length) : (List.range (((List.range T).filter p).getD i 0)).filter p = ((List.range T).filter p).take i := by
  have up : ((List.range T).filter p).Pairwise (· < ·) := List.pairwise_lt_range.filter _
  have hg : ((List.range T).filter p).getD i 0 = ((List.range T).filter p)[i] := by simp [List.getD, hi]
  refine sorted_ext (List.pairwise_lt_range.filter _) (up.sublist (List.take_sublist _ _)) fun x => ?_
  rw [List.mem_filter, List.mem_range, List.mem_take_iff_getElem, hg]
  have hm : ((List.range T).filter p)[i] ∈ (List.range T).filter p := List.getElem_mem hi
  rw [List.mem_filter, List.mem_range] at hm
  constructor
  · rintro ⟨h1, h2⟩
    have hx : x ∈ (List.range T).filter p := List.mem_filter.2 ⟨List.mem_range.2 (by omega), h2⟩
    obtain ⟨j, hj, rfl⟩ := List.getElem_of_mem hx
    refine ⟨j, ?_, rfl⟩
    rcases Nat.lt_trichotomy j i with h | h | h
    · omega
    · subst h; omega
    · have := List.pairwise_iff_getElem.1 up i j hi hj h
      omega
  · rintro ⟨j, hj, rfl⟩
    have hj' : j < ((List.range T).filter p).length := by omega
    refine ⟨List.pairwise_iff_getElem.1 up j i hj' hi (by omega), ?_⟩
    exact (List.mem_filter.1 (List.getElem_mem hj')).2
/-- the flats, rising -/
def fltL (n : Nat) (r : Nat → Nat) : List Nat := (List.range (2 ^ n)).filter (flatB r n)
theorem flt_mem {n : Nat} {r : Nat → Nat} {s : Nat} : s ∈ fltL n r ↔ s < 2 ^ n ∧ flatB r n s = true := by unfold fltL; simp
theorem flt_getD {n : Nat} {r : Nat → Nat} {i : Nat} (hi : i < (fltL n r).length) : (fltL n r).getD i 0 < 2 ^ n ∧ flatB r n ((fltL n r).getD i 0) = true := by
  have h : (fltL n r).getD i 0 ∈ fltL n r := by simp [List.getD, hi]
  exact flt_mem.1 h
theorem flt_up (n : Nat) (r : Nat → Nat) : (fltL n r).Pairwise (· < ·) := List.pairwise_lt_range.filter _
theorem flt_len {n : Nat} {r : Nat → Nat} (hn : n ≤ 8) : (fltL n r).length ≤ 256 := by
  have h2 : 2 ^ n ≤ 2 ^ 8 := Nat.pow_le_pow_right (by omega) hn
  exact Nat.le_trans (Nat.le_trans (List.length_filter_le _ _) (by simp)) h2
theorem loop_flat {n : Nat} {r : Nat → Nat} (hn : n ≤ 8) (h : Rk r) : flatB r n (loopS r n) = true := clM_flat hn h (Nat.two_pow_pos n)
theorem flt_pos {n : Nat} {r : Nat → Nat} (hn : n ≤ 8) (h : Rk r) : 0 < (fltL n r).length :=
  List.length_pos_iff.2 (List.ne_nil_of_mem (flt_mem.2 ⟨loop_lt hn, loop_flat hn h⟩))
theorem flt_zero {n : Nat} {r : Nat → Nat} (hn : n ≤ 8) (h : Rk r) : (fltL n r).getD 0 0 = loopS r n := by
  have hp := flt_pos hn h (r := r)
  have h0 := flt_getD hp
  refine Nat.le_antisymm ?_ (subM_le (loop_in hn h h0.1 h0.2))
  obtain ⟨j, hj, e⟩ := List.getElem_of_mem (flt_mem.2 ⟨loop_lt hn, loop_flat hn h⟩)
  have hg : (fltL n r).getD 0 0 = (fltL n r)[0] := by simp [List.getD, hp]
  rw [hg, ← e]
  rcases Nat.eq_zero_or_pos j with rfl | hj0
  · exact Nat.le_refl _
  · exact Nat.le_of_lt (List.pairwise_iff_getElem.1 (flt_up n r) 0 j hp hj hj0)
theorem flt_inj {n : Nat} {r : Nat → Nat} {i j : Nat} (hi : i < (fltL n r).length) (hj : j < (fltL n r).length) (e : (fltL n r).getD i 0 = (fltL n r).getD j 0) : i = j := by
  have gi : (fltL n r).getD i 0 = (fltL n r)[i] := by simp [List.getD, hi]
  have gj : (fltL n r).getD j 0 = (fltL n r)[j] := by simp [List.getD, hj]
  rw [gi, gj] at e
  rcases Nat.lt_trichotomy i j with h | h | h
  · have := List.pairwise_iff_getElem.1 (flt_up n r) i j hi hj h; omega
  · exact h
  · have := List.pairwise_iff_getElem.1 (flt_up n r) j i hj hi h; omega
theorem take_map (l : List Nat) : ∀ k, k ≤ l.length → l.take k = (List.range k).map fun i => l.getD i 0 := fun k hk => by
  induction k with
  | zero => rfl
  | succ k ih => rw [List.range_succ, List.map_append, ← ih (by omega), List.take_add_one]; simp [List.getD, show k < l.length by omega]
/-- MOBIUS' number of the i-th flat -/
def mobF (r : Nat → Nat) (n i : Nat) : Int := mobS r n ((fltL n r).getD i 0)
/-- those of the first j flats that are within the i-th, added -/
def mobT (r : Nat → Nat) (n i j : Nat) : Int := tal (fun k => if subB ((fltL n r).getD k 0) ((fltL n r).getD i 0) = true then mobF r n k else 0) (List.range j)
theorem mobT_step (r : Nat → Nat) (n i j : Nat) : mobT r n i (j + 1) = if subB ((fltL n r).getD j 0) ((fltL n r).getD i 0) = true then mobT r n i j + mobF r n j else mobT r n i j := by
  unfold mobT
  rw [tal_range]
  split <;> omega
theorem mobT_bound (r : Nat → Nat) {n : Nat} (hn : n ≤ 8) (i : Nat) {j : Nat} (hj : j ≤ 256) : -65536 ≤ mobT r n i j ∧ mobT r n i j ≤ 65536 := by
  have := tal_bound (F := fun k => if subB ((fltL n r).getD k 0) ((fltL n r).getD i 0) = true then mobF r n k else 0) (c := 256) (l := List.range j) fun x _ => by
    have := mobS_bound r hn ((fltL n r).getD x 0)
    try dsimp only
    unfold mobF
    split <;> omega
  rw [List.length_range] at this
  unfold mobT
  omega
theorem mobT_take (r : Nat → Nat) {n i j : Nat} (hj : j ≤ (fltL n r).length) : mobT r n i j = tal (mobS r n) (((fltL n r).take j).filter fun g => subB g ((fltL n r).getD i 0)) := by
  rw [tal_filter, take_map _ j hj, tal_map]
  rfl
theorem mob_zero {n : Nat} {r : Nat → Nat} (hn : n ≤ 8) (h : Rk r) : mobF r n 0 = 1 := by
  unfold mobF
  rw [flt_zero hn h, mob_step hn h (loop_lt hn) (loop_flat hn h), if_pos rfl]
  have : ((List.range (loopS r n)).filter fun g => flatB r n g && subB g (loopS r n)) = [] := List.filter_eq_nil_iff.2 fun x hx => by
    rw [List.mem_range] at hx
    intro hc
    rw [Bool.and_eq_true] at hc
    have hl := loop_lt (r := r) hn
    have := subM_le (loop_in hn h (show x < 2 ^ n by omega) hc.1)
    omega
  rw [this]
  simp [tal]
theorem mob_next {n i : Nat} {r : Nat → Nat} (hn : n ≤ 8) (h : Rk r) (h0 : i ≠ 0) (hi : i < (fltL n r).length) : mobF r n i = - mobT r n i i := by
  have hg := flt_getD hi
  have hne : (fltL n r).getD i 0 ≠ loopS r n := fun e => h0 (flt_inj hi (flt_pos hn h) (e.trans (flt_zero hn h).symm))
  rw [mobT_take r (Nat.le_of_lt hi)]
  unfold mobF
  rw [mob_step hn h hg.1 hg.2, if_neg hne, ← List.filter_filter]
  have := rg_before (p := flatB r n) (T := 2 ^ n) hi
  have e : ((List.range ((fltL n r).getD i 0)).filter fun x => flatB r n x) = (fltL n r).take i := this
  have e2 : (List.filter (fun a => subB a ((fltL n r).getD i 0)) (List.filter (flatB r n) (List.range ((fltL n r).getD i 0)))) = ((fltL n r).take i).filter fun g => subB g ((fltL n r).getD i 0) := by rw [← e]
  rw [← e2, List.filter_filter, List.filter_filter]
  have e3 : ∀ L : List Nat, (L.filter fun a => flatB r n a && subB a ((fltL n r).getD i 0)) = L.filter fun a => subB a ((fltL n r).getD i 0) && flatB r n a := fun L => List.filter_congr fun x _ => Bool.and_comm _ _
  rw [e3]
  omega
/-- MOBIUS' number by the first k sets, as the document has it -/
def mobD (r : Nat → Nat) (n f k : Nat) : Int := tal (fun s => if (subB s f && (s &&& loopS r n == 0) && (cl r n s == f)) = true then sgn s else 0) (List.range k)
theorem mobD_step (r : Nat → Nat) (n f k : Nat) : mobD r n f (k + 1) = if (subB k f && (k &&& loopS r n == 0) && (cl r n k == f)) = true then mobD r n f k + sgn k else mobD r n f k := by
  unfold mobD
  rw [tal_range]
  split <;> omega
theorem mobD_bound (r : Nat → Nat) (n f k : Nat) : -(k : Int) ≤ mobD r n f k ∧ mobD r n f k ≤ k := by
  have := tal_bound (F := fun s => if (subB s f && (s &&& loopS r n == 0) && (cl r n s == f)) = true then sgn s else 0) (c := 1) (l := List.range k) fun x _ => by
    have := sgn_bound x
    try dsimp only
    split <;> omega
  simpa [mobD] using this
theorem tal_longer {F : Nat → Int} {a : Nat} : ∀ {b : Nat}, a ≤ b → (∀ s, a ≤ s → s < b → F s = 0) → tal F (List.range b) = tal F (List.range a)
  | 0, h, _ => by obtain rfl : a = 0 := by omega
                  rfl
  | b + 1, h, k => by
    rcases Nat.eq_or_lt_of_le h with rfl | h'
    · rfl
    · rw [tal_range, k b (by omega) (by omega), tal_longer (by omega : a ≤ b) fun s h1 h2 => k s h1 (by omega)]
      omega
theorem mobD_end {n f : Nat} {r : Nat → Nat} (hn : n ≤ 8) (hf : f < 2 ^ n) : mobD r n f (f + 1) = mobS r n f := by
  unfold mobD mobS
  have e : ∀ s, s < 2 ^ n → (if (subB s f && (s &&& loopS r n == 0) && (cl r n s == f)) = true then sgn s else 0) = (if cl r n s = f then (if s &&& loopS r n = 0 then sgn s else 0) else 0) := fun s hs => by
    by_cases h1 : cl r n s = f
    · have h2 : subB s f = true := by have := sub_cl (r := r) hn hs; rwa [h1] at this
      by_cases h3 : s &&& loopS r n = 0
      · simp [h1, h2, h3]
      · simp [h1, h2, h3]
    · simp [h1]
  rw [← tal_congr (l := List.range (2 ^ n)) fun s hs => e s (List.mem_range.1 hs)]
  refine (tal_longer (by omega) fun s h1 h2 => ?_).symm
  have : subB s f = false := by
    rw [Bool.eq_false_iff]
    intro hc
    have := subM_le hc
    omega
  simp [this]
end Go.Proofs.YtdabkgbbalooiaaDoor

namespace Go.Proofs.YtdabkgbbalooiaaDoor

/-- The least element of a that b has not goes away. -/
def downR (_l : List Nat) (a b : Nat) : Nat := rm a (tz (dif a b))
/-- The next rung: with the first of those that are missing with which it is a basis. -/
def nextR (l : List Nat) (a b : Nat) : Nat := match (els (dif b a)).find? fun y => memB (downR l a b ||| 2 ^ y) l with
  | some y => downR l a b ||| 2 ^ y
  | none => a
/-- The rungs. -/
def lad (l : List Nat) : Nat → Nat → Nat → List Nat
  | 0, a, _ => [a]
  | k + 1, a, b => a :: lad l k (nextR l a b) b
def ladder (l : List Nat) (a b : Nat) : List Nat := lad l (pop (dif a b)) a b
theorem tz_bitL : ∀ s : Nat, s < 256 → 0 < s → s.testBit (tz s) = true := by decide +kernel
theorem dif_zero {a b : Nat} (ha : a < 256) (h : pop (dif a b) = 0) : subB a b = true := subB_iff.2 fun i hi => by
  have h1 := (pop_pos (dif a b) (dif_lt ha)).1 h
  have h2 := congrArg (·.testBit i) h1
  simp only [dif_bit, Nat.zero_testBit] at h2
  cases e : b.testBit i <;> simp_all
theorem dif_pos {a b : Nat} (ha : a < 256) (hb : b < 256) (hp : pop a = pop b) (h : a ≠ b) : 0 < dif a b := by
  apply Nat.pos_of_ne_zero
  intro h0
  have : pop (dif a b) = 0 := by rw [h0]; decide
  exact h (eq_of_pop hb (dif_zero ha this) (by omega))
/-- What the next rung is. -/
theorem next_is {l : List Nat} (hb : Bas l) {a b : Nat} (ha : a ∈ l) (hbb : b ∈ l) (h : a ≠ b) : ∃ y, (els (dif b a)).find? (fun y => memB (downR l a b ||| 2 ^ y) l) = some y ∧ y ∈ els (dif b a) ∧ nextR l a b = downR l a b ||| 2 ^ y ∧ nextR l a b ∈ l ∧ b.testBit y = true ∧ a.testBit y = false := by
  have a8 := hb.lt a ha
  have b8 := hb.lt b hbb
  have hd := dif_pos a8 b8 (hb.size a ha b hbb) h
  have h1 := tz_bitL _ (dif_lt (b := b) a8) hd
  rw [dif_bit] at h1
  simp at h1
  obtain ⟨y, hy1, hy2, hy3⟩ := hb.exch a ha b hbb _ h1.1 h1.2
  have hm : y ∈ els (dif b a) := (mem_els (dif_lt b8)).2 (by rw [dif_bit, hy1, hy2]; rfl)
  cases hf : (els (dif b a)).find? (fun y => memB (downR l a b ||| 2 ^ y) l) with
  | none =>
    rw [List.find?_eq_none] at hf
    exact absurd (by unfold memB downR; simpa using hy3) (hf y hm)
  | some z =>
    have hz1 := List.find?_some hf
    have hz2 := List.mem_of_find?_eq_some hf
    have hz3 := (mem_els (dif_lt b8)).1 hz2
    rw [dif_bit] at hz3
    simp at hz3
    have e : nextR l a b = downR l a b ||| 2 ^ z := by unfold nextR; rw [hf]
    refine ⟨z, rfl, hz2, e, ?_, hz3⟩
    rw [e]
    unfold memB at hz1
    simpa using hz1
theorem next_dif {l : List Nat} (hb : Bas l) {a b : Nat} (ha : a ∈ l) (hbb : b ∈ l) (h : a ≠ b) : pop (dif a b) = pop (dif (nextR l a b) b) + 1 ∧ pop (dif (nextR l a b) a) = 1 := by
  obtain ⟨y, _, _, e, h1, h2, h3⟩ := next_is hb ha hbb h
  have a8 := hb.lt a ha
  have b8 := hb.lt b hbb
  have hd := dif_pos a8 b8 (hb.size a ha b hbb) h
  have ht := tz_bitL _ (dif_lt (b := b) a8) hd
  have y8 := bit8 b8 h2
  rw [e]
  constructor
  · have e1 : dif (downR l a b ||| 2 ^ y) b = rm (dif a b) (tz (dif a b)) := dif_swap_l h2
    rw [e1]
    exact pop_rm' (dif_lt a8) ht
  · have e1 : dif (downR l a b ||| 2 ^ y) a = 2 ^ y := Nat.eq_of_testBit_eq fun j => by
      unfold downR
      rw [dif_bit, or_bit, rm_bit, Nat.testBit_two_pow]
      by_cases ej : y = j
      · subst ej; simp [h3]
      · cases e : a.testBit j <;> simp [ej]
    rw [e1]
    have : ∀ y, y < 8 → pop (2 ^ y) = 1 := by decide
    exact this y y8
theorem lad_len {l : List Nat} : ∀ (k a b : Nat), (lad l k a b).length = k + 1
  | 0, _, _ => rfl
  | k + 1, a, b => by unfold lad; rw [List.length_cons, lad_len k]
theorem ladder_step {l : List Nat} (hb : Bas l) {a b : Nat} (ha : a ∈ l) (hbb : b ∈ l) (h : a ≠ b) : ladder l a b = a :: ladder l (nextR l a b) b := by
  unfold ladder
  rw [(next_dif hb ha hbb h).1]
  rfl
theorem ladder_end {l : List Nat} (a : Nat) : ladder l a a = [a] := by
  unfold ladder
  have : dif a a = 0 := Nat.eq_of_testBit_eq fun i => by rw [dif_bit]; simp
  rw [this]
  rfl
theorem ladder_len {l : List Nat} (a b : Nat) : (ladder l a b).length = pop (dif a b) + 1 := lad_len _ _ _
/-- A ladder: it begins with a, ends with b; its rungs are bases, and one element comes each time. -/
theorem lad_rungs {l : List Nat} (hb : Bas l) {b : Nat} (hbb : b ∈ l) : ∀ (k a : Nat), a ∈ l → pop (dif a b) = k → (lad l k a b).getLast? = some b ∧ (∀ t ∈ lad l k a b, t ∈ l) ∧ (∀ j, j + 1 < (lad l k a b).length → pop (dif ((lad l k a b).getD (j + 1) 0) ((lad l k a b).getD j 0)) = 1)
  | 0, a, ha, hk => by
    have e : a = b := eq_of_pop (hb.lt b hbb) (dif_zero (hb.lt a ha) hk) (Nat.le_of_eq (hb.size b hbb a ha))
    subst e
    refine ⟨rfl, fun t ht => ?_, fun j hj => ?_⟩
    · unfold lad at ht
      rw [List.mem_singleton] at ht
      subst ht
      exact ha
    · unfold lad at hj
      simp at hj
  | k + 1, a, ha, hk => by
    have hne : a ≠ b := fun e => by
      subst e
      have : dif a a = 0 := Nat.eq_of_testBit_eq fun i => by rw [dif_bit]; simp
      rw [this] at hk
      have : pop 0 = 0 := by decide
      omega
    obtain ⟨y, _, _, _, h1, _⟩ := next_is hb ha hbb hne
    obtain ⟨d1, d2⟩ := next_dif hb ha hbb hne
    obtain ⟨i1, i2, i3⟩ := lad_rungs hb hbb k (nextR l a b) h1 (by omega)
    have e0 : (lad l k (nextR l a b) b).getD 0 0 = nextR l a b := by cases k <;> rfl
    have hne2 : lad l k (nextR l a b) b ≠ [] := fun e => by have := lad_len (l := l) k (nextR l a b) b; rw [e] at this; simp at this
    unfold lad
    refine ⟨?_, fun t ht => ?_, fun j hj => ?_⟩
    · rw [List.getLast?_cons_of_ne_nil hne2]
      exact i1
    · rw [List.mem_cons] at ht
      rcases ht with rfl | ht
      · exact ha
      · exact i2 t ht
    · cases j with
      | zero => simp only [List.getD_cons_succ, List.getD_cons_zero]; rw [e0]; exact d2
      | succ j => simp only [List.getD_cons_succ]; exact i3 j (by rw [List.length_cons] at hj; omega)
/-- Which of b's elements can go when i comes. -/
def fundTo (l : List Nat) (b i : Nat) (es : List Nat) : Nat := es.foldl (fun c x => if memB (rm b x ||| 2 ^ i) l = true then c ||| 2 ^ x else c) (2 ^ i)
def fund (l : List Nat) (b i : Nat) : Nat := fundTo l b i (els b)
theorem fundTo_snoc (l : List Nat) (b i : Nat) (es : List Nat) (x : Nat) : fundTo l b i (es ++ [x]) = if memB (rm b x ||| 2 ^ i) l = true then fundTo l b i es ||| 2 ^ x else fundTo l b i es := by
  unfold fundTo
  rw [List.foldl_append]
  rfl
theorem fundTo_lt (l : List Nat) (b i : Nat) (hi : i < 8) (es : List Nat) (h : ∀ x ∈ es, x < 8) : fundTo l b i es < 256 := by
  refine lt_of_bits (n := 8) fun j hj => ?_
  unfold fundTo at hj
  rw [fold_bit (fun x => memB (rm b x ||| 2 ^ i) l = true)] at hj
  simp only [Bool.or_eq_true, Bool.and_eq_true, decide_eq_true_eq] at hj
  rcases hj with hj | hj
  · rw [Nat.testBit_two_pow] at hj
    simp at hj
    omega
  · exact h j hj.1
theorem fund_bit {l : List Nat} {b i : Nat} (hb : b < 256) (j : Nat) : (fund l b i).testBit j = (decide (i = j) || (b.testBit j && memB (rm b j ||| 2 ^ i) l)) := by
  unfold fund fundTo
  rw [fold_bit (fun x => memB (rm b x ||| 2 ^ i) l = true), Nat.testBit_two_pow]
  have := @mem_els b j hb
  congr 1
  cases e : b.testBit j <;> simp_all
/-- The one circuit in b and i. -/
theorem fund_is {n : Nat} {l : List Nat} (hn : n ≤ 8) (hf : Fam n l) (hb : Bas l) {b i : Nat} (hbb : b ∈ l) (hi : i < n) (hbi : b.testBit i = false) {c : Nat} (hc : cirB (rk l) c = true) (hs : subB c (b ||| 2 ^ i) = true) : c = fund l b i := by
  have b1 : b < 2 ^ n := hf.lt b hbb
  have b8 := lt256 hn b1
  have u1 := ad_lt b1 hi
  have c1 := sub_lt hs u1
  have c8 := lt256 hn c1
  have R := hb.rk
  have pb := (bas_mem hn hf hb b1).1 hbb
  have c2 := (cir_iff c8).1 hc
  have hci : c.testBit i = true := by
    cases e : c.testBit i with
    | true => rfl
    | false =>
      exfalso
      refine c2.2 (ind_down R pb.1 (subB_iff.2 fun j hj => ?_))
      have h1 := subB_iff.1 hs j hj
      rw [or_bit] at h1
      by_cases ej : i = j
      · subst ej; rw [e] at hj; cases hj
      · simpa [ej] using h1
  have hru : rk l (b ||| 2 ^ i) = pop b := by
    have h1 := R.mono _ _ (full_sub u1)
    have h2 := R.mono _ _ (sub_or b (2 ^ i))
    omega
  refine Nat.eq_of_testBit_eq fun j => ?_
  rw [fund_bit b8]
  by_cases ej : i = j
  · subst ej; simp [hci]
  · have ej' : decide (i = j) = false := by simp [ej]
    rw [ej', Bool.false_or]
    cases ec : c.testBit j with
    | true =>
      have hbj : b.testBit j = true := by
        have h1 := subB_iff.1 hs j ec
        rw [or_bit] at h1
        simpa [ej] using h1
      have j8 := bit8 b8 hbj
      -- the rest of the circuit spans j
      have k1 := R.cir_in c8 hc ec
      have hsub : subB (rm c j) (rm b j ||| 2 ^ i) = true := subB_iff.2 fun z hz => by
        rw [rm_bit] at hz
        simp at hz
        have h1 := subB_iff.1 hs z hz.1
        rw [or_bit] at h1 ⊢
        rw [rm_bit]
        by_cases ez : i = z <;> simp_all
      have k2 := R.add hsub k1
      have e1 : rm b j ||| 2 ^ i ||| 2 ^ j = b ||| 2 ^ i := Nat.eq_of_testBit_eq fun z => by
        rw [or_bit, or_bit, or_bit, rm_bit]
        by_cases ez : j = z
        · subst ez; simp [hbj]
        · simp [ez]
      rw [e1] at k2
      have lt1 : rm b j ||| 2 ^ i < 2 ^ n := ad_lt (sub_lt (rm_sub b j) b1) hi
      have p1 := pop_rm' b8 hbj
      have p2 := pop_ad (rm b j) (lt256 hn (sub_lt (rm_sub b j) b1)) i (by omega) (by rw [rm_bit, hbi]; rfl)
      have : rm b j ||| 2 ^ i ∈ l := (bas_mem hn hf hb lt1).2 ⟨by omega, by omega⟩
      rw [hbj]
      unfold memB
      simp [this]
    | false =>
      cases hbj : b.testBit j with
      | false => rfl
      | true =>
        have hsub : subB c (rm b j ||| 2 ^ i) = true := subB_iff.2 fun z hz => by
          have h1 := subB_iff.1 hs z hz
          rw [or_bit] at h1 ⊢
          rw [rm_bit]
          by_cases ez : j = z
          · subst ez; rw [ec] at hz; cases hz
          · by_cases ez2 : i = z <;> simp_all
        have hno : ¬ (rm b j ||| 2 ^ i ∈ l) := fun hm => by
          have lt1 := hf.lt _ hm
          have := (bas_mem hn hf hb lt1).1 hm
          exact c2.2 (ind_down R this.1 hsub)
        unfold memB
        simp [hno]
theorem fund_cir {n : Nat} {l : List Nat} (hn : n ≤ 8) (hf : Fam n l) (hb : Bas l) {b i : Nat} (hbb : b ∈ l) (hi : i < n) (hbi : b.testBit i = false) : fund l b i < 2 ^ n ∧ cirB (rk l) (fund l b i) = true ∧ subB (fund l b i) (b ||| 2 ^ i) = true ∧ dif (fund l b i) b = 2 ^ i := by
  have b1 : b < 2 ^ n := hf.lt b hbb
  have b8 := lt256 hn b1
  have u1 := ad_lt b1 hi
  have R := hb.rk
  have pb := (bas_mem hn hf hb b1).1 hbb
  have hdep : rk l (b ||| 2 ^ i) ≠ pop (b ||| 2 ^ i) := by
    have h1 := R.mono _ _ (full_sub u1)
    have h2 := pop_ad b b8 i (by omega) hbi
    omega
  obtain ⟨c, h1, h2⟩ := dep_cir R (lt256 hn u1) hdep
  have e := fund_is hn hf hb hbb hi hbi h2 h1
  rw [← e]
  refine ⟨sub_lt h1 u1, h2, h1, ?_⟩
  rw [e]
  refine Nat.eq_of_testBit_eq fun j => ?_
  rw [dif_bit, fund_bit b8, Nat.testBit_two_pow]
  by_cases ej : i = j
  · subst ej; simp [hbi]
  · cases e : b.testBit j <;> simp [ej]
end Go.Proofs.YtdabkgbbalooiaaDoor

namespace Go.Proofs.YtdabkgbbalooiaaDoor

/-- Numbers of sets that grow slower and slower. -/
structure SubOn (n : Nat) (f : Nat → Nat) : Prop where
  zero : f 0 = 0
  mono : ∀ s t, s < 2 ^ n → t < 2 ^ n → subB s t = true → f s ≤ f t
  sub : ∀ s t, s < 2 ^ n → t < 2 ^ n → f (s ||| t) + f (s &&& t) ≤ f s + f t
theorem RkOn.subOn {n : Nat} {r : Nat → Nat} (h : RkOn n r) : SubOn n r := ⟨h.zero, h.mono, h.sub⟩
theorem SubOn.plus {n : Nat} {f g : Nat → Nat} (hf : SubOn n f) (hg : SubOn n g) : SubOn n fun s => f s + g s := by
  refine ⟨?_, fun s t hs ht hst => ?_, fun s t hs ht => ?_⟩
  · show f 0 + g 0 = 0
    rw [hf.zero, hg.zero]
  · exact Nat.add_le_add (hf.mono s t hs ht hst) (hg.mono s t hs ht hst)
  · have h1 := hf.sub s t hs ht
    have h2 := hg.sub s t hs ht
    show f (s ||| t) + g (s ||| t) + (f (s &&& t) + g (s &&& t)) ≤ f s + g s + (f t + g t)
    omega
theorem SubOn.times {n : Nat} {f : Nat → Nat} (hf : SubOn n f) : ∀ k : Nat, SubOn n fun s => k * f s
  | 0 => ⟨Nat.zero_mul _, fun s t _ _ _ => by simp, fun s t _ _ => by simp⟩
  | k + 1 => by
    have h := (hf.times k).plus hf
    refine ⟨?_, fun s t hs ht hst => ?_, fun s t hs ht => ?_⟩
    · have := h.zero; rw [Nat.succ_mul]; exact this
    · have := h.mono s t hs ht hst; rw [Nat.succ_mul, Nat.succ_mul]; exact this
    · have := h.sub s t hs ht; rw [Nat.succ_mul, Nat.succ_mul, Nat.succ_mul, Nat.succ_mul]; exact this

/-- The least of what the sets within s say. -/
def lowF (f : Nat → Nat) (s T m : Nat) : Nat := (List.range T).foldl (fun m t => if subB t s = true then min m (f t + pop (dif s t)) else m) m
def lowR (f : Nat → Nat) (s : Nat) : Nat := lowF f s (s + 1) (pop s)
theorem lowF_succ (f : Nat → Nat) (s T m : Nat) : lowF f s (T + 1) m = if subB T s = true then min (lowF f s T m) (f T + pop (dif s T)) else lowF f s T m := by
  unfold lowF
  rw [List.range_succ, List.foldl_append]
  rfl
theorem lowF_le (f : Nat → Nat) (s m : Nat) : ∀ T, lowF f s T m ≤ m ∧ ∀ t, t < T → subB t s = true → lowF f s T m ≤ f t + pop (dif s t)
  | 0 => ⟨Nat.le_refl _, fun t ht => by omega⟩
  | T + 1 => by
    have ih := lowF_le f s m T
    rw [lowF_succ]
    refine ⟨?_, fun t ht hts => ?_⟩
    · split <;> omega
    · rcases Nat.lt_or_ge t T with g | g
      · have := ih.2 t g hts
        split <;> omega
      · obtain rfl : t = T := by omega
        rw [if_pos hts]
        omega
theorem lowF_at (f : Nat → Nat) (s m : Nat) : ∀ T, lowF f s T m = m ∨ ∃ t, t < T ∧ subB t s = true ∧ lowF f s T m = f t + pop (dif s t)
  | 0 => Or.inl rfl
  | T + 1 => by
    have ih := lowF_at f s m T
    rw [lowF_succ]
    split
    · rename_i hT
      rcases Nat.le_total (lowF f s T m) (f T + pop (dif s T)) with g | g
      · rw [Nat.min_eq_left g]
        rcases ih with e | ⟨t, h1, h2, h3⟩
        · exact Or.inl e
        · exact Or.inr ⟨t, by omega, h2, h3⟩
      · rw [Nat.min_eq_right g]
        exact Or.inr ⟨T, by omega, hT, rfl⟩
    · rcases ih with e | ⟨t, h1, h2, h3⟩
      · exact Or.inl e
      · exact Or.inr ⟨t, by omega, h2, h3⟩
theorem subB_le {t s : Nat} (h : subB t s = true) : t ≤ s := by
  rw [← sub_and h]
  exact Nat.and_le_right
theorem lowR_le {f : Nat → Nat} {s t : Nat} (h : subB t s = true) : lowR f s ≤ f t + pop (dif s t) := (lowF_le f s (pop s) (s + 1)).2 t (by have := subB_le h; omega) h
theorem dif_nil (s : Nat) : dif s 0 = s := Nat.eq_of_testBit_eq fun j => by rw [dif_bit]; simp
theorem zero_sub (s : Nat) : subB 0 s = true := subB_iff.2 fun i hi => by simp at hi
theorem lowR_at {f : Nat → Nat} (h0 : f 0 = 0) (s : Nat) : ∃ t, subB t s = true ∧ lowR f s = f t + pop (dif s t) := by
  rcases lowF_at f s (pop s) (s + 1) with e | ⟨t, _, h2, h3⟩
  · exact ⟨0, zero_sub s, by rw [h0, dif_nil, Nat.zero_add]; exact e⟩
  · exact ⟨t, h2, h3⟩
theorem lowR_pop (f : Nat → Nat) (s : Nat) : lowR f s ≤ pop s := (lowF_le f s (pop s) (s + 1)).1
theorem pop_split {s t : Nat} (h : subB t s = true) : pop (dif s t) + pop t = pop s := by
  have := pop_dif s t
  rwa [Nat.and_comm, sub_and h] at this
theorem and_subl (s t : Nat) : subB (s &&& t) s = true := subB_iff.2 fun i hi => by rw [and_bit] at hi; simp at hi; exact hi.1
theorem and_subr (s t : Nat) : subB (s &&& t) t = true := subB_iff.2 fun i hi => by rw [and_bit] at hi; simp at hi; exact hi.2
theorem or_sub {a b c d : Nat} (h : subB a c = true) (k : subB b d = true) : subB (a ||| b) (c ||| d) = true := subB_iff.2 fun i hi => by
  rw [Nat.testBit_or] at hi ⊢
  have h1 := subB_iff.1 h i
  have h2 := subB_iff.1 k i
  cases e1 : a.testBit i <;> cases e2 : b.testBit i <;> simp_all
theorem and_sub2 {a b c d : Nat} (h : subB a c = true) (k : subB b d = true) : subB (a &&& b) (c &&& d) = true := subB_iff.2 fun i hi => by
  rw [and_bit] at hi ⊢
  simp only [Bool.and_eq_true] at hi ⊢
  exact ⟨subB_iff.1 h i hi.1, subB_iff.1 k i hi.2⟩
theorem dif_mono {a b c d : Nat} (h : subB a c = true) (k : ∀ i, d.testBit i = true → a.testBit i = true → b.testBit i = true) : subB (dif a b) (dif c d) = true := subB_iff.2 fun i hi => by
  rw [dif_bit] at hi ⊢
  simp only [Bool.and_eq_true, Bool.not_eq_true'] at hi ⊢
  refine ⟨subB_iff.1 h i hi.1, ?_⟩
  cases e : d.testBit i
  · rfl
  · have := k i e hi.1
    rw [this] at hi
    cases hi.2
/-- EDMONDS: the least of what the sets within say is the ranks of a matroid. -/
theorem SubOn.low {n : Nat} {f : Nat → Nat} (h : SubOn n f) : RkOn n (lowR f) := by
  refine ⟨fun s _ => lowR_pop f s, fun s t hs ht hst => ?_, fun s t hs ht => ?_⟩
  · obtain ⟨x, h1, h2⟩ := lowR_at h.zero t
    have h3 := lowR_le (f := f) (and_subr x s)
    have hx := sub_lt h1 ht
    have h4 := h.mono (x &&& s) x (and_ltn hx) hx (and_subl x s)
    have h5 : pop (dif s (x &&& s)) ≤ pop (dif t x) := pop_sub (dif_mono hst fun i hx hs => by rw [and_bit, hx, hs]; rfl)
    omega
  · obtain ⟨x, h1, h2⟩ := lowR_at h.zero s
    obtain ⟨y, h3, h4⟩ := lowR_at h.zero t
    have hx := sub_lt h1 hs
    have hy := sub_lt h3 ht
    have h5 := lowR_le (f := f) (or_sub h1 h3)
    have h6 := lowR_le (f := f) (and_sub2 h1 h3)
    have h7 := h.sub x y hx hy
    have p1 := pop_split h1
    have p2 := pop_split h3
    have p3 := pop_split (or_sub h1 h3)
    have p4 := pop_split (and_sub2 h1 h3)
    have p5 := pop_or_and s t
    have p6 := pop_or_and x y
    omega
theorem low_ind {f : Nat → Nat} (h0 : f 0 = 0) {s : Nat} : lowR f s = pop s ↔ ∀ t, subB t s = true → pop t ≤ f t := by
  constructor
  · intro h t ht
    have h1 := lowR_le (f := f) ht
    have h2 := pop_split ht
    omega
  · intro h
    obtain ⟨t, h1, h2⟩ := lowR_at h0 s
    have h3 := h t h1
    have h4 := pop_split h1
    have h5 := lowR_pop f s
    omega

/-- Can s be shared out? -/
def shareB (r q : Nat → Nat) (s : Nat) : Bool := (List.range (s + 1)).any fun t => subB t s && r t == pop t && q (dif s t) == pop (dif s t)
theorem share_iff {r q : Nat → Nat} {s : Nat} : shareB r q s = true ↔ ∃ t, subB t s = true ∧ r t = pop t ∧ q (dif s t) = pop (dif s t) := by
  unfold shareB
  simp only [List.any_eq_true, List.mem_range, Bool.and_eq_true, beq_iff_eq]
  constructor
  · rintro ⟨t, _, ⟨h1, h2⟩, h3⟩
    exact ⟨t, h1, h2, h3⟩
  · rintro ⟨t, h1, h2, h3⟩
    exact ⟨t, by have := subB_le h1; omega, ⟨h1, h2⟩, h3⟩
theorem RkOn.indn {n : Nat} {r : Nat → Nat} (h : RkOn n r) {a b : Nat} (hb : b < 2 ^ n) (hi : r b = pop b) (hab : subB a b = true) : r a = pop a := by
  have ha := sub_lt hab hb
  have h1 := h.gap hb ha
  have h2 := h.le a ha
  have h3 := pop_split hab
  omega
theorem RkOn.within {n : Nat} {r : Nat → Nat} (h : RkOn n r) (s : Nat) : RkOn n fun x => r (x &&& s) := by
  refine ⟨fun x hx => Nat.le_trans (h.le _ (and_ltn hx)) (pop_sub (and_subl x s)), fun x y hx hy hxy => h.mono _ _ (and_ltn hx) (and_ltn hy) (and_sub2 hxy (sub_refl s)), fun x y hx hy => ?_⟩
  have h1 := h.sub (x &&& s) (y &&& s) (and_ltn hx) (and_ltn hy)
  have e1 : x &&& s ||| y &&& s = (x ||| y) &&& s := Nat.eq_of_testBit_eq fun j => by
    simp only [Nat.testBit_or, Nat.testBit_and]; cases x.testBit j <;> cases y.testBit j <;> simp
  have e2 : (x &&& s) &&& (y &&& s) = (x &&& y) &&& s := Nat.eq_of_testBit_eq fun j => by
    simp only [Nat.testBit_and]; cases x.testBit j <;> cases y.testBit j <;> simp
  rw [e1, e2] at h1
  exact h1
/-- EDMONDS: s can be shared out just if no set within has more elements than the ranks together. -/
theorem share_low {n : Nat} {r q : Nat → Nat} (hn : n ≤ 8) (hr : RkOn n r) (hq : RkOn n q) {s : Nat} (hs : s < 2 ^ n) : shareB r q s = true ↔ lowR (fun t => r t + q t) s = pop s := by
  have h0 : (fun t => r t + q t) 0 = 0 := by show r 0 + q 0 = 0; rw [hr.zero, hq.zero]
  rw [low_ind h0, share_iff]
  constructor
  · rintro ⟨t, h1, h2, h3⟩ x hx
    have ht := sub_lt h1 hs
    have hxn := sub_lt hx hs
    have a1 : r (x &&& t) = pop (x &&& t) := hr.indn ht h2 (and_subr x t)
    have a2 : q (dif x t) = pop (dif x t) := hq.indn (difn_lt hs) h3 (dif_mono hx fun i h _ => h)
    have b1 := hr.mono _ x (and_ltn hxn) hxn (and_subl x t)
    have b2 := hq.mono _ x (difn_lt hxn) hxn (dif_subl x t)
    have p := pop_dif x t
    show pop x ≤ r x + q x
    omega
  · intro h
    have hq' : RkOn n (dualR n fun y => q (y &&& s)) := dual_rkOn (hq.within s)
    have es : (2 ^ n - 1) &&& s = s := by rw [Nat.and_comm]; exact mask_in hs
    have hqs := hq.le s hs
    obtain ⟨i, i1, i2, i3, i4⟩ := isect n hn _ _ (hr.within s) hq' (pop s - q s) fun x hx => by
      have h1 := h (x &&& s) (and_subr x s)
      have h2 := dual_add (hq.within s) (cpl_lt (n := n) (s := x))
      have e : 2 ^ n - 1 - (2 ^ n - 1 - x) = x := by omega
      have p := pop_split (and_subr x s)
      have p2 : pop (dif s (x &&& s)) ≤ pop (2 ^ n - 1 - x) := pop_sub (subB_iff.2 fun i hi => by
        rw [dif_bit, and_bit] at hi
        rw [cpl_bit hx]
        have := bit_n hs (i := i)
        cases e1 : s.testBit i <;> cases e2 : x.testBit i <;> simp_all)
      rw [e] at h2
      simp only [es] at h2
      have h1 : pop (x &&& s) ≤ r (x &&& s) + q (x &&& s) := h1
      show pop s - q s ≤ r (x &&& s) + dualR n (fun y => q (y &&& s)) (2 ^ n - 1 - x)
      omega
    have i3 : r (i &&& s) = pop s - q s := i3
    have hle := hr.le (i &&& s) (and_ltn i1)
    have e : i &&& s = i := eq_of_pop (lt256 hn i1) (and_subl i s) (by omega)
    have his : subB i s = true := by unfold subB; rw [beq_iff_eq]; exact e
    have h2 := dual_add (hq.within s) i1
    simp only [es] at h2
    have e2 : (2 ^ n - 1 - i) &&& s = dif s i := Nat.eq_of_testBit_eq fun j => by
      rw [and_bit, cpl_bit i1, dif_bit]
      have := bit_n hs (i := j)
      cases e1 : s.testBit j <;> simp_all
    rw [e2] at h2
    have p := pop_split his
    refine ⟨i, his, ?_, ?_⟩
    · rw [e] at i3
      omega
    · omega
/-- The union's ranks. -/
def uniR (l k : List Nat) : Nat → Nat := lowR fun t => rk l t + rk k t
def uniN (n : Nat) (l k : List Nat) : List Nat := basR n (uniR l k)
theorem uni_rkOn {l k : List Nat} (n : Nat) (hl : Bas l) (hk : Bas k) : RkOn n (uniR l k) := ((hl.rkOn n).subOn.plus (hk.rkOn n).subOn).low
theorem uni_ind {n : Nat} {l k : List Nat} (hn : n ≤ 8) (hl : Bas l) (hk : Bas k) {s : Nat} (hs : s < 2 ^ n) : shareB (rk l) (rk k) s = (uniR l k s == pop s) := by
  rw [Bool.eq_iff_iff, beq_iff_eq]
  exact share_low hn (hl.rkOn n) (hk.rkOn n) hs
theorem uniR_comm (l k : List Nat) : uniR l k = uniR k l := by
  unfold uniR
  congr 1
  funext t
  exact Nat.add_comm _ _
theorem uniN_comm (n : Nat) (l k : List Nat) : uniN n l k = uniN n k l := by unfold uniN; rw [uniR_comm]
end Go.Proofs.YtdabkgbbalooiaaDoor

namespace Go.Proofs.YtdabkgbbalooiaaDoor

/-- Is s cut into k independent sets? -/
def covB (r : Nat → Nat) : Nat → Nat → Bool
  | 0, s => s == 0
  | k + 1, s => (List.range (s + 1)).any fun t => subB t s && r t == pop t && covB r k (dif s t)
theorem cov_succ {r : Nat → Nat} {k s : Nat} : covB r (k + 1) s = true ↔ ∃ t, subB t s = true ∧ r t = pop t ∧ covB r k (dif s t) = true := by
  rw [covB]
  simp only [List.any_eq_true, List.mem_range, Bool.and_eq_true, beq_iff_eq]
  constructor
  · rintro ⟨t, _, ⟨h1, h2⟩, h3⟩
    exact ⟨t, h1, h2, h3⟩
  · rintro ⟨t, h1, h2, h3⟩
    exact ⟨t, by have := subB_le h1; omega, ⟨h1, h2⟩, h3⟩
theorem low_times {n : Nat} {r : Nat → Nat} (hr : RkOn n r) (k : Nat) {s : Nat} (hs : s < 2 ^ n) : lowR (fun t => r t + lowR (fun t => k * r t) t) s = lowR (fun t => (k + 1) * r t) s := by
  have z1 : (fun t => k * r t) 0 = 0 := by show k * r 0 = 0; rw [hr.zero, Nat.mul_zero]
  have z2 : (fun t => (k + 1) * r t) 0 = 0 := by show (k + 1) * r 0 = 0; rw [hr.zero, Nat.mul_zero]
  have z3 : (fun t => r t + lowR (fun t => k * r t) t) 0 = 0 := by
    show r 0 + lowR (fun t => k * r t) 0 = 0
    have := lowR_pop (fun t => k * r t) 0
    have e : pop 0 = 0 := by decide
    rw [hr.zero]
    omega
  apply Nat.le_antisymm
  · obtain ⟨t, h1, h2⟩ := lowR_at (f := fun t => (k + 1) * r t) z2 s
    have h3 := lowR_le (f := fun t => r t + lowR (fun t => k * r t) t) h1
    have h4 := lowR_le (f := fun t => k * r t) (sub_refl t)
    have e : pop (dif t t) = 0 := by have := pop_split (sub_refl t); omega
    have e2 : (k + 1) * r t = k * r t + r t := Nat.succ_mul k (r t)
    rw [h2]
    omega
  · obtain ⟨t, h1, h2⟩ := lowR_at (f := fun t => r t + lowR (fun t => k * r t) t) z3 s
    obtain ⟨x, h3, h4⟩ := lowR_at (f := fun t => k * r t) z1 t
    have h5 := lowR_le (f := fun t => (k + 1) * r t) (sub_trans h3 h1)
    have h6 := hr.mono x t (sub_lt (sub_trans h3 h1) hs) (sub_lt h1 hs) h3
    have p1 := pop_split h1
    have p2 := pop_split h3
    have p3 := pop_split (sub_trans h3 h1)
    have e2 : (k + 1) * r x = k * r x + r x := Nat.succ_mul k (r x)
    omega
/-- EDMONDS: k independent sets cut s just if no set within has more than k times its rank. -/
theorem cov_low {n : Nat} {r : Nat → Nat} (hn : n ≤ 8) (hr : RkOn n r) : ∀ (k s : Nat), s < 2 ^ n → (covB r k s = true ↔ lowR (fun t => k * r t) s = pop s) := by
  intro k
  induction k with
  | zero =>
    intro s hs
    rw [covB, beq_iff_eq, low_ind (by show 0 * r 0 = 0; omega)]
    constructor
    · rintro rfl t ht
      have e : t = 0 := by have := subB_le ht; omega
      subst e
      have : pop 0 = 0 := by decide
      omega
    · intro h
      have h1 : pop s ≤ 0 * r s := h s (sub_refl s)
      exact (pop_pos s (lt256 hn hs)).1 (by omega)
  | succ k ih =>
    intro s hs
    have hu : RkOn n (lowR fun t => k * r t) := (hr.subOn.times k).low
    have h1 := share_low hn hr hu hs
    rw [low_times hr k hs] at h1
    rw [← h1, cov_succ, share_iff]
    constructor
    · rintro ⟨t, a, b, c⟩
      exact ⟨t, a, b, (ih _ (difn_lt hs)).1 c⟩
    · rintro ⟨t, a, b, c⟩
      exact ⟨t, a, b, (ih _ (difn_lt hs)).2 c⟩
theorem cov_iff {n : Nat} {r : Nat → Nat} (hn : n ≤ 8) (hr : RkOn n r) {k s : Nat} (hs : s < 2 ^ n) : covB r k s = true ↔ ∀ t, subB t s = true → pop t ≤ k * r t := by
  rw [cov_low hn hr k s hs, low_ind (by show k * r 0 = 0; rw [hr.zero, Nat.mul_zero])]
theorem cov_mono {n : Nat} {r : Nat → Nat} (hn : n ≤ 8) (hr : RkOn n r) {k j s t : Nat} (hs : s < 2 ^ n) (hkj : k ≤ j) (hts : subB t s = true) (h : covB r k s = true) : covB r j t = true := by
  rw [cov_iff hn hr (sub_lt hts hs)]
  intro x hx
  exact Nat.le_trans ((cov_iff hn hr hs).1 h x (sub_trans hx hts)) (Nat.mul_le_mul_right _ hkj)
/-- No loops. -/
def NoLoop (n : Nat) (r : Nat → Nat) : Prop := ∀ t, t < 2 ^ n → t ≠ 0 → 1 ≤ r t
theorem noLoop_of {n : Nat} {r : Nat → Nat} (hr : RkOn n r) (h : ∀ i, i < n → r (2 ^ i) ≠ 0) : NoLoop n r := fun t ht h0 => by
  obtain ⟨i, hi⟩ := exists_bit h0
  have hin := bit_n ht hi
  have := hr.mono (2 ^ i) t (Nat.pow_lt_pow_right (by omega) hin) ht (subB_iff.2 fun j hj => by
    rw [Nat.testBit_two_pow] at hj
    simp at hj
    rw [← hj]
    exact hi)
  have := h i hin
  omega
theorem cov_all {n : Nat} {r : Nat → Nat} (hn : n ≤ 8) (hr : RkOn n r) (hl : NoLoop n r) {s : Nat} (hs : s < 2 ^ n) : covB r (pop s) s = true := by
  rw [cov_iff hn hr hs]
  intro t ht
  by_cases h0 : t = 0
  · subst h0
    have : pop 0 = 0 := by decide
    omega
  · have h1 := hl t (sub_lt ht hs) h0
    have h2 := pop_sub ht
    have h3 : pop s * 1 ≤ pop s * r t := Nat.mul_le_mul_left _ h1
    omega
/-- How few independent sets cut s. -/
def cvN (r : Nat → Nat) (s : Nat) : Nat := ((List.range 9).find? fun k => covB r k s).getD 9
theorem find_least {p : Nat → Bool} : ∀ (T : Nat), (∃ k, k < T ∧ p k = true) → ∃ k, (List.range T).find? p = some k ∧ p k = true ∧ ∀ j, p j = true → k ≤ j
  | 0, h => by obtain ⟨k, h1, _⟩ := h; omega
  | T + 1, h => by
    by_cases hT : ∃ k, k < T ∧ p k = true
    · obtain ⟨k, h1, h2, h3⟩ := find_least T hT
      exact ⟨k, by rw [List.range_succ, List.find?_append, h1]; rfl, h2, h3⟩
    · obtain ⟨k, h1, h2⟩ := h
      obtain rfl : k = T := by
        rcases Nat.lt_or_ge k T with g | g
        · exact absurd ⟨k, g, h2⟩ hT
        · omega
      refine ⟨k, ?_, h2, fun j hj => ?_⟩
      · rw [List.range_succ, List.find?_append, List.find?_eq_none.2 (fun x hx hp => hT ⟨x, List.mem_range.1 hx, hp⟩)]
        simp [h2]
      · rcases Nat.lt_or_ge j k with g | g
        · exact absurd ⟨j, g, hj⟩ hT
        · exact g
theorem cvN_spec {n : Nat} {r : Nat → Nat} (hn : n ≤ 8) (hr : RkOn n r) (hl : NoLoop n r) {s : Nat} (hs : s < 2 ^ n) : covB r (cvN r s) s = true ∧ (∀ k, covB r k s = true → cvN r s ≤ k) ∧ cvN r s ≤ pop s := by
  have h1 := cov_all hn hr hl hs
  obtain ⟨k, e, h2, h3⟩ := find_least (p := fun k => covB r k s) 9 ⟨pop s, by have := pop_le s (lt256 hn hs); omega, h1⟩
  have e2 : cvN r s = k := by unfold cvN; rw [e]; rfl
  rw [e2]
  exact ⟨h2, h3, h3 _ h1⟩
theorem cvN_zero (r : Nat → Nat) : cvN r 0 = 0 := by
  unfold cvN
  simp [List.range_succ, covB]
/-- The least element, as a set. -/
def lowS (s : Nat) : Nat := if s = 0 then 0 else 2 ^ tz s
def candB (r : Nat → Nat) (s t : Nat) : Bool := subB (lowS s) t && subB t s && r t == pop t
theorem tz_in : ∀ s : Nat, s < 256 → 0 < s → s.testBit (tz s) = true := by decide +kernel
theorem pow_sub {i t : Nat} : subB (2 ^ i) t = true ↔ t.testBit i = true := by
  rw [subB_iff]
  constructor
  · intro h
    exact h i (by simp)
  · intro h j hj
    rw [Nat.testBit_two_pow] at hj
    simp at hj
    rw [← hj]
    exact h
theorem cov_with {r : Nat → Nat} : ∀ (k s i : Nat), covB r (k + 1) s = true → s.testBit i = true → ∃ t, subB t s = true ∧ t.testBit i = true ∧ r t = pop t ∧ covB r k (dif s t) = true := by
  intro k
  induction k with
  | zero =>
    intro s i h hi
    obtain ⟨t, h1, h2, h3⟩ := cov_succ.1 h
    refine ⟨t, h1, ?_, h2, h3⟩
    rw [covB, beq_iff_eq] at h3
    have := dif_bit s t i
    rw [h3, hi] at this
    simp at this
    exact this
  | succ k ih =>
    intro s i h hi
    obtain ⟨t, h1, h2, h3⟩ := cov_succ.1 h
    by_cases hit : t.testBit i = true
    · exact ⟨t, h1, hit, h2, h3⟩
    · obtain ⟨x, a1, a2, a3, a4⟩ := ih (dif s t) i h3 (by rw [dif_bit, hi]; simpa using hit)
      refine ⟨x, sub_trans a1 (dif_subl s t), a2, a3, cov_succ.2 ⟨t, subB_iff.2 fun j hj => ?_, h2, ?_⟩⟩
      · rw [dif_bit, subB_iff.1 h1 j hj]
        have := subB_iff.1 a1 j
        rw [dif_bit, hj] at this
        cases e : x.testBit j
        · rfl
        · have := this e
          simp at this
      · have e : dif (dif s x) t = dif (dif s t) x := Nat.eq_of_testBit_eq fun j => by
          simp only [dif_bit]
          cases s.testBit j <;> cases x.testBit j <;> cases t.testBit j <;> rfl
        rw [e]
        exact a4
theorem lowS_sub {s t : Nat} (h0 : s ≠ 0) : subB (lowS s) t = true ↔ t.testBit (tz s) = true := by
  unfold lowS
  rw [if_neg h0, pow_sub]
theorem cand_iff {r : Nat → Nat} {s t : Nat} (h0 : s ≠ 0) : candB r s t = true ↔ t.testBit (tz s) = true ∧ subB t s = true ∧ r t = pop t := by
  unfold candB
  rw [Bool.and_eq_true, Bool.and_eq_true, beq_iff_eq, lowS_sub h0, and_assoc]
/-- What begins a cover of fewest sets, and what does not. -/
theorem cv_step {n : Nat} {r : Nat → Nat} (hn : n ≤ 8) (hr : RkOn n r) (hl : NoLoop n r) {s : Nat} (hs : s < 2 ^ n) (h0 : s ≠ 0) : (∀ t, subB t s = true → r t = pop t → cvN r s ≤ cvN r (dif s t) + 1) ∧ ∃ t, candB r s t = true ∧ cvN r (dif s t) + 1 = cvN r s := by
  have h8 := lt256 hn hs
  obtain ⟨c1, c2, c3⟩ := cvN_spec hn hr hl hs
  have A : ∀ t, subB t s = true → r t = pop t → cvN r s ≤ cvN r (dif s t) + 1 := fun t h1 h2 => c2 _ (cov_succ.2 ⟨t, h1, h2, (cvN_spec hn hr hl (difn_lt hs)).1⟩)
  refine ⟨A, ?_⟩
  cases e : cvN r s with
  | zero =>
    rw [e, covB, beq_iff_eq] at c1
    exact absurd c1 h0
  | succ k =>
    rw [e] at c1
    obtain ⟨t, a1, a2, a3, a4⟩ := cov_with k s (tz s) c1 (tz_in s h8 (by omega))
    have h1 := (cvN_spec hn hr hl (difn_lt (b := t) hs)).2.1 k a4
    have h2 := A t a1 a3
    exact ⟨t, (cand_iff h0).2 ⟨a2, a1, a3⟩, by omega⟩
/-- The least set that begins a cover of fewest sets. -/
def cvF (r : Nat → Nat) (s : Nat) : Nat := ((List.range (s + 1)).find? fun t => candB r s t && cvN r (dif s t) + 1 == cvN r s).getD 0
theorem cvF_spec {n : Nat} {r : Nat → Nat} (hn : n ≤ 8) (hr : RkOn n r) (hl : NoLoop n r) {s : Nat} (hs : s < 2 ^ n) (h0 : s ≠ 0) : candB r s (cvF r s) = true ∧ cvN r (dif s (cvF r s)) + 1 = cvN r s ∧ ∀ t, candB r s t = true → cvN r (dif s t) + 1 = cvN r s → cvF r s ≤ t := by
  obtain ⟨t, h1, h2⟩ := (cv_step hn hr hl hs h0).2
  have hts := ((cand_iff h0).1 h1).2.1
  obtain ⟨k, e, h3, h4⟩ := find_least (p := fun t => candB r s t && cvN r (dif s t) + 1 == cvN r s) (s + 1) ⟨t, by have := subB_le hts; omega, by rw [h1, h2]; simp⟩
  have e2 : cvF r s = k := by unfold cvF; rw [e]; rfl
  rw [e2]
  rw [Bool.and_eq_true, beq_iff_eq] at h3
  exact ⟨h3.1, h3.2, fun t a b => h4 t (by rw [Bool.and_eq_true, beq_iff_eq]; exact ⟨a, b⟩)⟩
theorem cvF_ne {n : Nat} {r : Nat → Nat} (hn : n ≤ 8) (hr : RkOn n r) (hl : NoLoop n r) {s : Nat} (hs : s < 2 ^ n) (h0 : s ≠ 0) : cvF r s ≠ 0 := fun e => by
  have h := (cvF_spec hn hr hl hs h0).1
  rw [e, cand_iff h0] at h
  simp at h
theorem cvF_zero (r : Nat → Nat) : cvF r 0 = 0 := by
  unfold cvF
  simp [List.range_succ, cvN_zero]
theorem cvF_sub {n : Nat} {r : Nat → Nat} (hn : n ≤ 8) (hr : RkOn n r) (hl : NoLoop n r) {s : Nat} (hs : s < 2 ^ n) : subB (cvF r s) s = true := by
  by_cases h0 : s = 0
  · subst h0
    rw [cvF_zero]
    decide
  · exact ((cand_iff h0).1 (cvF_spec hn hr hl hs h0).1).2.1

/-- What is taken, one after another. -/
def takeF (f : Nat → Nat) : Nat → Nat → List Nat
  | 0, _ => []
  | k + 1, s => if f s = 0 then [] else f s :: takeF f k (dif s (f s))
/-- What is left. -/
def restF (f : Nat → Nat) (s : Nat) : Nat → Nat
  | 0 => s
  | j + 1 => dif (restF f s j) (f (restF f s j))
theorem restF_sub (f : Nat → Nat) (s : Nat) : ∀ j, subB (restF f s j) s = true
  | 0 => sub_refl s
  | j + 1 => sub_trans (dif_subl _ _) (restF_sub f s j)
theorem restF_shift (f : Nat → Nat) (s : Nat) : ∀ j, restF f s (j + 1) = restF f (dif s (f s)) j
  | 0 => rfl
  | j + 1 => by rw [restF, restF_shift f s j]; rfl
theorem takeF_at (f : Nat → Nat) : ∀ (k s j : Nat), j < (takeF f k s).length → (takeF f k s).getD j 0 = f (restF f s j) ∧ f (restF f s j) ≠ 0
  | 0, s, j, h => by simp [takeF] at h
  | k + 1, s, j, h => by
    rw [takeF] at h ⊢
    by_cases h0 : f s = 0
    · rw [if_pos h0] at h
      simp at h
    · rw [if_neg h0] at h ⊢
      cases j with
      | zero => exact ⟨rfl, h0⟩
      | succ j =>
        rw [restF_shift]
        have := takeF_at f k (dif s (f s)) j (by simpa using h)
        exact this
theorem takeF_len_le (f : Nat → Nat) : ∀ (k s : Nat), (takeF f k s).length ≤ k
  | 0, _ => Nat.le_refl _
  | k + 1, s => by
    rw [takeF]
    split
    · simp
    · have := takeF_len_le f k (dif s (f s))
      simp
      omega
theorem takeF_end (f : Nat → Nat) : ∀ (k s : Nat), (takeF f k s).length < k → f (restF f s (takeF f k s).length) = 0
  | 0, _, h => by simp [takeF] at h
  | k + 1, s, h => by
    rw [takeF] at h ⊢
    by_cases h0 : f s = 0
    · rw [if_pos h0]
      exact h0
    · rw [if_neg h0] at h ⊢
      rw [List.length_cons, restF_shift]
      exact takeF_end f k (dif s (f s)) (by simpa using h)
theorem cov_len {n : Nat} {r : Nat → Nat} (hn : n ≤ 8) (hr : RkOn n r) (hl : NoLoop n r) : ∀ (k s : Nat), s < 2 ^ n → cvN r s ≤ k → (takeF (cvF r) k s).length = cvN r s
  | 0, s, _, h => by rw [takeF]; simp; omega
  | k + 1, s, hs, h => by
    rw [takeF]
    by_cases h0 : s = 0
    · subst h0
      rw [if_pos (cvF_zero r), cvN_zero]
      rfl
    · rw [if_neg (cvF_ne hn hr hl hs h0), List.length_cons]
      have h1 := (cvF_spec hn hr hl hs h0).2.1
      rw [cov_len hn hr hl k _ (difn_lt hs) (by omega)]
      exact h1
/-- The whole cover. -/
def covL (n : Nat) (r : Nat → Nat) : List Nat := takeF (cvF r) 9 (2 ^ n - 1)
theorem covL_len {n : Nat} {r : Nat → Nat} (hn : n ≤ 8) (hr : RkOn n r) (hl : NoLoop n r) : (covL n r).length = cvN r (2 ^ n - 1) := by
  refine cov_len hn hr hl 9 _ (full_lt n) ?_
  have := (cvN_spec hn hr hl (full_lt n)).2.2
  have := pop_le _ (lt256 hn (full_lt n))
  omega
end Go.Proofs.YtdabkgbbalooiaaDoor
