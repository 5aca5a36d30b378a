/- Plain mathematics of sets, matroids, graphs and lists, on which the walks rest. -/
import Derived.Test.YtkmpnaohdijpnaaGreatDoorPlainAll1
import Derived.Test.YtkmpnaohdijpnaaGreatDoorPlainAll
namespace Go.Proofs.YtkmpnaohdijpnaaGreatDoor

variable {E : List (Nat × Nat)} {s : Nat}
theorem relax_step (f : Nat → Nat) (k v : Nat) : relaxTo E s f (k + 1) v ≤ relaxTo E s f k v := by
  show (if s.testBit k = true then (if v = ea E k ∨ v = eb E k then min (relaxTo E s f k (ea E k)) (relaxTo E s f k (eb E k)) else relaxTo E s f k v) else relaxTo E s f k v) ≤ _
  split
  · split
    · rename_i h
      rcases h with h | h
      · rw [h]; exact Nat.min_le_left _ _
      · rw [h]; exact Nat.min_le_right _ _
    · exact Nat.le_refl _
  · exact Nat.le_refl _
theorem relax_down (f : Nat → Nat) (v : Nat) {j : Nat} : ∀ k, j ≤ k → relaxTo E s f k v ≤ relaxTo E s f j v
  | 0, h => by obtain rfl : j = 0 := by omega
               exact Nat.le_refl _
  | k + 1, h => by
    by_cases e : j = k + 1
    · rw [e]; exact Nat.le_refl _
    · exact Nat.le_trans (relax_step f k v) (relax_down f v k (by omega))
theorem relax_edge (f : Nat → Nat) {j k : Nat} (hj : s.testBit j = true) (hk : j < k) : relaxTo E s f k (ea E j) ≤ f (eb E j) ∧ relaxTo E s f k (eb E j) ≤ f (ea E j) := by
  have h1 : ∀ v, v = ea E j ∨ v = eb E j → relaxTo E s f (j + 1) v = min (relaxTo E s f j (ea E j)) (relaxTo E s f j (eb E j)) := fun v hv => by
    show (if s.testBit j = true then (if v = ea E j ∨ v = eb E j then min (relaxTo E s f j (ea E j)) (relaxTo E s f j (eb E j)) else relaxTo E s f j v) else relaxTo E s f j v) = _
    rw [if_pos hj, if_pos hv]
  have d1 := relax_down (E := E) (s := s) f (ea E j) k (show j + 1 ≤ k from hk)
  have d2 := relax_down (E := E) (s := s) f (eb E j) k (show j + 1 ≤ k from hk)
  rw [h1 _ (.inl rfl)] at d1
  rw [h1 _ (.inr rfl)] at d2
  have d3 : relaxTo E s f j (eb E j) ≤ f (eb E j) := relax_down f _ j (Nat.zero_le _)
  have d4 : relaxTo E s f j (ea E j) ≤ f (ea E j) := relax_down f _ j (Nat.zero_le _)
  exact ⟨Nat.le_trans d1 (Nat.le_trans (Nat.min_le_right _ _) d3), Nat.le_trans d2 (Nat.le_trans (Nat.min_le_left _ _) d4)⟩
theorem relax_conn {f : Nat → Nat} (hf : ∀ v, Conn E s v (f v)) : ∀ k v, Conn E s v (relaxTo E s f k v)
  | 0, v => hf v
  | k + 1, v => by
    have ih := relax_conn hf k
    show Conn E s v (if s.testBit k = true then (if v = ea E k ∨ v = eb E k then min (relaxTo E s f k (ea E k)) (relaxTo E s f k (eb E k)) else relaxTo E s f k v) else relaxTo E s f k v)
    split
    · rename_i hb
      split
      · rename_i h
        have h1 : ∀ x, x = relaxTo E s f k (ea E k) ∨ x = relaxTo E s f k (eb E k) → Conn E s v x := fun x hx => by
          rcases h with h | h <;> rcases hx with hx | hx <;> rw [h, hx]
          · exact ih _
          · exact (Conn.edge hb).trans (ih _)
          · exact (Conn.edge hb).symm.trans (ih _)
          · exact ih _
        rcases Nat.le_total (relaxTo E s f k (ea E k)) (relaxTo E s f k (eb E k)) with h2 | h2
        · rw [Nat.min_eq_left h2]; exact h1 _ (.inl rfl)
        · rw [Nat.min_eq_right h2]; exact h1 _ (.inr rfl)
      · exact ih v
    · exact ih v
theorem turn_conn : ∀ t v, Conn E s v (turnTo E s t v)
  | 0, v => .refl v
  | t + 1, v => relax_conn (turn_conn t) _ v
theorem turn_step (t v : Nat) : turnTo E s (t + 1) v ≤ turnTo E s t v := relax_down _ v _ (Nat.zero_le _)
/-- How many below n are such. -/
def cnP (P : Nat → Bool) (n : Nat) : Nat := ((List.range n).filter P).length
theorem cnP_succ (P : Nat → Bool) (n : Nat) : cnP P (n + 1) = cnP P n + if P n = true then 1 else 0 := by
  unfold cnP
  rw [List.range_succ, List.filter_append, List.length_append]
  by_cases h : P n = true <;> simp [h]
theorem cnP_le (P : Nat → Bool) (n : Nat) : cnP P n ≤ n := by
  have := List.length_filter_le P (List.range n)
  rwa [List.length_range] at this
theorem cnP_mono {P Q : Nat → Bool} : ∀ {n : Nat}, (∀ v, v < n → P v = true → Q v = true) → cnP P n ≤ cnP Q n
  | 0, _ => Nat.le_refl _
  | n + 1, h => by
    have ih := cnP_mono (n := n) fun v hv => h v (by omega)
    rw [cnP_succ, cnP_succ]
    have := h n (by omega)
    by_cases h1 : P n = true
    · rw [if_pos h1, if_pos (this h1)]; omega
    · rw [if_neg h1]; omega
theorem cnP_more {P Q : Nat → Bool} {x : Nat} (hx : Q x = true) (hx' : ¬ P x = true) : ∀ {n : Nat}, x < n → (∀ v, v < n → P v = true → Q v = true) → cnP P n + 1 ≤ cnP Q n
  | 0, h, _ => by omega
  | n + 1, hn, h => by
    rw [cnP_succ, cnP_succ]
    by_cases e : x = n
    · subst e
      have := cnP_mono (n := x) fun v hv => h v (by omega)
      rw [if_neg hx', if_pos hx]
      omega
    · have ih := cnP_more hx hx' (n := n) (by omega) fun v hv => h v (by omega)
      have := h n (by omega)
      by_cases h1 : P n = true
      · rw [if_pos h1, if_pos (this h1)]; omega
      · rw [if_neg h1]; omega
theorem cnP_congr {P Q : Nat → Bool} {n : Nat} (h : ∀ v, v < n → P v = Q v) : cnP P n = cnP Q n := Nat.le_antisymm (cnP_mono fun v hv e => by rw [← h v hv]; exact e) (cnP_mono fun v hv e => by rw [h v hv]; exact e)
/-- One less. -/
theorem cnP_less {P Q : Nat → Bool} {x : Nat} (hx : P x = true) : ∀ {n : Nat}, x < n → (∀ v, v < n → Q v = (P v && v != x)) → cnP Q n + 1 = cnP P n
  | 0, h, _ => by omega
  | n + 1, hn, h => by
    rw [cnP_succ, cnP_succ]
    by_cases e : x = n
    · subst e
      have h1 : cnP Q x = cnP P x := cnP_congr fun v hv => by rw [h v (by omega)]; have : (v != x) = true := by rw [bne_iff_ne]; omega
                                                              rw [this, Bool.and_true]
      have h2 : ¬ Q x = true := by rw [h x (by omega)]; simp
      rw [if_neg h2, if_pos hx, h1]
    · have ih := cnP_less hx (n := n) (by omega) fun v hv => h v (by omega)
      have h1 : Q n = P n := by rw [h n (by omega)]; have : (n != x) = true := by rw [bne_iff_ne]; omega
                                rw [this, Bool.and_true]
      rw [h1]
      omega
variable {n : Nat}
/-- After n turns every name is no more than what hangs together with it. -/
theorem turn_least (hE : ∀ j, j < E.length → ea E j < n ∧ eb E j < n) (hs : s < 2 ^ E.length) {u v : Nat} (hu : u < n) (h : Conn E s u v) : turnTo E s n v ≤ u := by
  have hbit : ∀ j, s.testBit j = true → j < E.length := fun j hj => by
    refine Nat.lt_of_not_le fun hle => ?_
    rw [Nat.testBit_lt_two_pow (Nat.lt_of_lt_of_le hs (Nat.pow_le_pow_right (by omega) hle))] at hj
    cases hj
  have key : ∀ t, (∀ v, Conn E s u v → turnTo E s t v ≤ u) ∨ t + 1 ≤ cnP (fun v => decide (turnTo E s t v ≤ u)) n := by
    intro t
    induction t with
    | zero =>
      refine .inr ?_
      have h1 := cnP_more (P := fun _ => false) (Q := fun v => decide (turnTo E s 0 v ≤ u)) (x := u) (by simp [turnTo]) (by simp) (n := n) hu fun v _ e => by cases e
      omega
    | succ t ih =>
      rcases ih with ih | ih
      · exact .inl fun v hv => Nat.le_trans (turn_step t v) (ih v hv)
      · by_cases hc : ∃ x, x < n ∧ turnTo E s (t + 1) x ≤ u ∧ ¬ turnTo E s t x ≤ u
        · obtain ⟨x, hx, h1, h2⟩ := hc
          have h3 := cnP_more (P := fun v => decide (turnTo E s t v ≤ u)) (Q := fun v => decide (turnTo E s (t + 1) v ≤ u)) (x := x) (by simpa using h1) (by simpa using h2) (n := n) hx fun v _ e => by
            have e' : turnTo E s t v ≤ u := by simpa using e
            simpa using Nat.le_trans (turn_step t v) e'
          exact .inr (by omega)
        · refine .inl fun v hv => ?_
          have h5 : ∀ x, x < n → turnTo E s (t + 1) x ≤ u → turnTo E s t x ≤ u := fun x hx h1 => Decidable.byContradiction fun h2 => hc ⟨x, hx, h1, h2⟩
          have h6 : turnTo E s t v ≤ u := by
            clear h
            induction hv with
            | refl =>
              have h7 : ∀ t, turnTo E s t u ≤ u := fun t => by
                induction t with
                | zero => exact Nat.le_refl _
                | succ t ih => exact Nat.le_trans (turn_step t u) ih
              exact h7 t
            | fwd j hj _ ih => exact h5 _ (hE j (hbit j hj)).2 (Nat.le_trans (relax_edge _ hj (hbit j hj)).2 ih)
            | bwd j hj _ ih => exact h5 _ (hE j (hbit j hj)).1 (Nat.le_trans (relax_edge _ hj (hbit j hj)).1 ih)
          exact Nat.le_trans (turn_step t v) h6
  rcases key n with k | k
  · exact k v h
  · have := cnP_le (fun v => decide (turnTo E s n v ≤ u)) n
    omega
theorem turn_lt (hE : ∀ j, j < E.length → ea E j < n ∧ eb E j < n) (hs : s < 2 ^ E.length) {v : Nat} (hv : v < n) : turnTo E s n v ≤ v := turn_least hE hs hv (.refl v)
theorem isle_cn (s : Nat) : isleN n E s = cnP (fun v => turnTo E s n v == v) n := rfl
/-- A name stays just if nothing less hangs together with it. -/
theorem turn_fix (hE : ∀ j, j < E.length → ea E j < n ∧ eb E j < n) (hs : s < 2 ^ E.length) {v : Nat} (hv : v < n) : turnTo E s n v = v ↔ ∀ u, u < n → Conn E s u v → v ≤ u := by
  constructor
  · intro h u hu hc
    have := turn_least hE hs hu hc
    omega
  · intro h
    have h1 := turn_lt hE hs hv
    have h2 := h _ (Nat.lt_of_le_of_lt h1 hv) (turn_conn (E := E) (s := s) n v).symm
    omega
theorem turn_idem (hE : ∀ j, j < E.length → ea E j < n ∧ eb E j < n) (hs : s < 2 ^ E.length) {v : Nat} (hv : v < n) : turnTo E s n (turnTo E s n v) = turnTo E s n v :=
  (turn_fix hE hs (Nat.lt_of_le_of_lt (turn_lt hE hs hv) hv)).2 fun _ hu hc => turn_least hE hs hu (hc.trans (turn_conn (E := E) (s := s) n v).symm)
theorem turn_eq (hE : ∀ j, j < E.length → ea E j < n ∧ eb E j < n) (hs : s < 2 ^ E.length) {u v : Nat} (hu : u < n) (hv : v < n) (h : Conn E s u v) : turnTo E s n u = turnTo E s n v :=
  Nat.le_antisymm (turn_least hE hs (Nat.lt_of_le_of_lt (turn_lt hE hs hv) hv) ((turn_conn (E := E) (s := s) n v).symm.trans h.symm)) (turn_least hE hs (Nat.lt_of_le_of_lt (turn_lt hE hs hu) hu) ((turn_conn (E := E) (s := s) n u).symm.trans h))
theorem isle_add (hE : ∀ j, j < E.length → ea E j < n ∧ eb E j < n) (hs : s < 2 ^ E.length) {i : Nat} (hi : i < E.length) : isleN n E s = isleN n E (s ||| 2 ^ i) + (open Classical in if depG E s i then 0 else 1) := by
  have hs' : s ||| 2 ^ i < 2 ^ E.length := Nat.or_lt_two_pow hs (Nat.pow_lt_pow_right (by omega) hi)
  obtain ⟨ha, hb⟩ := hE i hi
  by_cases hd : depG E s i
  · rw [if_pos hd, Nat.add_zero, isle_cn, isle_cn]
    refine cnP_congr fun v hv => ?_
    have h1 : ∀ u, Conn E s u v ↔ Conn E (s ||| 2 ^ i) u v := fun u => ⟨fun h => h.mono (ad_sub s i), fun h => h.drop fun j hj => by
      rw [or_bit] at hj
      by_cases h2 : s.testBit j = true
      · exact .edge h2
      · have e : i = j := by simpa [Bool.eq_false_iff.2 h2] using hj
        subst e
        exact hd⟩
    rw [Bool.eq_iff_iff, beq_iff_eq, beq_iff_eq, turn_fix hE hs hv, turn_fix hE hs' hv]
    exact ⟨fun h u hu hc => h u hu ((h1 u).2 hc), fun h u hu hc => h u hu ((h1 u).1 hc)⟩
  · rw [if_neg hd, isle_cn, isle_cn]
    obtain ⟨A, hA⟩ : ∃ A, turnTo E s n (ea E i) = A := ⟨_, rfl⟩
    obtain ⟨B, hB⟩ : ∃ B, turnTo E s n (eb E i) = B := ⟨_, rfl⟩
    have cA : Conn E s (ea E i) A := hA ▸ turn_conn n _
    have cB : Conn E s (eb E i) B := hB ▸ turn_conn n _
    have lA : A < n := by have := turn_lt hE hs ha; omega
    have lB : B < n := by have := turn_lt hE hs hb; omega
    have iA : turnTo E s n A = A := by rw [← hA]; exact turn_idem hE hs ha
    have iB : turnTo E s n B = B := by rw [← hB]; exact turn_idem hE hs hb
    have hne : A ≠ B := fun e => hd (cA.trans (e ▸ cB.symm))
    have cAB : Conn E (s ||| 2 ^ i) A B := (cA.mono (ad_sub s i)).symm.trans ((Conn.edge (ad_self s i)).trans (cB.mono (ad_sub s i)))
    obtain ⟨M, hM⟩ : ∃ M, M = max A B := ⟨_, rfl⟩
    have hMfix : turnTo E s n M = M := by
      rcases Nat.le_total A B with h | h
      · rw [hM, Nat.max_eq_right h]; exact iB
      · rw [hM, Nat.max_eq_left h]; exact iA
    refine (cnP_less (P := fun v => turnTo E s n v == v) (Q := fun v => turnTo E (s ||| 2 ^ i) n v == v) (x := M) (by simpa using hMfix) (n := n) (by rw [hM]; omega) fun v hv => ?_).symm
    show (turnTo E (s ||| 2 ^ i) n v == v) = ((turnTo E s n v == v) && v != M)
    rw [Bool.eq_iff_iff, Bool.and_eq_true, beq_iff_eq, beq_iff_eq, bne_iff_ne]
    constructor
    · intro h
      have h' := (turn_fix hE hs' hv).1 h
      refine ⟨(turn_fix hE hs hv).2 fun u hu hc => h' u hu (hc.mono (ad_sub s i)), fun e => ?_⟩
      rcases Nat.lt_or_gt_of_ne hne with hl | hl
      · have e1 : v = B := by omega
        have := h' A lA (e1 ▸ cAB)
        omega
      · have e1 : v = A := by omega
        have := h' B lB (e1 ▸ cAB.symm)
        omega
    · rintro ⟨h, hvM⟩
      refine (turn_fix hE hs' hv).2 fun u hu hc => ?_
      rcases hc.one with h1 | ⟨h1, h2⟩ | ⟨h1, h2⟩
      · exact (turn_fix hE hs hv).1 h u hu h1
      · have e1 : v = B := by rw [← h, ← hB]; exact (turn_eq hE hs hb hv h2).symm
        have e2 : A ≤ u := by rw [← hA]; exact turn_least hE hs hu h1
        omega
      · have e1 : v = A := by rw [← h, ← hA]; exact (turn_eq hE hs ha hv h2).symm
        have e2 : B ≤ u := by rw [← hB]; exact turn_least hE hs hu h1
        omega
theorem turn_none : ∀ t v, turnTo E 0 t v = v
  | 0, _ => rfl
  | t + 1, v => by
    have h1 : ∀ k, relaxTo E 0 (turnTo E 0 t) k v = v := fun k => by
      induction k with
      | zero => exact turn_none t v
      | succ k ih =>
        show (if (0 : Nat).testBit k = true then _ else relaxTo E 0 (turnTo E 0 t) k v) = v
        rw [if_neg (by simp), ih]
    exact h1 _
theorem isle_none : isleN n E 0 = n := by
  rw [isle_cn]
  have : ∀ n, cnP (fun v => turnTo E 0 n v == v) n = n ∧ ∀ k, cnP (fun v => turnTo E 0 n v == v) k = k := fun n => by
    have h : ∀ k, cnP (fun v => turnTo E 0 n v == v) k = k := fun k => by
      induction k with
      | zero => rfl
      | succ k ih => rw [cnP_succ, ih, if_pos (by simp [turn_none])]
    exact ⟨h n, h⟩
  exact (this n).1
theorem isle_rank (hE : ∀ j, j < E.length → ea E j < n ∧ eb E j < n) (hs : s < 2 ^ E.length) : n - isleN n E s = depR E.length (depG E) s := by
  have key : ∀ k, k ≤ E.length → isleN n E (lo s k) + depR E.length (depG E) (lo s k) = n := by
    intro k
    induction k with
    | zero =>
      intro _
      rw [lo_zero, isle_none]
      have h0 : depR E.length (depG E) 0 = 0 := by
        have : ∀ k, depTo (depG E) 0 k = 0 := fun k => by
          induction k with
          | zero => rfl
          | succ k ih => unfold depTo; simp [ih]
        exact this _
      rw [h0, Nat.add_zero]
    | succ k ih =>
      intro hk
      have ih := ih (by omega)
      by_cases hb : s.testBit k = true
      · rw [lo_hit hb, (depG_dep E E.length).step (lo_ltn hs k) (show k < E.length by omega)]
        have := isle_add hE (lo_ltn hs k) (show k < E.length by omega)
        by_cases hd : depG E (lo s k) k
        · rw [if_pos hd] at this ⊢; omega
        · rw [if_neg hd] at this ⊢; omega
      · rw [lo_miss (by simpa using hb)]
        exact ih
  have := key E.length (Nat.le_refl _)
  rw [lo_all hs] at this
  omega
theorem isle_basR (hE : ∀ j, j < E.length → ea E j < n ∧ eb E j < n) : (basR E.length fun s => n - isleN n E s) = basR E.length (depR E.length (depG E)) := by
  unfold basR
  refine List.filter_congr fun s hs => ?_
  dsimp only
  rw [isle_rank hE (List.mem_range.1 hs), isle_rank hE (Nat.sub_lt (Nat.two_pow_pos _) (by decide))]
end Go.Proofs.YtkmpnaohdijpnaaGreatDoor

namespace Go.Proofs.YtkmpnaohdijpnaaGreatDoor

def isP (p : Int) : Prop := p = 2 ∨ p = 3 ∨ p = 5 ∨ p = 7
/-- The same modulo p, at the first six places. -/
def Cg (p : Int) (v w : Nat → Int) : Prop := ∀ r, r < 6 → (v r - w r) % p = 0
theorem Cg.refl (p : Int) (v : Nat → Int) : Cg p v v := fun r _ => by simp
theorem emod_neg {p a : Int} (h : a % p = 0) : (-a) % p = 0 := Int.emod_eq_zero_of_dvd (Int.dvd_neg.2 (Int.dvd_of_emod_eq_zero h))
theorem emod_add {p a b : Int} (h : a % p = 0) (k : b % p = 0) : (a + b) % p = 0 := Int.emod_eq_zero_of_dvd (Int.dvd_add (Int.dvd_of_emod_eq_zero h) (Int.dvd_of_emod_eq_zero k))
theorem emod_mul {p a : Int} (h : a % p = 0) (k : Int) : (k * a) % p = 0 := Int.emod_eq_zero_of_dvd (Int.dvd_mul_of_dvd_right (Int.dvd_of_emod_eq_zero h))
theorem Cg.symm {p : Int} {v w : Nat → Int} (h : Cg p v w) : Cg p w v := fun r hr => by
  have := emod_neg (h r hr)
  rwa [Int.neg_sub] at this
theorem Cg.trans {p : Int} {v w x : Nat → Int} (h : Cg p v w) (k : Cg p w x) : Cg p v x := fun r hr => by
  have := emod_add (h r hr) (k r hr)
  rwa [show v r - w r + (w r - x r) = v r - x r by omega] at this
theorem Cg.lin {p : Int} {v w x y : Nat → Int} (h : Cg p v w) (k : Cg p x y) (m : Int) : Cg p (fun r => v r + m * x r) (fun r => w r + m * y r) := fun r hr => by
  have := emod_add (h r hr) (emod_mul (k r hr) m)
  rwa [show v r - w r + m * (x r - y r) = v r + m * x r - (w r + m * y r) by rw [Int.mul_sub]; omega] at this
/-- Modulo a prime all but 0 has something that makes it 1. -/
theorem unit_of {p c : Int} (hp : isP p) (h : c % p ≠ 0) : ∃ e : Int, (e * c - 1) % p = 0 := by
  rcases hp with rfl | rfl | rfl | rfl
  · exact ⟨1, by omega⟩
  · rcases (by omega : c % 3 = 1 ∨ c % 3 = 2) with g | g
    · exact ⟨1, by omega⟩
    · exact ⟨2, by omega⟩
  · rcases (by omega : c % 5 = 1 ∨ c % 5 = 2 ∨ c % 5 = 3 ∨ c % 5 = 4) with g | g | g | g
    · exact ⟨1, by omega⟩
    · exact ⟨3, by omega⟩
    · exact ⟨2, by omega⟩
    · exact ⟨4, by omega⟩
  · rcases (by omega : c % 7 = 1 ∨ c % 7 = 2 ∨ c % 7 = 3 ∨ c % 7 = 4 ∨ c % 7 = 5 ∨ c % 7 = 6) with g | g | g | g | g | g
    · exact ⟨1, by omega⟩
    · exact ⟨4, by omega⟩
    · exact ⟨5, by omega⟩
    · exact ⟨2, by omega⟩
    · exact ⟨3, by omega⟩
    · exact ⟨6, by omega⟩
/-- The sums of multiples of vectors of S. -/
inductive Span (p : Int) (S : (Nat → Int) → Prop) : (Nat → Int) → Prop
  | zero : Span p S fun _ => 0
  | add {v x : Nat → Int} (k : Int) (h : Span p S v) (hx : S x) : Span p S fun r => v r + k * x r
  | cg {v w : Nat → Int} (hc : Cg p v w) (h : Span p S v) : Span p S w
variable {p : Int} {S T : (Nat → Int) → Prop}
theorem Span.of {x : Nat → Int} (h : S x) : Span p S x := .cg (fun r _ => by simp) (Span.add 1 .zero h)
theorem Span.lin {v w : Nat → Int} (hv : Span p S v) (hw : Span p S w) (k : Int) : Span p S fun r => v r + k * w r := by
  induction hw with
  | zero => exact .cg (fun r _ => by simp) hv
  | add m _ hx ih =>
    refine .cg (fun r _ => ?_) (Span.add (k * m) ih hx)
    rw [Int.mul_add, Int.mul_assoc, Int.add_assoc]
    simp
  | cg hc _ ih => exact .cg ((Cg.refl p v).lin hc k) ih
theorem Span.smul {w : Nat → Int} (hw : Span p S w) (k : Int) : Span p S fun r => k * w r := .cg (fun r _ => by simp) (Span.zero.lin hw k)
theorem Span.sub {v : Nat → Int} (h : Span p S v) (hST : ∀ x, S x → Span p T x) : Span p T v := by
  induction h with
  | zero => exact .zero
  | add k _ hx ih => exact ih.lin (hST _ hx) k
  | cg hc _ ih => exact .cg hc ih
theorem Span.mono {v : Nat → Int} (h : Span p S v) (hST : ∀ x, S x → T x) : Span p T v := h.sub fun x hx => .of (hST x hx)
theorem Span.one {v y : Nat → Int} (h : Span p (fun x => S x ∨ x = y) v) : ∃ k : Int, Span p S fun r => v r + k * y r := by
  induction h with
  | zero => exact ⟨0, .cg (fun r _ => by simp) .zero⟩
  | @add v x k _ hx ih =>
    obtain ⟨m, hm⟩ := ih
    rcases hx with hx | rfl
    · refine ⟨m, .cg (fun r _ => ?_) (Span.add k hm hx)⟩
      rw [show v r + m * y r + k * x r - (v r + k * x r + m * y r) = 0 by omega]
      simp
    · refine ⟨m - k, .cg (fun r _ => ?_) hm⟩
      rw [show v r + m * x r - (v r + k * x r + (m - k) * x r) = 0 by rw [Int.sub_mul]; omega]
      simp
  | cg hc _ ih =>
    obtain ⟨m, hm⟩ := ih
    exact ⟨m, .cg (hc.lin (Cg.refl p y) m) hm⟩
/-- Of what a multiple that can be turned back is a sum, it is one itself. -/
theorem Span.unit (hp : isP p) {w : Nat → Int} {c : Int} (hc : c % p ≠ 0) (h : Span p S fun r => c * w r) : Span p S w := by
  obtain ⟨e, he⟩ := unit_of hp hc
  refine .cg (fun r _ => ?_) (h.smul e)
  have := emod_mul he (w r)
  rwa [show w r * (e * c - 1) = e * (c * w r) - w r by rw [Int.mul_sub, Int.mul_one, Int.mul_comm, Int.mul_assoc]] at this
theorem Span.exch (hp : isP p) {v y : Nat → Int} (h : Span p (fun x => S x ∨ x = y) v) (hn : ¬ Span p S v) : Span p (fun x => S x ∨ x = v) y := by
  obtain ⟨k, hk⟩ := h.one
  have hk0 : k % p ≠ 0 := fun e => hn (.cg (fun r _ => by
    have := emod_mul e (y r)
    rwa [show y r * k = v r + k * y r - v r by rw [Int.mul_comm]; omega] at this) hk)
  refine Span.unit hp hk0 (.cg (fun r _ => ?_) ((hk.mono fun _ h => .inl h).lin (Span.of (S := fun x => S x ∨ x = v) (.inr rfl)) (-1)))
  rw [show v r + k * y r + -1 * v r - k * y r = 0 by omega]
  simp

/-- Column i hangs on those of s. -/
def depC (p : Int) (col : Nat → Nat → Int) (s i : Nat) : Prop := Span p (fun x => ∃ j, s.testBit j = true ∧ x = col j) (col i)
theorem depC_dep (hp : isP p) (col : Nat → Nat → Int) (n : Nat) : Dep n (depC p col) where
  self := fun s i _ _ h => .of ⟨i, h, rfl⟩
  mono := fun s t i _ _ _ hst h => h.mono fun x ⟨j, hj, e⟩ => ⟨j, subB_iff.1 hst j hj, e⟩
  trans := fun s i j _ _ _ h1 h2 => h2.sub fun x ⟨k, hk, e⟩ => by
    rw [or_bit] at hk
    by_cases hs : s.testBit k = true
    · exact .of ⟨k, hs, e⟩
    · have e2 : j = k := by simpa [Bool.eq_false_iff.2 hs] using hk
      subst e2
      rw [e]
      exact h1
  exch := fun s i j _ _ _ h1 h2 => by
    have h3 : Span p (fun x => (∃ k, s.testBit k = true ∧ x = col k) ∨ x = col i) (col j) := h2.mono fun x ⟨k, hk, e⟩ => by
      rw [or_bit] at hk
      by_cases hs : s.testBit k = true
      · exact .inl ⟨k, hs, e⟩
      · have e2 : i = k := by simpa [Bool.eq_false_iff.2 hs] using hk
        subst e2
        exact .inr e
    exact (h3.exch hp h1).mono fun x hx => by
      rcases hx with ⟨k, hk, e⟩ | e
      · exact ⟨k, by rw [or_bit, hk]; rfl, e⟩
      · exact ⟨j, by rw [or_bit]; simp, e⟩
end Go.Proofs.YtkmpnaohdijpnaaGreatDoor

namespace Go.Proofs.YtkmpnaohdijpnaaGreatDoor

/-- A sum of S that is nought at all places of A is nought. -/
def Piv (p : Int) (S : (Nat → Int) → Prop) (A : List Nat) : Prop := ∀ v, Span p S v → (∀ a ∈ A, v a % p = 0) → Cg p v fun _ => 0
theorem Piv.nil {p : Int} {S : (Nat → Int) → Prop} (hS : ∀ x, ¬ S x) : Piv p S [] := fun v h _ => by
  induction h with
  | zero => exact Cg.refl _ _
  | add k _ hx ih => exact absurd hx (hS _)
  | cg hc _ ih => exact hc.symm.trans (ih fun a ha => by cases ha)
theorem mul_unit {p a b : Int} (hp : isP p) (h : (a * b) % p = 0) (hb : b % p ≠ 0) : a % p = 0 := by
  obtain ⟨e, he⟩ := unit_of hp hb
  have h1 := emod_mul h e
  have h2 := emod_mul he a
  have h3 := emod_add h1 (emod_neg h2)
  rwa [show e * (a * b) + -(a * (e * b - 1)) = a by rw [Int.mul_sub, Int.mul_one, Int.mul_left_comm]; omega] at h3
/-- y stands for x: but for sums of S it is a multiple of x that can be turned back, and it is nought at A. -/
structure Stands (p : Int) (S : (Nat → Int) → Prop) (A : List Nat) (x y : Nat → Int) : Prop where
  ex : ∃ u : Int, u % p ≠ 0 ∧ Span p S fun r => y r + -u * x r
  at_ : ∀ a ∈ A, y a % p = 0
theorem Piv.snoc {p : Int} (hp : isP p) {S : (Nat → Int) → Prop} {A : List Nat} {x y : Nat → Int} (h : Piv p S A) (hs : Stands p S A x y) {b : Nat} (hb6 : b < 6) (hb : y b % p ≠ 0) : Piv p (fun z => S z ∨ z = x) (A ++ [b]) := fun v hv h0 => by
  obtain ⟨⟨u, hu, hy⟩, hya⟩ := hs
  obtain ⟨k, hk⟩ := hv.one
  obtain ⟨e, he⟩ := unit_of hp hu
  -- v + (k e) y is a sum of S
  have h1 : Span p S fun r => v r + (k * e) * y r := by
    refine .cg (fun r _ => ?_) (hk.lin hy (k * e))
    have h2 := emod_mul he (-(k * x r))
    rwa [show -(k * x r) * (e * u - 1) = v r + k * x r + k * e * (y r + -u * x r) - (v r + k * e * y r) by
      rw [Int.mul_sub, Int.mul_one, Int.mul_add, Int.neg_mul, Int.neg_mul, Int.mul_neg]
      rw [show k * x r * (e * u) = k * e * (u * x r) by rw [Int.mul_assoc, Int.mul_assoc, Int.mul_left_comm (x r), Int.mul_comm (x r)]]
      omega] at h2
  have h2 := h _ h1 fun a ha => by
    have e1 := h0 a (List.mem_append_left _ ha)
    have e2 := emod_mul (hya a ha) (k * e)
    exact emod_add e1 e2
  have hm : (k * e) % p = 0 := by
    refine mul_unit hp (b := y b) ?_ hb
    have e1 := h2 b hb6
    have e2 := h0 b (List.mem_append_right _ (List.mem_singleton.2 rfl))
    have e3 := emod_add e1 (emod_neg e2)
    rwa [show v b + k * e * y b - 0 + -v b = k * e * y b by omega] at e3
  intro r hr
  have e1 := h2 r hr
  have e2 := emod_mul hm (y r)
  have e3 := emod_add e1 (emod_neg e2)
  rwa [show v r + k * e * y r - 0 + -(y r * (k * e)) = v r - 0 by rw [Int.mul_comm (y r)]; omega] at e3
theorem Piv.test {p : Int} (hp : isP p) {S : (Nat → Int) → Prop} {A : List Nat} {x y : Nat → Int} (h : Piv p S A) (hs : Stands p S A x y) : Span p S x ↔ Cg p y fun _ => 0 := by
  obtain ⟨⟨u, hu, hy⟩, hya⟩ := hs
  constructor
  · intro hx
    refine h _ ?_ hya
    refine .cg (fun r _ => ?_) (hy.lin hx u)
    rw [show y r + -u * x r + u * x r - y r = 0 by rw [Int.neg_mul]; omega]
    simp
  · intro hc
    refine Span.unit hp hu (.cg (fun r hr => ?_) (hy.smul (-1)))
    have e1 := emod_neg (hc r hr)
    rwa [show -(y r - 0) = -1 * (y r + -u * x r) - u * x r by rw [Int.neg_mul u]; omega] at e1
/-- The first place that is not nought. -/
def leadN (v : Nat → Int) : Nat := ((List.range 6).find? fun r => v r != 0).getD 6
theorem leadN_none {v : Nat → Int} (h : leadN v = 6) : ∀ r, r < 6 → v r = 0 := fun r hr => by
  unfold leadN at h
  cases e : (List.range 6).find? fun r => v r != 0 with
  | none =>
    have := List.find?_eq_none.1 e r (List.mem_range.2 hr)
    simpa using this
  | some x =>
    rw [e, Option.getD_some] at h
    have := List.mem_range.1 (List.mem_of_find?_eq_some e)
    omega
theorem leadN_some {v : Nat → Int} (h : leadN v ≠ 6) : leadN v < 6 ∧ v (leadN v) ≠ 0 := by
  unfold leadN at h ⊢
  cases e : (List.range 6).find? fun r => v r != 0 with
  | none => rw [e] at h; exact absurd rfl h
  | some x =>
    rw [Option.getD_some]
    refine ⟨List.mem_range.1 (List.mem_of_find?_eq_some e), ?_⟩
    have := List.find?_some e
    simpa using this
/-- c, with nought where by is not. -/
def clrF (p : Int) (c by_ : Nat → Int) (at_ : Nat) (r : Nat) : Int := (c r * by_ at_ + by_ r * (p - c at_)) % p
/-- The columns as they stand when i have been used. -/
def elimV (p : Int) (o : Nat → Nat → Int) : Nat → Nat → Nat → Int
  | 0, k => o k
  | i + 1, k => if i < k then clrF p (elimV p o i k) (elimV p o i i) (leadN (elimV p o i i)) else elimV p o i k
theorem isP.pos {p : Int} (h : isP p) : 0 < p ∧ p ≤ 7 := by
  unfold isP at h
  omega
theorem elimV_in {p : Int} (hp : isP p) {o : Nat → Nat → Int} (ho : ∀ k r, 0 ≤ o k r ∧ o k r < p) : ∀ i k r, 0 ≤ elimV p o i k r ∧ elimV p o i k r < p
  | 0, k, r => ho k r
  | i + 1, k, r => by
    unfold elimV
    split
    · unfold clrF
      have := hp.pos
      exact ⟨Int.emod_nonneg _ (by omega), Int.emod_lt_of_pos _ this.1⟩
    · exact elimV_in hp ho i k r
theorem small_mod {p a : Int} (h0 : 0 ≤ a) (h1 : a < p) : a % p = 0 ↔ a = 0 := by
  rw [Int.emod_eq_of_lt h0 h1]
/-- The sets of those ahead. -/
def Fore (o : Nat → Nat → Int) (i : Nat) (x : Nat → Int) : Prop := ∃ j, j < i ∧ x = o j
theorem fore_succ (o : Nat → Nat → Int) (i : Nat) : Fore o (i + 1) = fun x => Fore o i x ∨ x = o i := by
  funext x
  unfold Fore
  refine propext ⟨?_, ?_⟩
  · rintro ⟨j, h1, h2⟩
    by_cases e : j = i
    · subst e; exact .inr h2
    · exact .inl ⟨j, by omega, h2⟩
  · rintro (⟨j, h1, h2⟩ | h)
    · exact ⟨j, by omega, h2⟩
    · exact ⟨i, by omega, h⟩
def pivA (p : Int) (o : Nat → Nat → Int) (i : Nat) : List Nat := (List.range i).map fun j => leadN (elimV p o j j)
theorem pivA_succ (p : Int) (o : Nat → Nat → Int) (i : Nat) : pivA p o (i + 1) = pivA p o i ++ [leadN (elimV p o i i)] := by
  unfold pivA
  rw [List.range_succ, List.map_append]
  rfl
theorem elim_inv {p : Int} (hp : isP p) {o : Nat → Nat → Int} (ho : ∀ k r, 0 ≤ o k r ∧ o k r < p) : ∀ i, (∀ j, j < i → leadN (elimV p o j j) ≠ 6) → (Piv p (Fore o i) (pivA p o i) ∧ (∀ a ∈ pivA p o i, a < 6)) ∧ ∀ k, i ≤ k → Stands p (Fore o i) (pivA p o i) (o k) (elimV p o i k) := by
  intro i
  induction i with
  | zero =>
    intro _
    refine ⟨⟨Piv.nil (fun x ⟨j, h, _⟩ => absurd h (Nat.not_lt_zero j)), fun a ha => by cases ha⟩, fun k _ => ⟨⟨1, ?_, ?_⟩, fun a ha => by cases ha⟩⟩
    · rcases hp with rfl | rfl | rfl | rfl <;> decide
    · refine .cg (fun r _ => ?_) .zero
      show (0 - (o k r + -1 * o k r)) % p = 0
      rw [show 0 - (o k r + -1 * o k r) = 0 by omega]
      simp
  | succ i ih =>
    intro hl
    obtain ⟨⟨i1, i2⟩, i3⟩ := ih fun j hj => hl j (by omega)
    have hli := leadN_some (hl i (by omega))
    have hin := elimV_in hp ho i i
    have hst := i3 i (Nat.le_refl _)
    have hne : elimV p o i i (leadN (elimV p o i i)) % p ≠ 0 := fun h => hli.2 ((small_mod (hin _).1 (hin _).2).1 h)
    rw [fore_succ, pivA_succ]
    refine ⟨⟨i1.snoc hp hst hli.1 hne, fun a ha => ?_⟩, fun k hk => ?_⟩
    · rcases List.mem_append.1 ha with ha | ha
      · exact i2 a ha
      · rw [List.mem_singleton.1 ha]; exact hli.1
    · obtain ⟨⟨u, hu, hy⟩, hya⟩ := i3 k (by omega)
      obtain ⟨⟨u', hu', hy'⟩, hya'⟩ := hst
      have e : elimV p o (i + 1) k = clrF p (elimV p o i k) (elimV p o i i) (leadN (elimV p o i i)) := by
        show (if i < k then _ else _) = _
        rw [if_pos (by omega)]
      rw [e]
      generalize elimV p o i k = yk at *
      generalize hb : leadN (elimV p o i i) = b at *
      generalize elimV p o i i = yi at *
      refine ⟨⟨u * yi b, ?_, ?_⟩, fun a ha => ?_⟩
      · intro h
        rw [Int.mul_comm] at h
        exact hne (mul_unit hp h hu)
      · -- clr = yk * yi b + yi * (p - yk b), modulo p
        have s1 : Span p (fun z => Fore o i z ∨ z = o i) fun r => yk r + -u * o k r := hy.mono fun _ h => .inl h
        have s2 : Span p (fun z => Fore o i z ∨ z = o i) yi := by
          refine .cg (fun r _ => ?_) ((hy'.mono fun _ h => .inl h).lin (Span.of (S := fun z => Fore o i z ∨ z = o i) (.inr rfl)) u')
          rw [show yi r + -u' * o i r + u' * o i r - yi r = 0 by rw [Int.neg_mul]; omega]
          simp
        refine .cg (fun r _ => ?_) ((s1.smul (yi b)).lin s2 (p - yk b))
        unfold clrF
        have h1 : (yk r * yi b + yi r * (p - yk b) - (yk r * yi b + yi r * (p - yk b)) % p) % p = 0 := by
          rw [Int.sub_emod, Int.emod_emod_of_dvd _ (Int.dvd_refl p), Int.sub_self]
          simp
        rwa [show yk r * yi b + yi r * (p - yk b) - (yk r * yi b + yi r * (p - yk b)) % p = yi b * (yk r + -u * o k r) + (p - yk b) * yi r - ((yk r * yi b + yi r * (p - yk b)) % p + -(u * yi b) * o k r) by
          rw [Int.mul_add, Int.neg_mul, Int.neg_mul, Int.mul_neg, Int.mul_comm (yi b) (yk r), Int.mul_comm (p - yk b) (yi r), show yi b * (u * o k r) = u * yi b * o k r by rw [Int.mul_left_comm, Int.mul_assoc]]
          omega] at h1
      · unfold clrF
        rw [Int.emod_emod_of_dvd _ (Int.dvd_refl p)]
        rcases List.mem_append.1 ha with ha | ha
        · have e1 := emod_mul (hya a ha) (yi b)
          have e2 := emod_mul (hya' a ha) (p - yk b)
          have e3 := emod_add e1 e2
          rwa [Int.mul_comm (yi b), Int.mul_comm (p - yk b)] at e3
        · rw [List.mem_singleton.1 ha, show yk b * yi b + yi b * (p - yk b) = yi b * p by rw [Int.mul_sub, Int.mul_comm (yk b)]; omega]
          exact Int.mul_emod_left _ _
/-- No column is cleared to nought just if none hangs on those ahead. -/
theorem elim_free {p : Int} (hp : isP p) {o : Nat → Nat → Int} (ho : ∀ k r, 0 ≤ o k r ∧ o k r < p) (n : Nat) : (∀ i, i < n → leadN (elimV p o i i) ≠ 6) ↔ ∀ i, i < n → ¬ Span p (Fore o i) (o i) := by
  induction n with
  | zero => exact ⟨fun _ i h => absurd h (Nat.not_lt_zero i), fun _ i h => absurd h (Nat.not_lt_zero i)⟩
  | succ n ih =>
    have key : (∀ i, i < n → leadN (elimV p o i i) ≠ 6) → (leadN (elimV p o n n) ≠ 6 ↔ ¬ Span p (Fore o n) (o n)) := fun h => by
      obtain ⟨⟨i1, i2⟩, i3⟩ := elim_inv hp ho n h
      rw [i1.test hp (i3 n (Nat.le_refl _))]
      have hin := elimV_in hp ho n n
      constructor
      · intro h1 h2
        have h3 := leadN_some h1
        have h4 := h2 _ h3.1
        rw [Int.sub_zero] at h4
        exact h3.2 ((small_mod (hin _).1 (hin _).2).1 h4)
      · intro h1 h2
        exact h1 fun r hr => by rw [leadN_none h2 r hr]; simp
    constructor
    · intro h i hi
      have h1 := ih.1 fun i hi => h i (by omega)
      by_cases e : i = n
      · subst e
        exact (key fun i hi => h i (by omega)).1 (h i hi)
      · exact h1 i (by omega)
    · intro h i hi
      have h1 := ih.2 fun i hi => h i (by omega)
      by_cases e : i = n
      · subst e
        exact (key h1).2 (h i hi)
      · exact h1 i (by omega)
end Go.Proofs.YtkmpnaohdijpnaaGreatDoor
