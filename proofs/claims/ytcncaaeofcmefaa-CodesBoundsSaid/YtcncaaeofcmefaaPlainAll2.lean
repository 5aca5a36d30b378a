/- Plain mathematics of sets, matroids, graphs and lists, on which the walks rest. -/
import Derived.Test.YtcncaaeofcmefaaPlainAll
import Derived.Test.YtcncaaeofcmefaaPlainAll1
namespace Go.Proofs.Ytcncaaeofcmefaa

theorem tal_range (F : Nat → Int) (k : Nat) : tal F (List.range (k + 1)) = tal F (List.range k) + F k := by
  rw [List.range_succ, tal_append]
  simp [tal]
theorem tal_bound {F : Nat → Int} {c : Nat} : ∀ {l : List Nat}, (∀ x ∈ l, -(c : Int) ≤ F x ∧ F x ≤ c) → -((c * l.length : Nat) : Int) ≤ tal F l ∧ tal F l ≤ ((c * l.length : Nat) : Int)
  | [], _ => by simp [tal]
  | x :: l, h => by
    have h1 := h x (List.mem_cons_self ..)
    have h2 := tal_bound (l := l) fun y hy => h y (List.mem_cons_of_mem _ hy)
    have e : c * (x :: l).length = c * l.length + c := by rw [List.length_cons, Nat.mul_add]; omega
    rw [e]
    simp only [tal]
    omega
theorem sgn_bound (s : Nat) : -1 ≤ sgn s ∧ sgn s ≤ 1 := by unfold sgn; split <;> omega
/-- a coefficient, by the first k sets -/
def chrS (r : Nat → Nat) (R k j : Nat) : Int := tal (fun s => if R - r s = j then sgn s else 0) (List.range k)
theorem chr_zero (r : Nat → Nat) (R j : Nat) : chrS r R 0 j = 0 := rfl
theorem chr_step (r : Nat → Nat) (R k j : Nat) : chrS r R (k + 1) j = if R - r k = j then chrS r R k j + sgn k else chrS r R k j := by
  unfold chrS
  rw [tal_range]
  split <;> omega
theorem chr_bound (r : Nat → Nat) (R k j : Nat) : -(k : Int) ≤ chrS r R k j ∧ chrS r R k j ≤ k := by
  have := tal_bound (F := fun s => if R - r s = j then sgn s else 0) (c := 1) (l := List.range k) fun x _ => by
    have := sgn_bound x
    try dsimp only
    split <;> omega
  simpa [chrS] using this
/-- how many of the first k sets are such, and of rank j -/
def cntS (p : Nat → Bool) (r : Nat → Nat) (k j : Nat) : Nat := ((List.range k).filter fun s => p s && r s == j).length
theorem cnt_zero (p : Nat → Bool) (r : Nat → Nat) (j : Nat) : cntS p r 0 j = 0 := rfl
theorem cnt_step (p : Nat → Bool) (r : Nat → Nat) (k j : Nat) : cntS p r (k + 1) j = if (p k && r k == j) = true then cntS p r k j + 1 else cntS p r k j := by
  unfold cntS
  rw [List.range_succ, List.filter_append, List.filter_cons]
  split
  · simp
  · simp
theorem cnt_le (p : Nat → Bool) (r : Nat → Nat) (k j : Nat) : cntS p r k j ≤ k := by
  unfold cntS
  exact Nat.le_trans (List.length_filter_le _ _) (by simp)
theorem cnt_congr {p q r r' : Nat → _} {T j : Nat} (h : ∀ s, s < T → p s = q s) (h' : ∀ s, s < T → r s = r' s) : cntS p r T j = cntS q r' T j := by
  unfold cntS
  refine congrArg List.length (List.filter_congr fun s hs => ?_)
  rw [h s (List.mem_range.1 hs), h' s (List.mem_range.1 hs)]

theorem mobS_bound (r : Nat → Nat) {n : Nat} (hn : n ≤ 8) (f : Nat) : -256 ≤ mobS r n f ∧ mobS r n f ≤ 256 := by
  have := tal_bound (F := fun s => if cl r n s = f then (if s &&& loopS r n = 0 then sgn s else 0) else 0) (c := 1) (l := List.range (2 ^ n)) fun x _ => by
    have := sgn_bound x
    try dsimp only
    split
    · split <;> omega
    · omega
  have h2 : 2 ^ n ≤ 2 ^ 8 := Nat.pow_le_pow_right (by omega) hn
  have h3 : (1 * (List.range (2 ^ n)).length) ≤ 256 := by simpa using h2
  unfold mobS
  omega
theorem rg_before {p : Nat → Bool} {T i : Nat} (hi : i < ((List.range T).filter p).length) : (List.range (((List.range T).filter p).getD i 0)).filter p = ((List.range T).filter p).take i := by
  have up : ((List.range T).filter p).Pairwise (· < ·) := List.pairwise_lt_range.filter _
  have hg : ((List.range T).filter p).getD i 0 = ((List.range T).filter p)[i] := by simp [List.getD, hi]
  refine sorted_ext (List.pairwise_lt_range.filter _) (up.sublist (List.take_sublist _ _)) fun x => ?_
  rw [List.mem_filter, List.mem_range, List.mem_take_iff_getElem, hg]
  have hm : ((List.range T).filter p)[i] ∈ (List.range T).filter p := List.getElem_mem hi
  rw [List.mem_filter, List.mem_range] at hm
  constructor
  · rintro ⟨h1, h2⟩
    have hx : x ∈ (List.range T).filter p := List.mem_filter.2 ⟨List.mem_range.2 (by omega), h2⟩
    obtain ⟨j, hj, rfl⟩ := List.getElem_of_mem hx
    refine ⟨j, ?_, rfl⟩
    rcases Nat.lt_trichotomy j i with h | h | h
    · omega
    · subst h; omega
    · have := List.pairwise_iff_getElem.1 up i j hi hj h
      omega
  · rintro ⟨j, hj, rfl⟩
    have hj' : j < ((List.range T).filter p).length := by omega
    refine ⟨List.pairwise_iff_getElem.1 up j i hj' hi (by omega), ?_⟩
    exact (List.mem_filter.1 (List.getElem_mem hj')).2
/-- the flats, rising -/
def fltL (n : Nat) (r : Nat → Nat) : List Nat := (List.range (2 ^ n)).filter (flatB r n)
theorem flt_mem {n : Nat} {r : Nat → Nat} {s : Nat} : s ∈ fltL n r ↔ s < 2 ^ n ∧ flatB r n s = true := by unfold fltL; simp
theorem flt_getD {n : Nat} {r : Nat → Nat} {i : Nat} (hi : i < (fltL n r).length) : (fltL n r).getD i 0 < 2 ^ n ∧ flatB r n ((fltL n r).getD i 0) = true := by
  have h : (fltL n r).getD i 0 ∈ fltL n r := by simp [List.getD, hi]
  exact flt_mem.1 h
theorem flt_up (n : Nat) (r : Nat → Nat) : (fltL n r).Pairwise (· < ·) := List.pairwise_lt_range.filter _
theorem flt_len {n : Nat} {r : Nat → Nat} (hn : n ≤ 8) : (fltL n r).length ≤ 256 := by
  have h2 : 2 ^ n ≤ 2 ^ 8 := Nat.pow_le_pow_right (by omega) hn
  exact Nat.le_trans (Nat.le_trans (List.length_filter_le _ _) (by simp)) h2
theorem loop_flat {n : Nat} {r : Nat → Nat} (hn : n ≤ 8) (h : Rk r) : flatB r n (loopS r n) = true := clM_flat hn h (Nat.two_pow_pos n)
theorem flt_pos {n : Nat} {r : Nat → Nat} (hn : n ≤ 8) (h : Rk r) : 0 < (fltL n r).length :=
  List.length_pos_iff.2 (List.ne_nil_of_mem (flt_mem.2 ⟨loop_lt hn, loop_flat hn h⟩))
theorem flt_zero {n : Nat} {r : Nat → Nat} (hn : n ≤ 8) (h : Rk r) : (fltL n r).getD 0 0 = loopS r n := by
  have hp := flt_pos hn h (r := r)
  have h0 := flt_getD hp
  refine Nat.le_antisymm ?_ (subM_le (loop_in hn h h0.1 h0.2))
  obtain ⟨j, hj, e⟩ := List.getElem_of_mem (flt_mem.2 ⟨loop_lt hn, loop_flat hn h⟩)
  have hg : (fltL n r).getD 0 0 = (fltL n r)[0] := by simp [List.getD, hp]
  rw [hg, ← e]
  rcases Nat.eq_zero_or_pos j with rfl | hj0
  · exact Nat.le_refl _
  · exact Nat.le_of_lt (List.pairwise_iff_getElem.1 (flt_up n r) 0 j hp hj hj0)
theorem flt_inj {n : Nat} {r : Nat → Nat} {i j : Nat} (hi : i < (fltL n r).length) (hj : j < (fltL n r).length) (e : (fltL n r).getD i 0 = (fltL n r).getD j 0) : i = j := by
  have gi : (fltL n r).getD i 0 = (fltL n r)[i] := by simp [List.getD, hi]
  have gj : (fltL n r).getD j 0 = (fltL n r)[j] := by simp [List.getD, hj]
  rw [gi, gj] at e
  rcases Nat.lt_trichotomy i j with h | h | h
  · have := List.pairwise_iff_getElem.1 (flt_up n r) i j hi hj h; omega
  · exact h
  · have := List.pairwise_iff_getElem.1 (flt_up n r) j i hj hi h; omega
theorem take_map (l : List Nat) : ∀ k, k ≤ l.length → l.take k = (List.range k).map fun i => l.getD i 0 := fun k hk => by
  induction k with
  | zero => rfl
  | succ k ih => rw [List.range_succ, List.map_append, ← ih (by omega), List.take_add_one]; simp [List.getD, show k < l.length by omega]
/-- MOBIUS' number of the i-th flat -/
def mobF (r : Nat → Nat) (n i : Nat) : Int := mobS r n ((fltL n r).getD i 0)
/-- those of the first j flats that are within the i-th, added -/
def mobT (r : Nat → Nat) (n i j : Nat) : Int := tal (fun k => if subB ((fltL n r).getD k 0) ((fltL n r).getD i 0) = true then mobF r n k else 0) (List.range j)
theorem mobT_step (r : Nat → Nat) (n i j : Nat) : mobT r n i (j + 1) = if subB ((fltL n r).getD j 0) ((fltL n r).getD i 0) = true then mobT r n i j + mobF r n j else mobT r n i j := by
  unfold mobT
  rw [tal_range]
  split <;> omega
theorem mobT_bound (r : Nat → Nat) {n : Nat} (hn : n ≤ 8) (i : Nat) {j : Nat} (hj : j ≤ 256) : -65536 ≤ mobT r n i j ∧ mobT r n i j ≤ 65536 := by
  have := tal_bound (F := fun k => if subB ((fltL n r).getD k 0) ((fltL n r).getD i 0) = true then mobF r n k else 0) (c := 256) (l := List.range j) fun x _ => by
    have := mobS_bound r hn ((fltL n r).getD x 0)
    try dsimp only
    unfold mobF
    split <;> omega
  rw [List.length_range] at this
  unfold mobT
  omega
theorem mobT_take (r : Nat → Nat) {n i j : Nat} (hj : j ≤ (fltL n r).length) : mobT r n i j = tal (mobS r n) (((fltL n r).take j).filter fun g => subB g ((fltL n r).getD i 0)) := by
  rw [tal_filter, take_map _ j hj, tal_map]
  rfl
theorem mob_zero {n : Nat} {r : Nat → Nat} (hn : n ≤ 8) (h : Rk r) : mobF r n 0 = 1 := by
  unfold mobF
  rw [flt_zero hn h, mob_step hn h (loop_lt hn) (loop_flat hn h), if_pos rfl]
  have : ((List.range (loopS r n)).filter fun g => flatB r n g && subB g (loopS r n)) = [] := List.filter_eq_nil_iff.2 fun x hx => by
    rw [List.mem_range] at hx
    intro hc
    rw [Bool.and_eq_true] at hc
    have hl := loop_lt (r := r) hn
    have := subM_le (loop_in hn h (show x < 2 ^ n by omega) hc.1)
    omega
  rw [this]
  simp [tal]
theorem mob_next {n i : Nat} {r : Nat → Nat} (hn : n ≤ 8) (h : Rk r) (h0 : i ≠ 0) (hi : i < (fltL n r).length) : mobF r n i = - mobT r n i i := by
  have hg := flt_getD hi
  have hne : (fltL n r).getD i 0 ≠ loopS r n := fun e => h0 (flt_inj hi (flt_pos hn h) (e.trans (flt_zero hn h).symm))
  rw [mobT_take r (Nat.le_of_lt hi)]
  unfold mobF
  rw [mob_step hn h hg.1 hg.2, if_neg hne, ← List.filter_filter]
  have := rg_before (p := flatB r n) (T := 2 ^ n) hi
  have e : ((List.range ((fltL n r).getD i 0)).filter fun x => flatB r n x) = (fltL n r).take i := this
  have e2 : (List.filter (fun a => subB a ((fltL n r).getD i 0)) (List.filter (flatB r n) (List.range ((fltL n r).getD i 0)))) = ((fltL n r).take i).filter fun g => subB g ((fltL n r).getD i 0) := by rw [← e]
  rw [← e2, List.filter_filter, List.filter_filter]
  have e3 : ∀ L : List Nat, (L.filter fun a => flatB r n a && subB a ((fltL n r).getD i 0)) = L.filter fun a => subB a ((fltL n r).getD i 0) && flatB r n a := fun L => List.filter_congr fun x _ => Bool.and_comm _ _
  rw [e3]
  omega
/-- MOBIUS' number by the first k sets, as the document has it -/
def mobD (r : Nat → Nat) (n f k : Nat) : Int := tal (fun s => if (subB s f && (s &&& loopS r n == 0) && (cl r n s == f)) = true then sgn s else 0) (List.range k)
theorem mobD_step (r : Nat → Nat) (n f k : Nat) : mobD r n f (k + 1) = if (subB k f && (k &&& loopS r n == 0) && (cl r n k == f)) = true then mobD r n f k + sgn k else mobD r n f k := by
  unfold mobD
  rw [tal_range]
  split <;> omega
theorem mobD_bound (r : Nat → Nat) (n f k : Nat) : -(k : Int) ≤ mobD r n f k ∧ mobD r n f k ≤ k := by
  have := tal_bound (F := fun s => if (subB s f && (s &&& loopS r n == 0) && (cl r n s == f)) = true then sgn s else 0) (c := 1) (l := List.range k) fun x _ => by
    have := sgn_bound x
    try dsimp only
    split <;> omega
  simpa [mobD] using this
theorem tal_longer {F : Nat → Int} {a : Nat} : ∀ {b : Nat}, a ≤ b → (∀ s, a ≤ s → s < b → F s = 0) → tal F (List.range b) = tal F (List.range a)
  | 0, h, _ => by obtain rfl : a = 0 := by omega
                  rfl
  | b + 1, h, k => by
    rcases Nat.eq_or_lt_of_le h with rfl | h'
    · rfl
    · rw [tal_range, k b (by omega) (by omega), tal_longer (by omega : a ≤ b) fun s h1 h2 => k s h1 (by omega)]
      omega
theorem mobD_end {n f : Nat} {r : Nat → Nat} (hn : n ≤ 8) (hf : f < 2 ^ n) : mobD r n f (f + 1) = mobS r n f := by
  unfold mobD mobS
  have e : ∀ s, s < 2 ^ n → (if (subB s f && (s &&& loopS r n == 0) && (cl r n s == f)) = true then sgn s else 0) = (if cl r n s = f then (if s &&& loopS r n = 0 then sgn s else 0) else 0) := fun s hs => by
    by_cases h1 : cl r n s = f
    · have h2 : subB s f = true := by have := sub_cl (r := r) hn hs; rwa [h1] at this
      by_cases h3 : s &&& loopS r n = 0
      · simp [h1, h2, h3]
      · simp [h1, h2, h3]
    · simp [h1]
  rw [← tal_congr (l := List.range (2 ^ n)) fun s hs => e s (List.mem_range.1 hs)]
  refine (tal_longer (by omega) fun s h1 h2 => ?_).symm
  have : subB s f = false := by
    rw [Bool.eq_false_iff]
    intro hc
    have := subM_le hc
    omega
  simp [this]
end Go.Proofs.Ytcncaaeofcmefaa

namespace Go.Proofs.Ytcncaaeofcmefaa

variable {P k n d : Nat} {g : Nat → Nat → Int} {b : Nat → Nat}
/-- Nought at all places of A. -/
def zrB (P k n : Nat) (g : Nat → Nat → Int) (A : Nat → Bool) (x : Nat → Nat) : Bool := (List.range n).all fun r => !A r || !nzB P (lcS k g (fun i => (x i : Nat)) r)
theorem zrB_iff {A : Nat → Bool} {x : Nat → Nat} : zrB P k n g A x = true ↔ ∀ r, r < n → A r = true → Em (P : Int) (lcS k g (fun i => (x i : Nat)) r) 0 := by
  unfold zrB
  rw [List.all_eq_true]
  constructor
  · intro h r hr hA
    have := h r (List.mem_range.2 hr)
    rw [hA, Bool.not_true, Bool.false_or, Bool.not_eq_true'] at this
    exact Classical.byContradiction fun c => by rw [nzB_iff.2 c] at this; cases this
  · intro h r hr
    rcases hA : A r with _ | _
    · rfl
    · rw [Bool.not_true, Bool.false_or, Bool.not_eq_true']
      rcases hz : nzB P (lcS k g (fun i => (x i : Nat)) r) with _ | _
      · rfl
      · exact absurd (h r (List.mem_range.1 hr) hA) (nzB_iff.1 hz)
/-- How many coefficients are so. -/
def cnZ (P k n : Nat) (g : Nat → Nat → Int) (A : Nat → Bool) : Int := itr (fun _ => List.range P) k fun x => if zrB P k n g A x = true then 1 else 0
/-- And s at place e. -/
def cnV (P k n : Nat) (g : Nat → Nat → Int) (A : Nat → Bool) (e : Nat) (s : Int) : Int := itr (fun _ => List.range P) k fun x => if (zrB P k n g A x && lcS k g (fun i => (x i : Nat)) e % P == s) = true then 1 else 0
theorem cnV_sum (hp : isP (P : Int)) (A : Nat → Bool) (e : Nat) : cnZ P k n g A = tal (fun s => cnV P k n g A e (s : Nat)) (List.range P) := by
  unfold cnZ cnV
  rw [← itr_tal]
  refine itr_congr fun x _ _ => ?_
  have hP := pos_P hp
  have h0 := Int.emod_nonneg (lcS k g (fun i => (x i : Nat)) e) (by omega : (P : Int) ≠ 0)
  have h1 := Int.emod_lt_of_pos (lcS k g (fun i => (x i : Nat)) e) (by omega : 0 < (P : Int))
  obtain ⟨v, hv⟩ : ∃ v : Nat, lcS k g (fun i => (x i : Nat)) e % (P : Int) = (v : Int) := ⟨_, (Int.toNat_of_nonneg h0).symm⟩
  rw [hv] at h1 ⊢
  have hvP : v < P := by omega
  by_cases hz : zrB P k n g A x = true
  · rw [hz, if_pos rfl]
    simp only [Bool.true_and]
    have key : ∀ m, tal (fun s : Nat => if (((v : Int) == (s : Int)) = true) then (1 : Int) else 0) (List.range m) = if v < m then 1 else 0 := fun m => by
      induction m with
      | zero => rfl
      | succ m ih =>
        have e3 : (((v : Int) == (m : Int)) = true) ↔ v = m := by rw [beq_iff_eq]; omega
        rw [tal_range, ih]
        simp only [e3]
        split <;> split <;> split <;> omega
    rw [key, if_pos hvP]
  · rw [if_neg hz, tal_congr (G := fun _ => 0) fun s _ => ?_, tal_zero]
    have : zrB P k n g A x = false := by simpa using hz
    rw [this]
    rfl
theorem cnV_zero (e : Nat) (he : e < n) (A : Nat → Bool) : cnV P k n g A e 0 = cnZ P k n g fun r => A r || r == e := by
  unfold cnV cnZ
  refine itr_congr fun x _ _ => ?_
  congr 1
  rw [Bool.and_eq_true, zrB_iff, zrB_iff, beq_iff_eq, ← Em.zero]
  apply propext
  constructor
  · rintro ⟨h1, h2⟩ r hr hA
    rcases Bool.or_eq_true_iff.1 hA with h | h
    · exact h1 r hr h
    · rw [beq_iff_eq] at h
      subst h
      exact h2
  · intro h
    exact ⟨fun r hr hA => h r hr (by rw [hA]; rfl), h e he (by simp)⟩
/-- Each number comes as often as nought, if one does. -/
theorem cnV_same (hp : isP (P : Int)) {A : Nat → Bool} {e : Nat} {y : Nat → Int} (h1 : ∀ r, r < n → A r = true → Em (P : Int) (lcS k g y r) 0) (h2 : Em (P : Int) (lcS k g y e) 1) {s : Nat} (hs : s < P) : cnV P k n g A e (s : Nat) = cnV P k n g A e 0 := by
  have hP := pos_P hp
  have hz : (P : Int) ≠ 0 := by omega
  unfold cnV
  rw [← itr_perm (A := fun _ => List.range P) (n := k) (σ := fun i a => (a + (((s : Int) * y i) % P).toNat) % P) (F := fun x => if (zrB P k n g A x && lcS k g (fun i => (x i : Nat)) e % P == (s : Nat)) = true then 1 else 0) fun i _ => turn_perm hP]
  refine itr_congr fun x _ _ => ?_
  have hem : ∀ r, Em (P : Int) (lcS k g (fun i => (apF (fun i a => (a + (((s : Int) * y i) % P).toNat) % P) k x i : Nat)) r) (lcS k g (fun i => (x i : Nat)) r + s * lcS k g y r) := fun r => by
    rw [← lcS_add]
    refine lcS_em fun i hi => ?_
    unfold apF
    rw [if_pos hi, Int.natCast_emod, Int.natCast_add, Int.toNat_of_nonneg (Int.emod_nonneg _ hz)]
    exact (Em.mod _).trans ((Em.refl _).add (Em.mod _))
  congr 1
  rw [Bool.and_eq_true, Bool.and_eq_true, zrB_iff, zrB_iff, beq_iff_eq, beq_iff_eq, ← Em.zero]
  have z1 : (∀ r, r < n → A r = true → Em (P : Int) (lcS k g (fun i => (apF (fun i a => (a + (((s : Int) * y i) % P).toNat) % P) k x i : Nat)) r) 0) ↔ ∀ r, r < n → A r = true → Em (P : Int) (lcS k g (fun i => (x i : Nat)) r) 0 := by
    have w : ∀ r, r < n → A r = true → Em (P : Int) (lcS k g (fun i => (apF (fun i a => (a + (((s : Int) * y i) % P).toNat) % P) k x i : Nat)) r) (lcS k g (fun i => (x i : Nat)) r) := fun r hr hA => by
      have := (Em.refl (p := (P : Int)) (lcS k g (fun i => (x i : Nat)) r)).add (Em.mul0' (a := (s : Int)) (h1 r hr hA))
      rw [Int.add_zero] at this
      exact (hem r).trans this
    exact ⟨fun h r hr hA => (w r hr hA).symm.trans (h r hr hA), fun h r hr hA => (w r hr hA).trans (h r hr hA)⟩
  have z2 : lcS k g (fun i => (apF (fun i a => (a + (((s : Int) * y i) % P).toNat) % P) k x i : Nat)) e % (P : Int) = (s : Nat) ↔ Em (P : Int) (lcS k g (fun i => (x i : Nat)) e) 0 := by
    have w : Em (P : Int) (lcS k g (fun i => (apF (fun i a => (a + (((s : Int) * y i) % P).toNat) % P) k x i : Nat)) e) (lcS k g (fun i => (x i : Nat)) e + s) := by
      have := (Em.refl (p := (P : Int)) (lcS k g (fun i => (x i : Nat)) e)).add ((Em.refl (p := (P : Int)) (s : Int)).mul h2)
      rw [Int.mul_one] at this
      exact (hem e).trans this
    constructor
    · intro h
      have h3 : Em (P : Int) (lcS k g (fun i => (x i : Nat)) e + s) s := w.symm.trans ((Em.mod _).symm.trans (Em.of h))
      have h4 := h3.sub (Em.refl (p := (P : Int)) (s : Int))
      rwa [Int.add_sub_cancel, Int.sub_self] at h4
    · intro h
      have h3 := w.trans (h.add (Em.refl (s : Int)))
      rw [Int.zero_add] at h3
      refine Em.eq ((Em.mod _).trans h3) ⟨Int.emod_nonneg _ hz, Int.emod_lt_of_pos _ (by omega)⟩ ⟨by omega, by omega⟩
  rw [z1, z2]
/-- A place more that can be something else. -/
theorem cnZ_less (hp : isP (P : Int)) {A : Nat → Bool} {e : Nat} (he : e < n) {y : Nat → Int} (h1 : ∀ r, r < n → A r = true → Em (P : Int) (lcS k g y r) 0) (h2 : ¬ Em (P : Int) (lcS k g y e) 0) : cnZ P k n g A = P * cnZ P k n g fun r => A r || r == e := by
  obtain ⟨u, hu⟩ := Em.inv hp h2
  have e2 : ∀ r, lcS k g (fun i => u * y i) r = u * lcS k g y r := fun r => by
    unfold lcS
    rw [← sm_mul]
    exact sm_congr fun i _ => Int.mul_assoc _ _ _
  rw [cnV_sum hp A e, tal_congr (G := fun _ => cnV P k n g A e 0) fun s hs => cnV_same hp (y := fun i => u * y i) (fun r hr hA => by rw [e2]; exact Em.mul0' (h1 r hr hA)) (by rw [e2]; exact hu) (List.mem_range.1 hs), tal_const, List.length_range, cnV_zero e he]
  first | rfl | exact Int.mul_comm _ _
/-- A place more that is nought anyway. -/
theorem cnZ_stay (hp : isP (P : Int)) {A : Nat → Bool} {e : Nat} (h : ∀ y : Nat → Int, (∀ r, r < n → A r = true → Em (P : Int) (lcS k g y r) 0) → Em (P : Int) (lcS k g y e) 0) : cnZ P k n g A = cnZ P k n g fun r => A r || r == e := by
  have _ := hp
  unfold cnZ
  refine itr_congr fun x _ _ => ?_
  congr 1
  rw [zrB_iff, zrB_iff]
  apply propext
  constructor
  · intro h1 r hr hA
    rcases Bool.or_eq_true_iff.1 hA with h3 | h3
    · exact h1 r hr h3
    · rw [beq_iff_eq] at h3
      subst h3
      exact h _ h1
  · intro h1 r hr hA
    exact h1 r hr (by rw [hA]; rfl)
theorem cnZ_none (P k n : Nat) (g : Nat → Nat → Int) : cnZ P k n g (fun _ => false) = (P : Int) ^ k := by
  unfold cnZ
  rw [← itr_one (A := fun _ => List.range P) (n := k) (k := P) fun i _ => List.length_range]
  refine itr_congr fun x _ _ => if_pos ?_
  rw [zrB_iff]
  intro r _ h
  cases h
theorem cnZ_one (hp : isP (P : Int)) {e : Nat} (he : e < n) : (P : Int) ^ k ≤ P * cnZ P k n g fun r => r == e := by
  have hP := pos_P hp
  have e0 : (fun r => (fun _ => false) r || r == e) = fun r : Nat => r == e := funext fun r => by simp
  by_cases h : ∀ y : Nat → Int, (∀ r, r < n → (fun _ => false) r = true → Em (P : Int) (lcS k g y r) 0) → Em (P : Int) (lcS k g y e) 0
  · have := cnZ_stay hp (A := fun _ => false) h
    rw [e0, cnZ_none] at this
    rw [← this]
    have h3 : (0 : Int) ≤ (P : Int) ^ k := Int.pow_nonneg (by omega)
    have h4 := Int.mul_le_mul_of_nonneg_right (show (1 : Int) ≤ P by omega) h3
    omega
  · obtain ⟨y, hy⟩ := Classical.not_forall.1 h
    obtain ⟨h1, h2⟩ := Classical.not_imp.1 hy
    have := cnZ_less hp he (A := fun _ => false) h1 h2
    rw [e0, cnZ_none] at this
    omega
theorem itr_sm {A : Nat → List Nat} {m : Nat} (F : (Nat → Nat) → Nat → Int) : ∀ n, itr A m (fun f => sm n (F f)) = sm n fun r => itr A m fun f => F f r
  | 0 => by
    show itr A m (fun _ => 0) = 0
    have := itr_mul (A := A) (n := m) (F := fun _ => 0) 0
    simpa using this
  | n + 1 => by
    show itr A m (fun f => sm n (F f) + F f n) = sm n _ + _
    rw [itr_addC, itr_sm F n]
/-- PLOTKIN. -/
theorem plotkin (hp : isP (P : Int)) (h : ∀ x : Nat → Int, (∃ i, i < k ∧ ¬ Em P (x i) 0) → d ≤ wtS P n (fun _ => true) (lcS k g x)) : (P : Int) * (d * ((P : Int) ^ k - 1)) ≤ n * ((P : Int) - 1) * (P : Int) ^ k := by
  have hP := pos_P hp
  have up : itr (fun _ => List.range P) k (fun x => (wtS P n (fun _ => true) (lcS k g fun i => (x i : Nat)) : Nat)) = sm n fun r => (P : Int) ^ k - cnZ P k n g fun t => t == r := by
    rw [itr_congr (G := fun x => sm n fun r => if nzB P (lcS k g (fun i => (x i : Nat)) r) = true then 1 else 0) fun x _ _ => by
      unfold wtS
      rw [cnP_sm]
      exact sm_congr fun r _ => by rw [Bool.true_and]]
    rw [itr_sm]
    refine sm_congr fun r hr => ?_
    have e1 : ∀ x : Nat → Nat, (if nzB P (lcS k g (fun i => (x i : Nat)) r) = true then (1 : Int) else 0) = 1 + (-1) * if zrB P k n g (fun t => t == r) x = true then 1 else 0 := fun x => by
      have : zrB P k n g (fun t => t == r) x = !nzB P (lcS k g (fun i => (x i : Nat)) r) := by
        rw [Bool.eq_iff_iff, zrB_iff, Bool.not_eq_true']
        constructor
        · intro h1
          have := h1 r hr (by simp)
          exact Classical.byContradiction fun c => nzB_iff.1 (by simpa using c) this
        · intro h1 t _ e
          rw [beq_iff_eq] at e
          subst e
          exact Classical.byContradiction fun c => by rw [nzB_iff.2 c] at h1; cases h1
      rw [this]
      by_cases hb : nzB P (lcS k g (fun i => (x i : Nat)) r) = true <;> simp [hb]
    rw [itr_congr fun x _ _ => e1 x, itr_addC, itr_mul, itr_one (k := P) fun i _ => List.length_range]
    unfold cnZ
    omega
  have low : (d : Int) * ((P : Int) ^ k - 1) ≤ itr (fun _ => List.range P) k (fun x => (wtS P n (fun _ => true) (lcS k g fun i => (x i : Nat)) : Nat)) := by
    rw [itr_code P]
    have h1 : tal (fun c => if c = 0 then (0 : Int) else d) (List.range (P ^ k)) = (d : Int) * ((P : Int) ^ k - 1) := by
      obtain ⟨q, hq⟩ : ∃ q, P ^ k = q + 1 := ⟨P ^ k - 1, by have := Nat.pow_pos (n := k) hP; omega⟩
      rw [← Int.natCast_pow, hq, List.range_succ_eq_map]
      show (0 : Int) + tal _ _ = _
      rw [tal_map, tal_congr (G := fun _ => (d : Int)) fun x _ => if_neg (Nat.succ_ne_zero x), tal_const, List.length_range, show ((q + 1 : Nat) : Int) - 1 = q by omega, Int.zero_add]
    rw [← h1]
    refine tal_mono fun c hc => ?_
    by_cases e : c = 0
    · rw [if_pos e]; omega
    · rw [if_neg e]
      have hex : ∃ i, i < k ∧ c / P ^ i % P ≠ 0 := Classical.byContradiction fun hn => e (dig_inj hP k c 0 (List.mem_range.1 hc) (Nat.pow_pos hP) fun i hi => by
        rw [Nat.zero_div, Nat.zero_mod]
        exact Classical.byContradiction fun h2 => hn ⟨i, hi, h2⟩)
      obtain ⟨i, hi, hne⟩ := hex
      refine Int.ofNat_le.2 (h _ ⟨i, hi, fun em => hne ?_⟩)
      unfold digF at em
      rw [if_pos hi] at em
      have := Em.eq em ⟨by omega, Int.ofNat_lt.2 (Nat.mod_lt _ hP)⟩ ⟨by omega, by omega⟩
      omega
  rw [up] at low
  have h3 := Int.mul_le_mul_of_nonneg_left low (show (0 : Int) ≤ P by omega)
  refine Int.le_trans h3 ?_
  rw [← sm_mul, Int.mul_assoc, ← sm_const]
  refine sm_leC fun r hr => ?_
  have h4 := cnZ_one (k := k) (n := n) (g := g) hp hr
  rw [Int.mul_sub, Int.sub_mul, Int.one_mul]
  omega
end Go.Proofs.Ytcncaaeofcmefaa

namespace Go.Proofs.Ytcncaaeofcmefaa

variable {P t : Nat} {g : Nat → Nat → Int}
/-- The first m words, of t rows. -/
def wdsL (P t : Nat) (g : Nat → Nat → Int) (m : Nat) : List (Nat → Nat) := (List.range m).map (wrdF P t g)
theorem wdsL_len (P t : Nat) (g : Nat → Nat → Int) (m : Nat) : (wdsL P t g m).length = m := by unfold wdsL; simp
theorem wdsL_succ (P t : Nat) (g : Nat → Nat → Int) (m : Nat) : wdsL P t g (m + 1) = wdsL P t g m ++ [wrdF P t g m] := by
  unfold wdsL
  rw [List.range_succ, List.map_append]
  rfl
theorem wdsL_get {m i : Nat} (hi : i < m) : (wdsL P t g m).getD i (fun _ => 0) = wrdF P t g i := by
  unfold wdsL
  rw [List.getD_eq_getElem?_getD, List.getElem?_map, List.getElem?_range hi]
  rfl
theorem wdsL_zero (P : Nat) (g : Nat → Nat → Int) : wdsL P 0 g 1 = [fun _ => 0] := by
  exact congrArg (fun x => [x]) (funext fun r => by unfold wrdF lcS; simp [sm])
/-- One row more: the old words stay. -/
theorem wrd_old {i : Nat} (hi : i < P ^ t) : wrdF P (t + 1) g i = wrdF P t g i := by
  funext r
  unfold wrdF
  have : lcS (t + 1) g (fun j => (digF P (t + 1) i j : Nat)) r = lcS t g (fun j => (digF P t i j : Nat)) r := by
    unfold lcS
    show sm t _ + _ = _
    have h0 : digF P (t + 1) i t = 0 := by
      unfold digF
      rw [if_pos (by omega), Nat.div_eq_of_lt hi, Nat.zero_mod]
    show (sm t fun j => (digF P (t + 1) i j : Nat) * g j r) + (digF P (t + 1) i t : Nat) * g t r = _
    rw [h0, show ((0 : Nat) : Int) = 0 from rfl, Int.zero_mul, Int.add_zero]
    refine sm_congr fun j hj => ?_
    show ((digF P (t + 1) i j : Nat) : Int) * g j r = ((digF P t i j : Nat) : Int) * g j r
    unfold digF
    rw [if_pos (by omega), if_pos hj]
  rw [this]
theorem wdsL_more (P t : Nat) (g : Nat → Nat → Int) : wdsL P (t + 1) g (P ^ t) = wdsL P t g (P ^ t) := by
  unfold wdsL
  exact List.map_congr_left fun i hi => wrd_old (List.mem_range.1 hi)
theorem pos_Pd (hp : isP (P : Int)) : 0 < P := by have := isP_pos hp; omega
/-- The next ones: those that there are, with the row once more. -/
theorem wrd_next (hp : isP (P : Int)) {i : Nat} (hi : i < P ^ t * (P - 1)) (r : Nat) : wrdF P (t + 1) g (P ^ t + i) r = ((((wrdF P (t + 1) g i r : Nat) : Int) + g t r) % P).toNat := by
  have hP := pos_Pd hp
  have hz : (P : Int) ≠ 0 := by omega
  have hk := Nat.pow_pos (n := t) hP
  have hq : i / P ^ t < P - 1 := by
    rw [Nat.div_lt_iff_lt_mul hk, Nat.mul_comm]
    exact hi
  have hd : ∀ j, j < t → digF P (t + 1) (P ^ t + i) j = digF P (t + 1) i j := fun j hj => by
    unfold digF
    rw [if_pos (by omega), if_pos (by omega)]
    have e : P ^ t = P ^ j * (P * P ^ (t - j - 1)) := by
      rw [← Nat.mul_assoc, ← Nat.pow_succ, ← Nat.pow_add]
      congr 1
      omega
    rw [e, Nat.mul_add_div (Nat.pow_pos hP), Nat.mul_add_mod]
  have ht : digF P (t + 1) (P ^ t + i) t = digF P (t + 1) i t + 1 := by
    unfold digF
    rw [if_pos (by omega), if_pos (by omega)]
    rw [show P ^ t + i = P ^ t * 1 + i by omega, Nat.mul_add_div hk, Nat.mod_eq_of_lt (by omega), Nat.mod_eq_of_lt (by omega)]
    omega
  have hl : lcS (t + 1) g (fun j => (digF P (t + 1) (P ^ t + i) j : Nat)) r = lcS (t + 1) g (fun j => (digF P (t + 1) i j : Nat)) r + g t r := by
    unfold lcS
    show (sm t fun j => (digF P (t + 1) (P ^ t + i) j : Nat) * g j r) + (digF P (t + 1) (P ^ t + i) t : Nat) * g t r = (sm t fun j => (digF P (t + 1) i j : Nat) * g j r) + (digF P (t + 1) i t : Nat) * g t r + g t r
    rw [ht, sm_congr (t := fun j => (digF P (t + 1) i j : Nat) * g j r) fun j hj => by rw [hd j hj]]
    rw [Int.natCast_add, Int.add_mul, show ((1 : Nat) : Int) = 1 from rfl, Int.one_mul]
    omega
  unfold wrdF
  rw [hl, Int.toNat_of_nonneg (Int.emod_nonneg _ hz), Int.emod_add_emod]
theorem wrd_out (hp : isP (P : Int)) {r : Nat} (h : ∀ j, j < t → g j r = 0) (i : Nat) : wrdF P t g i r = 0 := by
  have _ := hp
  unfold wrdF lcS
  rw [sm_congr (t := fun _ => 0) fun j hj => by rw [h j hj, Int.mul_zero], sm_zero]
  simp
end Go.Proofs.Ytcncaaeofcmefaa

namespace Go.Proofs.Ytcncaaeofcmefaa

theorem next_below : ∀ (n c s t : Nat), c < 2 ^ n → subB c s = true → subB t s = true → t < c → t ≤ (c - 1) &&& s
  | 0, c, s, t, h, _, _, hlt => by simp at h; omega
  | n + 1, c, s, t, h, hc, ht, hlt => by
    have e1 : ((c - 1) &&& s) / 2 = (c - 1) / 2 &&& s / 2 := Nat.and_div_two
    have d0 : (c / 2) &&& (s / 2) = c / 2 := by
      have := congrArg (· / 2) (sub_and hc)
      simpa [Nat.and_div_two] using this
    rcases Nat.mod_two_eq_zero_or_one c with h2 | h2
    · have hd : c / 2 < 2 ^ n := by have := Nat.pow_succ 2 n; omega
      have d1 : (t / 2) &&& (s / 2) = t / 2 := by
        have := congrArg (· / 2) (sub_and ht)
        simpa [Nat.and_div_two] using this
      have ih := next_below n (c / 2) (s / 2) (t / 2) hd (by unfold subB; rw [d0]; simp) (by unfold subB; rw [d1]; simp) (by omega)
      have e2 : (c - 1) / 2 = c / 2 - 1 := by omega
      rw [e2] at e1
      have b0 : ((c - 1) &&& s).testBit 0 = s.testBit 0 := by
        rw [Nat.testBit_and, Nat.testBit_zero]
        have : (c - 1) % 2 = 1 := by omega
        simp [this]
      have b1 := subB_iff.1 ht 0
      rw [← b0] at b1
      rw [Nat.testBit_zero, Nat.testBit_zero, decide_eq_true_eq, decide_eq_true_eq] at b1
      omega
    · have e2 : (c - 1) / 2 = c / 2 := by omega
      rw [e2, d0] at e1
      omega
theorem next_sub (c s : Nat) : subB ((c - 1) &&& s) s = true := subB_iff.2 fun i hi => by rw [and_bit] at hi; simp at hi; exact hi.2
theorem next_lt {c : Nat} (s : Nat) (h : c ≠ 0) : (c - 1) &&& s < c := Nat.lt_of_le_of_lt Nat.and_le_left (by omega)

/-- How many of the sets have an element of t. -/
def meets (l : List Nat) (t : Nat) : Nat := (l.filter fun o => meetB o t).length
/-- HALL'S condition, for what is within s and no further than c. -/
def hallTo (l : List Nat) (s c : Nat) : Bool := (List.range (c + 1)).all fun t => !subB t s || decide (pop t ≤ meets l t)
theorem hall_step {l : List Nat} {s c : Nat} (hc : subB c s = true) (h0 : c ≠ 0) (h8 : c < 256) : hallTo l s c = (decide (pop c ≤ meets l c) && hallTo l s ((c - 1) &&& s)) := by
  unfold hallTo
  rw [Bool.eq_iff_iff, Bool.and_eq_true, List.all_eq_true, List.all_eq_true]
  have hlt := next_lt s h0
  constructor
  · intro h
    refine ⟨?_, fun t ht => h t (by rw [List.mem_range] at ht ⊢; omega)⟩
    have := h c (by simp)
    simpa [hc] using this
  · rintro ⟨h1, h2⟩ t ht
    rw [List.mem_range] at ht
    by_cases e : t = c
    · subst e; simp only [hc, Bool.not_true, Bool.false_or]; exact h1
    · by_cases hs : subB t s = true
      · exact h2 t (by have := next_below 8 c s t h8 hc hs (by omega); rw [List.mem_range]; omega)
      · simp [Bool.eq_false_iff.2 hs]
theorem hall_zero (l : List Nat) (s : Nat) : hallTo l s 0 = true := by
  unfold hallTo
  have : pop 0 = 0 := by decide
  simp [this]
theorem hall_succ (l : List Nat) (s k : Nat) : hallTo l s (k + 1) = (hallTo l s k && (!subB (k + 1) s || decide (pop (k + 1) ≤ meets l (k + 1)))) := by
  unfold hallTo
  rw [List.range_succ (n := k + 1), List.all_append]
  simp
theorem meets_take {l : List Nat} {k t : Nat} (hk : k < l.length) : meets (l.take (k + 1)) t = meets (l.take k) t + if meetB (l.getD k 0) t then 1 else 0 := by
  unfold meets
  rw [List.take_succ_eq_append_getElem hk, List.filter_append, List.length_append]
  simp only [List.getD, List.getElem?_eq_getElem hk, Option.getD_some]
  by_cases h : meetB l[k] t = true <;> simp [h]
theorem meets_le (l : List Nat) (t : Nat) : meets l t ≤ l.length := List.length_filter_le _ _

/-- Two sets have elements together, and neither is within the other. -/
def crossB (s o : Nat) : Bool := (s &&& o != 0) && !subB s o && !subB o s
/-- What is wrong with the i-th set of a family and its number: 0: nothing. -/
def lamAt (l : List Nat) (ms : List Int) (i : Nat) : Int := if ms.getD i 0 < 0 then 1 else if (l.take i).any (crossB (l.getD i 0)) = true then 3 else 0
/-- What is wrong first, of the last k ones. -/
def lamR (l : List Nat) (ms : List Int) : Nat → Int
  | 0 => 0
  | k + 1 => if lamAt l ms (l.length - (k + 1)) = 0 then lamR l ms k else lamAt l ms (l.length - (k + 1))
def keepH (l : List Nat) (ms : List Int) (s : Nat) : Bool := (List.range l.length).all fun i => decide ((pop (s &&& l.getD i 0) : Int) ≤ ms.getD i 0)
end Go.Proofs.Ytcncaaeofcmefaa

namespace Go.Proofs.Ytcncaaeofcmefaa

variable {p : Int} {m n k N : Nat} {f g f0 : Nat → Nat → Int} {v w : Nat → Int} {b : Nat → Nat}
theorem acF_zero (a r : Nat) : acF p 0 f b a r = if r = a then 1 else 0 := rfl
/-- One row more. -/
theorem acF_succ (h : Rref p m k f b) {a i r : Nat} (hi : i < k) (hne : b i ≠ a) : acF p (i + 1) f b a r = if b i = r then (p - f i a) % p else acF p i f b a r := by
  unfold acF
  by_cases e : r = a
  · rw [if_pos e, if_pos e, if_neg (by rw [e]; exact hne)]
  · rw [if_neg e, if_neg e, List.range_succ, List.find?_append]
    by_cases e2 : b i = r
    · have : (List.range i).find? (fun j => b j == r) = none := List.find?_eq_none.2 fun j hj => by
        have hj := List.mem_range.1 hj
        have : b j ≠ r := fun e3 => by have := h.inj (by omega) hi (e3.trans e2.symm); omega
        simpa using this
      rw [this, if_pos e2]
      simp [e2]
    · rw [if_neg e2]
      have : [i].find? (fun j => b j == r) = none := by simp [e2]
      rw [this, Option.or_none]
theorem nb_hit {t : Nat} (h : nbB k b t = true) : nbL (t + 1) k b = nbL t k b ++ [t] := by simp [nbL, List.range_succ, List.filter_append, h]
theorem nb_miss {t : Nat} (h : nbB k b t = false) : nbL (t + 1) k b = nbL t k b := by simp [nbL, List.range_succ, List.filter_append, h]
theorem nb_front {t : Nat} : ∀ d, ∃ r, nbL (t + d) k b = nbL t k b ++ r
  | 0 => ⟨[], by simp⟩
  | d + 1 => by
    obtain ⟨r, hr⟩ := nb_front (t := t) d
    cases e : nbB k b (t + d) with
    | true => exact ⟨r ++ [t + d], by rw [← Nat.add_assoc, nb_hit e, hr, List.append_assoc]⟩
    | false => exact ⟨r, by rw [← Nat.add_assoc, nb_miss e, hr]⟩
theorem nb_here {t : Nat} (ht : t < m) (h : nbB k b t = true) : (nbL m k b).getD (nbL t k b).length 0 = t := by
  obtain ⟨r, hr⟩ := nb_front (t := t + 1) (k := k) (b := b) (m - (t + 1))
  rw [show t + 1 + (m - (t + 1)) = m by omega, nb_hit h] at hr
  rw [hr]
  simp [List.getD]
theorem orth_in (hv : InS p m k g v) (hw : ∀ j, j < k → Em p (sm m fun r => g j r * w r) 0) : Em p (sm m fun r => v r * w r) 0 := by
  obtain ⟨c, hc⟩ := hv
  have h1 : Em p (sm m fun r => v r * w r) (sm m fun r => sm k fun j => c j * (g j r * w r)) := Em.sm fun r hr => by
    have := (hc r hr).mul (Em.refl (p := p) (w r))
    rw [Int.mul_comm (sm _ _), ← sm_mul] at this
    exact this.trans (Em.of (sm_congr fun j _ => by rw [Int.mul_comm, Int.mul_assoc]))
  refine h1.trans ?_
  rw [sm_swap]
  refine Em.sm0 fun j hj => ?_
  rw [sm_mul]
  exact Em.mul0' (hw j hj)
theorem dot_comm (v w : Nat → Int) (m : Nat) : (sm m fun r => v r * w r) = sm m fun r => w r * v r := sm_congr fun _ _ => Int.mul_comm _ _
/-- The lists across what is reduced, and their number. -/
def kerA (p : Int) (m N : Nat) (f0 : Nat → Nat → Int) : Nat → Nat → Int := acG p m (redN p m N f0) (redF p m N f0) fun i => bgN m (redF p m N f0 i)
def kerC (p : Int) (m N : Nat) (f0 : Nat → Nat → Int) : Nat := (nbL m (redN p m N f0) fun i => bgN m (redF p m N f0 i)).length
theorem kerA_in (hp : isP p) (i r : Nat) : 0 ≤ kerA p m N f0 i r ∧ kerA p m N f0 i r < p := acF_in hp _ _
theorem ker_len (hp : isP p) (h0 : ∀ i, i < N → ∀ r, r < m → 0 ≤ f0 i r ∧ f0 i r < p) : kerC p m N f0 + redN p m N f0 = m := by
  obtain ⟨-, b, r1, -, -⟩ := red_ok hp h0
  exact nb_len m _ _ r1.begs.lt r1.begs.mono
theorem ker_red (hp : isP p) : redN p m (kerC p m N f0) (kerA p m N f0) = kerC p m N f0 := by
  obtain ⟨q0, b', q1, q2, q3⟩ := red_ok (f0 := kerA p m N f0) (N := kerC p m N f0) (m := m) hp fun i _ r _ => kerA_in hp i r
  exact Nat.le_antisymm q0 (free_le hp (acG_free m _ _ _) q3)
/-- The kernel's rows. -/
def kerF (p : Int) (m N : Nat) (f0 : Nat → Nat → Int) : Nat → Nat → Int := redF p m (kerC p m N f0) (kerA p m N f0)
theorem ker_rref (hp : isP p) : ∃ b, Rref p m (kerC p m N f0) (kerF p m N f0) b := by
  obtain ⟨-, b', q1, -, -⟩ := red_ok (f0 := kerA p m N f0) (N := kerC p m N f0) (m := m) hp fun i _ r _ => kerA_in hp i r
  rw [ker_red hp] at q1
  exact ⟨b', q1⟩
theorem ker_nought (hp : isP p) (h0 : ∀ i, i < N → ∀ r, r < m → 0 ≤ f0 i r ∧ f0 i r < p) {i j : Nat} (hi : i < N) (hj : j < kerC p m N f0) : Em p (sm m fun r => f0 i r * kerF p m N f0 j r) 0 := by
  obtain ⟨-, b, r1, r2, r3⟩ := red_ok hp h0
  obtain ⟨-, b', q1, q2, q3⟩ := red_ok (f0 := kerA p m N f0) (N := kerC p m N f0) (m := m) hp fun i _ r _ => kerA_in hp i r
  rw [ker_red hp] at q2
  refine orth_in (r3 i hi) fun t ht => ?_
  rw [dot_comm]
  refine orth_in (q2 j hj) fun s hs => ?_
  rw [dot_comm]
  exact acF_nought r1.begs (nb_at hs).1 (nb_at hs).2 ht
theorem ker_span (hp : isP p) (h0 : ∀ i, i < N → ∀ r, r < m → 0 ≤ f0 i r ∧ f0 i r < p) (hv : ∀ i, i < N → Em p (sm m fun r => f0 i r * v r) 0) : InS p m (kerC p m N f0) (kerF p m N f0) v := by
  obtain ⟨-, b, r1, r2, r3⟩ := red_ok hp h0
  obtain ⟨-, b', q1, q2, q3⟩ := red_ok (f0 := kerA p m N f0) (N := kerC p m N f0) (m := m) hp fun i _ r _ => kerA_in hp i r
  rw [ker_red hp] at q3
  exact (acG_span r1.begs fun i hi => orth_in (r2 i hi) hv).trans q3
theorem kerF_in (hp : isP p) {j : Nat} (hj : j < kerC p m N f0) {r : Nat} (hr : r < m) : 0 ≤ kerF p m N f0 j r ∧ kerF p m N f0 j r < p := by
  obtain ⟨b, h⟩ := ker_rref (p := p) (m := m) (N := N) (f0 := f0) hp
  exact h.rng j hj r hr
theorem ker_num (hp : isP p) (h0 : ∀ i, i < N → ∀ r, r < m → 0 ≤ f0 i r ∧ f0 i r < p) : kerC p m (kerC p m N f0) (kerF p m N f0) = redN p m N f0 := by
  have h1 : redN p m (kerC p m N f0) (kerF p m N f0) = kerC p m N f0 := by
    have := (red_twice (f0 := kerA p m N f0) (N := kerC p m N f0) (m := m) hp fun i _ r _ => kerA_in hp i r).1
    rw [ker_red hp] at this
    exact this
  have h2 := ker_len hp h0
  have h3 := ker_len (f0 := kerF p m N f0) (N := kerC p m N f0) (m := m) hp fun i hi r hr => kerF_in hp hi hr
  omega
/-- What comes to nought with all that does so with these is a sum of these. -/
theorem ker_perp (hp : isP p) (h0 : ∀ i, i < N → ∀ r, r < m → 0 ≤ f0 i r ∧ f0 i r < p) (hv : ∀ j, j < kerC p m N f0 → Em p (sm m fun r => kerF p m N f0 j r * v r) 0) : InS p m (redN p m N f0) (redF p m N f0) v := by
  obtain ⟨-, b, r1, r2, r3⟩ := red_ok hp h0
  have hn := ker_num hp h0
  have hk : ∀ i, i < kerC p m N f0 → ∀ r, r < m → 0 ≤ kerF p m N f0 i r ∧ kerF p m N f0 i r < p := fun i hi r hr => kerF_in hp hi hr
  have h1 := ker_span (v := v) hp hk hv
  have h2 : ∀ i, i < redN p m N f0 → InS p m (kerC p m (kerC p m N f0) (kerF p m N f0)) (kerF p m (kerC p m N f0) (kerF p m N f0)) (redF p m N f0 i) := fun i hi => ker_span hp hk fun j hj => by
    rw [dot_comm]
    exact orth_in (r2 i hi) fun t ht => ker_nought hp h0 ht hj
  rw [hn] at h1 h2
  exact h1.trans fun j hj => span_eq hp r1.free h2 hj
/-- A kernel's kernel has the rows of what is reduced. -/
theorem ker_ker (hp : isP p) (h0 : ∀ i, i < N → ∀ r, r < m → 0 ≤ f0 i r ∧ f0 i r < p) : ∀ i, i < redN p m N f0 → ∀ r, r < m → kerF p m (kerC p m N f0) (kerF p m N f0) i r = redF p m N f0 i r := by
  obtain ⟨-, b, r1, r2, r3⟩ := red_ok hp h0
  have hn := ker_num hp h0
  have hk : ∀ i, i < kerC p m N f0 → ∀ r, r < m → 0 ≤ kerF p m N f0 i r ∧ kerF p m N f0 i r < p := fun i hi r hr => kerF_in hp hi hr
  obtain ⟨b2, s1⟩ := ker_rref (p := p) (m := m) (N := kerC p m N f0) (f0 := kerF p m N f0) hp
  rw [hn] at s1
  refine (s1.uniq hp r1 (fun i hi => ?_) fun i hi => ?_).2.2
  · have := ker_span (v := redF p m N f0 i) hp hk fun j hj => by
      rw [dot_comm]
      exact orth_in (r2 i hi) fun t ht => ker_nought hp h0 ht hj
    rwa [hn] at this
  · refine ker_perp hp h0 fun j hj => ?_
    exact ker_nought hp hk hj (by rwa [hn])
/-- Reckoned modulo p: what comes to nought with all that does so with these (whatever numbers) is a sum of these. -/
theorem perp_in (hp : isP p) (hv : ∀ a : Nat → Int, (∀ i, i < N → Em p (sm m fun r => f0 i r * a r) 0) → Em p (sm m fun r => v r * a r) 0) : InS p m N f0 v := by
  have hp2 := isP_pos hp
  obtain ⟨f1, hf1⟩ : ∃ f1 : Nat → Nat → Int, ∀ i r, f1 i r = f0 i r % p := ⟨_, fun _ _ => rfl⟩
  have e1 : ∀ i r, Em p (f1 i r) (f0 i r) := fun i r => by rw [hf1]; exact Em.mod _
  have h0 : ∀ i, i < N → ∀ r, r < m → 0 ≤ f1 i r ∧ f1 i r < p := fun i _ r _ => by rw [hf1]; exact ⟨Int.emod_nonneg _ (by omega), Int.emod_lt_of_pos _ (by omega)⟩
  obtain ⟨-, b, r1, r2, r3⟩ := red_ok hp h0
  have h1 := ker_perp (v := v) hp h0 fun j hj => by
    rw [dot_comm]
    refine hv _ fun i hi => (Em.sm fun r hr => ((e1 i r).mul (Em.refl _)).symm).trans (ker_nought hp h0 hi hj)
  refine (h1.trans r2).trans fun i hi => (InS.of hi).cg fun r _ => e1 i r
end Go.Proofs.Ytcncaaeofcmefaa

namespace Go.Proofs.Ytcncaaeofcmefaa

/-- The least number by which b, so many times, brings a to nought. -/
def fcN (p a b : Int) : Nat := ((List.range 8).find? fun f : Nat => (a + (f : Int) * b) % p == 0).getD 0
theorem fcN_spec {p a b : Int} (hp : isP p) (a0 : 0 ≤ a) (a1 : a < p) (b0 : 0 < b) (b1 : b < p) : fcN p a b < 7 ∧ (a + (fcN p a b : Nat) * b) % p = 0 ∧ ∀ f : Nat, f < fcN p a b → (a + (f : Int) * b) % p ≠ 0 := by
  have key : ∀ q ∈ [2, 3, 5, 7], ∀ x ∈ List.range 7, ∀ y ∈ List.range 7, x < q → 0 < y → y < q → fcN (q : Nat) (x : Nat) (y : Nat) < 7 ∧ (((x : Nat) : Int) + (fcN (q : Nat) (x : Nat) (y : Nat) : Nat) * ((y : Nat) : Int)) % ((q : Nat) : Int) = 0 ∧ ∀ f ∈ List.range 7, f < fcN (q : Nat) (x : Nat) (y : Nat) → (((x : Nat) : Int) + ((f : Nat) : Int) * ((y : Nat) : Int)) % ((q : Nat) : Int) ≠ 0 := by decide +kernel
  have hp2 := isP_pos hp
  obtain ⟨q, rfl⟩ : ∃ q : Nat, p = q := ⟨p.toNat, by omega⟩
  obtain ⟨x, rfl⟩ : ∃ x : Nat, a = x := ⟨a.toNat, by omega⟩
  obtain ⟨y, rfl⟩ : ∃ y : Nat, b = y := ⟨b.toNat, by omega⟩
  have hq : q ∈ [2, 3, 5, 7] := by
    rcases hp with h | h | h | h <;> simp <;> omega
  obtain ⟨h1, h2, h3⟩ := key q hq x (List.mem_range.2 (by omega)) y (List.mem_range.2 (by omega)) (by omega) (by omega) (by omega)
  exact ⟨h1, h2, fun f hf => h3 f (List.mem_range.2 (by omega)) hf⟩
variable {p : Int} {m q N : Nat} {K f0 : Nat → Nat → Int} {ld : Nat → Nat} {v v' : Nat → Int}
/-- The rows that are kept: each has a lead, at which those behind are nought. -/
structure Kpt (p : Int) (m q : Nat) (K : Nat → Nat → Int) (ld : Nat → Nat) : Prop where
  lt : ∀ k, k < q → ld k < m
  ne : ∀ k, k < q → K k (ld k) ≠ 0
  fst : ∀ k, k < q → ∀ r, r < ld k → K k r = 0
  clr : ∀ k j, k < j → j < q → K j (ld k) = 0
  rng : ∀ k, k < q → ∀ r, r < m → 0 ≤ K k r ∧ K k r < p
theorem Kpt.free (hp : isP p) (h : Kpt p m q K ld) : FreeM p m q K := fun x hx i => by
  have hp2 := isP_pos hp
  induction i using Nat.strongRecOn with
  | ind i ih =>
    intro hi
    have h1 := hx (ld i) (h.lt i hi)
    have h2 : Em p (sm q fun j => x j * K j (ld i)) (sm q fun j => if j = i then x i * K i (ld i) else 0) := Em.sm fun j hj => by
      by_cases e : j = i
      · subst e; rw [if_pos rfl]; exact Em.refl _
      · rw [if_neg e]
        rcases Nat.lt_or_ge j i with hl | hl
        · exact (ih j hl hj).mul0
        · rw [h.clr i j (by omega) hj, Int.mul_zero]; exact Em.refl _
    rw [sm_one _ hi] at h2
    have h3 := h2.symm.trans h1
    have hne : ¬ Em p (K i (ld i)) 0 := fun e => h.ne i hi (Em.eq e (h.rng i hi _ (h.lt i hi)) ⟨Int.le_refl 0, by omega⟩)
    obtain ⟨e, he⟩ := Em.inv hp hne
    have h4 := h3.mul0' (a := e)
    have h5 := he.mul (Em.refl (p := p) (x i))
    rw [Int.one_mul] at h5
    refine h5.symm.trans (Em.trans (Em.of ?_) h4)
    rw [Int.mul_assoc, Int.mul_comm (K i (ld i))]
theorem Kpt.num (hp : isP p) (h : Kpt p m q K ld) (h0 : ∀ i, i < N → ∀ r, r < m → 0 ≤ f0 i r ∧ f0 i r < p) (s1 : ∀ k, k < q → InS p m N f0 (K k)) (s2 : ∀ j, j < N → InS p m q K (f0 j)) : q = redN p m N f0 := by
  obtain ⟨-, b, r1, r2, r3⟩ := red_ok hp h0
  exact Nat.le_antisymm (free_le hp (h.free hp) fun k hk => (s1 k hk).trans r3) (free_le hp r1.free fun i hi => (r2 i hi).trans s2)
/-- One more is kept. -/
theorem Kpt.snoc (h : Kpt p m q K ld) {K' : Nat → Nat → Int} {a : Nat} (hK : ∀ k, k < q → K' k = K k) (hq : K' q = v) (ha : a < m) (h1 : v a ≠ 0) (h2 : ∀ r, r < a → v r = 0) (h3 : ∀ k, k < q → v (ld k) = 0) (hr : ∀ r, r < m → 0 ≤ v r ∧ v r < p) : Kpt p m (q + 1) K' fun k => if k = q then a else ld k := by
  refine ⟨fun k hk => ?_, fun k hk => ?_, fun k hk r hr2 => ?_, fun k j hkj hj => ?_, fun k hk r hr2 => ?_⟩
  · by_cases e : k = q
    · rw [if_pos e]; exact ha
    · rw [if_neg e]; exact h.lt k (by omega)
  · by_cases e : k = q
    · subst e; rw [if_pos rfl, hq]; exact h1
    · rw [if_neg e, hK k (by omega)]; exact h.ne k (by omega)
  · by_cases e : k = q
    · subst e; rw [if_pos rfl] at hr2; rw [hq]; exact h2 r hr2
    · rw [if_neg e] at hr2; rw [hK k (by omega)]; exact h.fst k (by omega) r hr2
  · rw [if_neg (by omega)]
    by_cases e : j = q
    · subst e; rw [hq]; exact h3 k hkj
    · rw [hK j (by omega)]; exact h.clr k j hkj (by omega)
  · by_cases e : k = q
    · subst e; rw [hq]; exact hr r hr2
    · rw [hK k (by omega)]; exact h.rng k (by omega) r hr2
/-- A row while it is cleared. -/
structure Clr (p : Int) (m q k : Nat) (K : Nat → Nat → Int) (ld : Nat → Nat) (u v : Nat → Int) : Prop where
  nil : ∀ j, j < k → v (ld j) = 0
  rng : ∀ r, r < m → 0 ≤ v r ∧ v r < p
  dif : InS p m q K fun r => v r - u r
theorem Clr.start (hr : ∀ r, r < m → 0 ≤ v r ∧ v r < p) : Clr p m q 0 K ld v v := ⟨fun j hj => by omega, hr, InS.zero.cg fun r _ => Em.of (by omega)⟩
theorem Clr.step (hp : isP p) (h : Kpt p m q K ld) {k : Nat} {u : Nat → Int} (hc : Clr p m q k K ld u v) (hk : k < q) (f : Int) (hf : (v (ld k) + f * K k (ld k)) % p = 0) : Clr p m q (k + 1) K ld u fun r => (v r + f * K k r) % p := by
  have hp2 := isP_pos hp
  refine ⟨fun j hj => ?_, fun r _ => ⟨Int.emod_nonneg _ (by omega), Int.emod_lt_of_pos _ (by omega)⟩, ?_⟩
  · by_cases e : j = k
    · subst e; exact hf
    · show (v (ld j) + f * K k (ld j)) % p = 0
      rw [hc.nil j (by omega), h.clr j k (by omega) hk, Int.mul_zero, Int.add_zero]
      exact Int.zero_emod p
  · refine (hc.dif.lin (InS.of hk) f).cg fun r _ => ?_
    refine ((Em.mod _).sub (Em.refl (p := p) (u r))).trans (Em.of (by omega))
theorem Clr.congr {k : Nat} {u : Nat → Int} (hc : Clr p m q k K ld u v) (hl : ∀ j, j < k → ld j < m) (e : ∀ r, r < m → v' r = v r) : Clr p m q k K ld u v' :=
  ⟨fun j hj => by rw [e _ (hl j hj)]; exact hc.nil j hj, fun r hr => by rw [e r hr]; exact hc.rng r hr, hc.dif.cg fun r hr => by rw [e r hr]; exact Em.refl _⟩
/-- The sums stay: a row that is kept. -/
theorem Clr.keep {u : Nat → Int} (hc : Clr p m q q K ld u v) {K' : Nat → Nat → Int} (hK : ∀ k, k < q → K' k = K k) (hq : K' q = v) {i : Nat} (hu : f0 i = u) (s1 : ∀ k, k < q → InS p m i f0 (K k)) (s2 : ∀ j, j < i → InS p m q K (f0 j)) : (∀ k, k < q + 1 → InS p m (i + 1) f0 (K' k)) ∧ ∀ j, j < i + 1 → InS p m (q + 1) K' (f0 j) := by
  have up : ∀ {x : Nat → Int}, InS p m i f0 x → InS p m (i + 1) f0 x := fun h => h.trans fun j hj => InS.of (by omega)
  have upK : ∀ {x : Nat → Int}, InS p m q K x → InS p m (q + 1) K' x := fun h => h.trans fun j hj => by
    rw [← hK j hj]; exact InS.of (by omega)
  refine ⟨fun k hk => ?_, fun j hj => ?_⟩
  · by_cases e : k = q
    · subst e
      rw [hq]
      have h1 : InS p m (i + 1) f0 u := by rw [← hu]; exact InS.of (by omega)
      exact (h1.lin (up (hc.dif.trans s1)) 1).cg fun r _ => Em.of (by omega)
    · rw [hK k (by omega)]; exact up (s1 k (by omega))
  · by_cases e : j = i
    · subst e
      rw [hu]
      have h1 : InS p m (q + 1) K' v := by rw [← hq]; exact InS.of (by omega)
      exact (h1.lin (upK hc.dif) (-1)).cg fun r _ => Em.of (by omega)
    · exact upK (s2 j (by omega))
/-- And a row that hangs on them. -/
theorem Clr.leave {u : Nat → Int} (hc : Clr p m q q K ld u v) (h0 : ∀ r, r < m → v r = 0) {i : Nat} (hu : f0 i = u) (s1 : ∀ k, k < q → InS p m i f0 (K k)) (s2 : ∀ j, j < i → InS p m q K (f0 j)) : (∀ k, k < q → InS p m (i + 1) f0 (K k)) ∧ ∀ j, j < i + 1 → InS p m q K (f0 j) := by
  refine ⟨fun k hk => (s1 k hk).trans fun j hj => InS.of (by omega), fun j hj => ?_⟩
  by_cases e : j = i
  · subst e
    rw [hu]
    refine (InS.zero.lin hc.dif (-1)).cg fun r hr => Em.of ?_
    rw [h0 r hr]; omega
  · exact s2 j (by omega)
end Go.Proofs.Ytcncaaeofcmefaa

namespace Go.Proofs.Ytcncaaeofcmefaa

/-- The sign that each element of s turns. -/
def sgT (s : Nat) : Nat → Int
  | 0 => 1
  | j + 1 => if s.testBit j = true then - sgT s j else sgT s j
theorem sgT_one (s : Nat) : ∀ j, sgT s j = 1 ∨ sgT s j = -1
  | 0 => .inl rfl
  | j + 1 => by
    show (if s.testBit j = true then - sgT s j else sgT s j) = 1 ∨ (if s.testBit j = true then - sgT s j else sgT s j) = -1
    rcases sgT_one s j with h | h <;> rw [h] <;> split <;> simp
/-- What is added at column j. -/
def lapT (s : Nat) (v : Nat → Int) (d : Nat → Int) (j : Nat) : Int := if s.testBit j = true then sgT s j * v j * d (rm s j) else 0
/-- The determinant modulo p of these rows, in the columns of s. -/
def detL (p : Int) (c : Nat) : List (List Int) → Nat → Int
  | [], _ => 1
  | r :: R, s => (sm c (lapT s (fun j => r.getD j 0) (detL p c R))) % p
theorem detL_in {p : Int} (hp : isP p) (c : Nat) (R : List (List Int)) (s : Nat) : 0 ≤ detL p c R s ∧ detL p c R s < p := by
  have := isP_pos hp
  cases R with
  | nil => exact ⟨by show (0 : Int) ≤ 1; decide, by show (1 : Int) < p; omega⟩
  | cons r R => exact ⟨Int.emod_nonneg _ (by omega), Int.emod_lt_of_pos _ (by omega)⟩
theorem lapT_le {p : Int} (hp : isP p) {s : Nat} {v d : Nat → Int} (j : Nat) (hv : 0 ≤ v j ∧ v j < p) (hd : ∀ t, 0 ≤ d t ∧ d t < p) : -49 ≤ lapT s v d j ∧ lapT s v d j ≤ 49 := by
  have := isP_pos hp
  unfold lapT
  split
  · have h1 := hd (rm s j)
    have h2 : 0 ≤ v j * d (rm s j) := Int.mul_nonneg hv.1 h1.1
    have h3 := Int.mul_le_mul (show v j ≤ 7 by omega) (show d (rm s j) ≤ 7 by omega) (by omega) (by omega)
    rcases sgT_one s j with e | e <;> rw [e, Int.mul_assoc] <;> omega
  · omega
theorem lap_sum {p : Int} (hp : isP p) {s c : Nat} {v d : Nat → Int} (hv : ∀ j, j < c → 0 ≤ v j ∧ v j < p) (hd : ∀ t, 0 ≤ d t ∧ d t < p) : ∀ j, j ≤ c → -(49 * (j : Int)) ≤ sm j (lapT s v d) ∧ sm j (lapT s v d) ≤ 49 * j
  | 0, _ => ⟨by show _ ≤ (0 : Int); omega, by show (0 : Int) ≤ _; omega⟩
  | j + 1, h => by
    have ih := lap_sum hp (s := s) hv hd j (by omega)
    have h1 := lapT_le hp (s := s) j (hv j (by omega)) hd
    show _ ≤ sm j (lapT s v d) + lapT s v d j ∧ sm j (lapT s v d) + lapT s v d j ≤ _
    omega
end Go.Proofs.Ytcncaaeofcmefaa

namespace Go.Proofs.Ytcncaaeofcmefaa

/-- The determinant of these rows, in the columns of s. -/
def detX (c : Nat) : List (List Int) → Nat → Int
  | [], _ => 1
  | r :: R, s => sm c (lapT s (fun j => r.getD j 0) (detX c R))
theorem lapX_le {s : Nat} {v d : Nat → Int} {M D : Nat} (j : Nat) (hv : (v j).natAbs ≤ M) (hd : ∀ t, (d t).natAbs ≤ D) : (lapT s v d j).natAbs ≤ M * D := by
  unfold lapT
  split
  · rw [Int.natAbs_mul, Int.natAbs_mul]
    have h1 : (sgT s j).natAbs = 1 := by rcases sgT_one s j with e | e <;> rw [e] <;> rfl
    rw [h1, Nat.one_mul]
    exact Nat.mul_le_mul hv (hd _)
  · exact Nat.zero_le _
theorem lapX_sum {s c : Nat} {v d : Nat → Int} {M D : Nat} (hv : ∀ j, j < c → (v j).natAbs ≤ M) (hd : ∀ t, (d t).natAbs ≤ D) : ∀ j, j ≤ c → (sm j (lapT s v d)).natAbs ≤ M * D * j
  | 0, _ => Nat.zero_le _
  | j + 1, h => by
    have ih := lapX_sum (s := s) hv hd j (by omega)
    have h1 := lapX_le (s := s) j (hv j (by omega)) hd
    show (sm j (lapT s v d) + lapT s v d j).natAbs ≤ _
    have h2 := Int.natAbs_add_le (sm j (lapT s v d)) (lapT s v d j)
    rw [Nat.mul_succ]
    omega
theorem powX_step (M c n j : Nat) (hj : j ≤ c) : M * (M * c + 1) ^ n * j ≤ (M * c + 1) ^ (n + 1) := by
  rw [Nat.pow_succ]
  have h1 : M * (M * c + 1) ^ n * j ≤ M * (M * c + 1) ^ n * c := Nat.mul_le_mul_left _ hj
  have h2 : M * (M * c + 1) ^ n * c = (M * c + 1) ^ n * (M * c) := by rw [Nat.mul_comm M, Nat.mul_assoc]
  have h3 : (M * c + 1) ^ n * (M * c + 1) = (M * c + 1) ^ n * (M * c) + (M * c + 1) ^ n := Nat.mul_succ _ _
  omega
theorem detX_le {c M : Nat} : ∀ (R : List (List Int)), (∀ r ∈ R, ∀ j, j < c → (r.getD j 0).natAbs ≤ M) → ∀ s, (detX c R s).natAbs ≤ (M * c + 1) ^ R.length
  | [], _, _ => Nat.le_refl 1
  | r :: R, h, s => by
    have ih := detX_le R fun x hx => h x (List.mem_cons_of_mem _ hx)
    have h1 := lapX_sum (s := s) (fun j hj => h r (List.mem_cons_self ..) j hj) ih c (Nat.le_refl _)
    exact Nat.le_trans h1 (powX_step M c R.length c (Nat.le_refl _))
theorem detL_X {p : Int} (hp : isP p) (c : Nat) : ∀ (R : List (List Int)) (s : Nat), detL p c R s = detX c R s % p
  | [], s => by
    have := isP_pos hp
    show (1 : Int) = 1 % p
    rw [Int.emod_eq_of_lt (by omega) (by omega)]
  | r :: R, s => by
    have := isP_pos hp
    show (sm c (lapT s (fun j => r.getD j 0) (detL p c R))) % p = (sm c (lapT s (fun j => r.getD j 0) (detX c R))) % p
    refine Em.eq (p := p) ((Em.mod _).trans (Em.trans ?_ (Em.mod _).symm)) ⟨Int.emod_nonneg _ (by omega), Int.emod_lt_of_pos _ (by omega)⟩ ⟨Int.emod_nonneg _ (by omega), Int.emod_lt_of_pos _ (by omega)⟩
    refine Em.sm fun i _ => ?_
    unfold lapT
    split
    · refine (Em.refl _).mul ?_
      rw [detL_X hp c R]
      exact Em.mod _
    · exact Em.refl _
end Go.Proofs.Ytcncaaeofcmefaa

namespace Go.Proofs.Ytcncaaeofcmefaa

/-- A row ahead of what is known of the others. -/
def wd (c : Nat) (v ω : Nat → Int) (s : Nat) : Int := sm c (lapT s v ω)
/-- The determinant as a number. -/
def detZ (c : Nat) : List (List Int) → Nat → Int
  | [], _ => 1
  | r :: R, s => wd c (fun j => r.getD j 0) (detZ c R) s
theorem Em.lap {p : Int} {s j : Nat} {v d d' : Nat → Int} (h : ∀ t, Em p (d t) (d' t)) : Em p (lapT s v d j) (lapT s v d' j) := by
  unfold lapT
  split
  · exact (Em.refl _).mul (h _)
  · exact Em.refl _
theorem detL_em (p : Int) (c : Nat) : ∀ (R : List (List Int)) (s : Nat), Em p (detL p c R s) (detZ c R s)
  | [], _ => Em.refl _
  | _ :: R, _ => (Em.mod _).trans (Em.sm fun _ _ => Em.lap fun t => detL_em p c R t)
theorem sgT_rm {s j : Nat} (h : s.testBit j = true) : ∀ i, sgT (rm s j) i = if j < i then - sgT s i else sgT s i
  | 0 => by rw [if_neg (by omega)]; rfl
  | i + 1 => by
    have ih := sgT_rm h i
    show (if (rm s j).testBit i = true then - sgT (rm s j) i else sgT (rm s j) i) = if j < i + 1 then - (if s.testBit i = true then - sgT s i else sgT s i) else (if s.testBit i = true then - sgT s i else sgT s i)
    rw [rm_bit]
    by_cases e : j = i
    · subst e
      rw [if_neg (by simp), if_pos (by omega), if_pos h, ih, if_neg (by omega)]; omega
    · have hb : (s.testBit i && decide (j ≠ i)) = s.testBit i := by simp [e]
      rw [hb, ih]
      by_cases e2 : j < i
      · simp only [if_pos e2, if_pos (show j < i + 1 by omega)]; split <;> omega
      · simp only [if_neg e2, if_neg (show ¬ j < i + 1 by omega)]
theorem rm_comm (s i j : Nat) : rm (rm s i) j = rm (rm s j) i := Nat.eq_of_testBit_eq fun k => by
  rw [rm_bit, rm_bit, rm_bit, rm_bit, Bool.and_assoc, Bool.and_assoc, Bool.and_comm (decide (i ≠ k))]
/-- Two rows ahead, one term. -/
def twoT (s : Nat) (u v ω : Nat → Int) (j i : Nat) : Int := if s.testBit j = true ∧ s.testBit i = true ∧ j ≠ i then (if j < i then -1 else 1) * (sgT s j * sgT s i) * (u j * v i * ω (rm (rm s j) i)) else 0
theorem wd_two (c : Nat) (u v ω : Nat → Int) (s : Nat) : wd c u (wd c v ω) s = sm c fun j => sm c fun i => twoT s u v ω j i := by
  refine sm_congr fun j _ => ?_
  unfold lapT
  by_cases hj : s.testBit j = true
  · rw [if_pos hj]
    unfold wd
    rw [← sm_mul]
    refine sm_congr fun i _ => ?_
    unfold lapT twoT
    rw [rm_bit]
    by_cases hi : s.testBit i = true ∧ j ≠ i
    · rw [if_pos (by simp [hi.1, hi.2]), if_pos ⟨hj, hi.1, hi.2⟩, sgT_rm hj]
      by_cases e : j < i
      · rw [if_pos e, if_pos e, Int.neg_mul, Int.neg_mul, Int.mul_neg, Int.neg_mul, Int.neg_mul, Int.one_mul]
        congr 1
        rw [Int.mul_assoc (sgT s j), Int.mul_assoc (sgT s j), Int.mul_assoc (sgT s i), Int.mul_left_comm (u j) (sgT s i), ← Int.mul_assoc (u j)]
      · rw [if_neg e, if_neg e, Int.one_mul, Int.mul_assoc (sgT s j), Int.mul_assoc (sgT s j), Int.mul_assoc (sgT s i), Int.mul_left_comm (u j) (sgT s i), ← Int.mul_assoc (u j)]
    · rw [if_neg (by
        intro e
        rw [Bool.and_eq_true, decide_eq_true_eq] at e
        exact hi e), if_neg fun e => hi ⟨e.2.1, e.2.2⟩, Int.mul_zero]
  · have h0 : ∀ i, twoT s u v ω j i = 0 := fun i => if_neg fun e => hj e.1
    rw [if_neg hj, sm_congr (t := fun _ => 0) fun i _ => h0 i, sm_zero]
/-- Two rows change places: the sign turns. -/
theorem wd_anti (c : Nat) (u v ω : Nat → Int) (s : Nat) : wd c u (wd c v ω) s = - wd c v (wd c u ω) s := by
  rw [wd_two, wd_two, sm_swap]
  have h : ∀ (f : Nat → Int) n, sm n (fun i => - f i) = - sm n f := fun f n => by
    have := sm_mul (-1) f n
    rw [sm_congr (t := fun i => (-1) * f i) fun i _ => by omega, this]; omega
  rw [← h]
  refine sm_congr fun i _ => ?_
  rw [← h]
  refine sm_congr fun j _ => ?_
  unfold twoT
  by_cases e : s.testBit j = true ∧ s.testBit i = true ∧ j ≠ i
  · have e' : s.testBit i = true ∧ s.testBit j = true ∧ i ≠ j := ⟨e.2.1, e.1, fun e2 => e.2.2 e2.symm⟩
    simp only [if_pos e, if_pos e']
    rw [rm_comm s i j, Int.mul_comm (sgT s i) (sgT s j), Int.mul_comm (v i) (u j)]
    by_cases e2 : j < i
    · simp only [if_pos e2, if_neg (show ¬ i < j by omega)]; rw [Int.one_mul, Int.neg_mul, Int.one_mul, Int.neg_mul]
    · simp only [if_neg e2, if_pos (show i < j by have := e.2.2; omega)]; rw [Int.one_mul, Int.neg_mul, Int.one_mul, Int.neg_mul, Int.neg_neg]
  · rw [if_neg e, if_neg fun e2 => e ⟨e2.2.1, e2.1, fun e3 => e2.2.2 e3.symm⟩]; rfl
theorem wd_self (c : Nat) (v ω : Nat → Int) (s : Nat) : wd c v (wd c v ω) s = 0 := by
  have := wd_anti c v v ω s
  omega
theorem wd_zero (c : Nat) (v : Nat → Int) (s : Nat) : wd c v (fun _ => 0) s = 0 := by
  unfold wd
  have h : ∀ j, lapT s v (fun _ => 0) j = 0 := fun j => by
    unfold lapT
    split
    · rw [Int.mul_zero]
    · rfl
  rw [sm_congr (t := fun _ => 0) fun j _ => h j, sm_zero]
theorem wd_congr {c : Nat} {v v' ω ω' : Nat → Int} {s : Nat} (hv : ∀ j, j < c → v j = v' j) (h : ∀ t, ω t = ω' t) : wd c v ω s = wd c v' ω' s := sm_congr fun j hj => by
  unfold lapT
  rw [hv j hj, h]
theorem wd_smul (c : Nat) (v ω : Nat → Int) (a : Int) (s : Nat) : wd c v (fun t => a * ω t) s = a * wd c v ω s := by
  unfold wd
  rw [← sm_mul]
  refine sm_congr fun j _ => ?_
  unfold lapT
  split
  · rw [Int.mul_left_comm]
  · rw [Int.mul_zero]
theorem wd_sumR (c : Nat) (v : Nat → Int) (n : Nat) (a : Nat → Int) (ω : Nat → Nat → Int) (s : Nat) : wd c v (fun t => sm n fun k => a k * ω k t) s = sm n fun k => a k * wd c v (ω k) s := by
  unfold wd
  rw [sm_congr (t := fun j => sm n fun k => a k * lapT s v (ω k) j) fun j _ => ?_, sm_swap]
  · exact sm_congr fun k _ => sm_mul _ _ _
  · unfold lapT
    split
    · rw [← sm_mul]; exact sm_congr fun k _ => Int.mul_left_comm _ _ _
    · rw [sm_congr (t := fun _ => 0) fun k _ => Int.mul_zero _, sm_zero]
theorem wd_sumL (c : Nat) (n : Nat) (a : Nat → Int) (v : Nat → Nat → Int) (ω : Nat → Int) (s : Nat) : wd c (fun j => sm n fun k => a k * v k j) ω s = sm n fun k => a k * wd c (v k) ω s := by
  unfold wd
  rw [sm_congr (t := fun j => sm n fun k => a k * lapT s (v k) ω j) fun j _ => ?_, sm_swap]
  · exact sm_congr fun k _ => sm_mul _ _ _
  · unfold lapT
    split
    · rw [← sm_mul, Int.mul_comm, ← sm_mul]
      refine sm_congr fun k _ => ?_
      rw [Int.mul_comm (ω _), Int.mul_left_comm (sgT s j), Int.mul_assoc]
    · rw [sm_congr (t := fun _ => 0) fun k _ => Int.mul_zero _, sm_zero]
end Go.Proofs.Ytcncaaeofcmefaa

namespace Go.Proofs.Ytcncaaeofcmefaa

theorem sm_tal (f : Nat → Int) : ∀ n, sm n f = tal f (List.range n)
  | 0 => rfl
  | n + 1 => by
    rw [List.range_succ, tal_append, ← sm_tal f n]
    show sm n f + f n = _ + (f n + 0)
    omega
theorem sm_flip {c j : Nat} (hj : j < c) (f : Nat → Int) : sm (2 ^ c) f = sm (2 ^ c) fun s => f (s ^^^ 2 ^ j) := by
  rw [sm_tal, sm_tal, ← tal_perm f (flip_perm hj), tal_map]
/-- The rows of S, wedged, the first rows first. -/
def psiT (c2 : Nat) (Y : Nat → Nat → Int) (S : Nat) : Nat → Nat → Nat → Int
  | 0, _ => fun _ => 1
  | d + 1, i => if S.testBit i = true then wd c2 (Y i) (psiT c2 Y S d (i + 1)) else psiT c2 Y S d (i + 1)
variable {c2 : Nat} {Y : Nat → Nat → Int}
theorem psi_hit {S d i : Nat} (h : S.testBit i = true) : psiT c2 Y S (d + 1) i = wd c2 (Y i) (psiT c2 Y S d (i + 1)) := if_pos h
theorem psi_miss {S d i : Nat} (h : S.testBit i = false) : psiT c2 Y S (d + 1) i = psiT c2 Y S d (i + 1) := if_neg (by simp [h])
theorem psi_congr {S S' : Nat} : ∀ d i, (∀ k, i ≤ k → S.testBit k = S'.testBit k) → psiT c2 Y S d i = psiT c2 Y S' d i
  | 0, _, _ => rfl
  | d + 1, i, h => by
    have ih := psi_congr d (i + 1) fun k hk => h k (by omega)
    cases e : S.testBit i with
    | true => rw [psi_hit e, psi_hit (by rw [← h i (Nat.le_refl _)]; exact e), ih]
    | false => rw [psi_miss e, psi_miss (by rw [← h i (Nat.le_refl _)]; exact e), ih]
theorem or_bit' (S j k : Nat) : (S ||| 2 ^ j).testBit k = (S.testBit k || decide (j = k)) := by rw [Nat.testBit_or, Nat.testBit_two_pow]
/-- A row that is there already: nothing. -/
theorem psi_in {S j : Nat} (hj : S.testBit j = true) : ∀ d i, i ≤ j → j < i + d → ∀ T, wd c2 (Y j) (psiT c2 Y S d i) T = 0
  | 0, i, h1, h2, _ => by omega
  | d + 1, i, h1, h2, T => by
    by_cases e : j = i
    · subst e
      rw [psi_hit hj]
      exact wd_self _ _ _ _
    · have ih := psi_in hj d (i + 1) (by omega) (by omega)
      cases e2 : S.testBit i with
      | true =>
        rw [psi_hit e2, wd_anti, show wd c2 (Y j) (psiT c2 Y S d (i + 1)) = fun _ => 0 from funext ih, wd_zero]; rfl
      | false => rw [psi_miss e2]; exact ih T
theorem sgT_sq (s j : Nat) : sgT s j * sgT s j = 1 := by rcases sgT_one s j with e | e <;> rw [e] <;> rfl
/-- A row that is not there comes to its place. -/
theorem psi_out {S j : Nat} (hj : S.testBit j = false) : ∀ d i, i ≤ j → j < i + d → ∀ T, wd c2 (Y j) (psiT c2 Y S d i) T = sgT S j * sgT S i * psiT c2 Y (S ||| 2 ^ j) d i T
  | 0, i, h1, h2, _ => by omega
  | d + 1, i, h1, h2, T => by
    by_cases e : j = i
    · subst e
      rw [psi_miss hj, psi_hit (S := S ||| 2 ^ j) (by rw [or_bit']; simp), sgT_sq, Int.one_mul, psi_congr (S := S ||| 2 ^ j) (S' := S) d (j + 1) fun k hk => by
        rw [or_bit', show decide (j = k) = false by simp; omega, Bool.or_false]]
    · have ih := psi_out hj d (i + 1) (by omega) (by omega)
      have hb : (S ||| 2 ^ j).testBit i = S.testBit i := by rw [or_bit', show decide (j = i) = false by simpa using e, Bool.or_false]
      cases e2 : S.testBit i with
      | true =>
        have hs : sgT S (i + 1) = - sgT S i := if_pos e2
        rw [psi_hit e2, wd_anti, show wd c2 (Y j) (psiT c2 Y S d (i + 1)) = fun T => sgT S j * sgT S (i + 1) * psiT c2 Y (S ||| 2 ^ j) d (i + 1) T from funext ih, wd_smul, psi_hit (by rw [hb]; exact e2), hs, Int.mul_neg, Int.neg_mul, Int.neg_neg]
      | false =>
        have hs : sgT S (i + 1) = sgT S i := if_neg (by simp [e2])
        rw [psi_miss e2, ih T, psi_miss (by rw [hb]; exact e2), hs]
theorem sgT_congr {s t : Nat} : ∀ j, (∀ k, k < j → s.testBit k = t.testBit k) → sgT s j = sgT t j
  | 0, _ => rfl
  | j + 1, h => by
    show (if s.testBit j = true then - sgT s j else sgT s j) = if t.testBit j = true then - sgT t j else sgT t j
    rw [h j (by omega), sgT_congr j fun k hk => h k (by omega)]
theorem pop_zero' : ∀ s : Nat, s < 256 → (pop s = 0 ↔ s = 0) := by decide +kernel
theorem psi_none (c2 : Nat) (Y : Nat → Nat → Int) : ∀ d i T, psiT c2 Y 0 d i T = 1
  | 0, _, _ => rfl
  | d + 1, i, T => by rw [psi_miss (by simp)]; exact psi_none c2 Y d (i + 1) T
/-- CAUCHY, BINET. -/
theorem cauchy_binet (c : Nat) (hc : c ≤ 8) (c2 : Nat) (Y : Nat → Nat → Int) : ∀ (R P : List (List Int)), P.length = R.length → (∀ i, i < R.length → ∀ t, t < c2 → (P.getD i []).getD t 0 = sm c fun j => (R.getD i []).getD j 0 * Y j t) → ∀ T, detZ c2 P T = sm (2 ^ c) fun S => if pop S = R.length then detZ c R S * psiT c2 Y S c 0 T else 0
  | [], P, hl, _, T => by
    have : P = [] := List.length_eq_zero_iff.1 (by simpa using hl)
    subst this
    have hp : 0 < 2 ^ c := Nat.two_pow_pos c
    rw [sm_congr (t := fun S => if S = 0 then 1 else 0) fun S hS => ?_, sm_one _ hp]
    · rfl
    · have h8 : S < 256 := Nat.lt_of_lt_of_le hS (Nat.pow_le_pow_right (by omega) hc)
      by_cases e : S = 0
      · subst e
        rw [if_pos rfl, if_pos (show pop 0 = ([] : List (List Int)).length from (pop_zero' 0 (by omega)).2 rfl), psi_none]
        rfl
      · rw [if_neg e, if_neg fun (e2 : pop S = ([] : List (List Int)).length) => e ((pop_zero' S h8).1 e2)]
  | r :: R, P, hl, hP, T => by
    obtain ⟨x, P', rfl⟩ : ∃ x P', P = x :: P' := by
      cases P with
      | nil => simp at hl
      | cons x P' => exact ⟨x, P', rfl⟩
    have ih := cauchy_binet c hc c2 Y R P' (by simpa using hl) fun i hi t ht => by
      have := hP (i + 1) (by simp; omega) t ht
      simpa using this
    have h0 : ∀ t, t < c2 → x.getD t 0 = sm c fun j => r.getD j 0 * Y j t := fun t ht => by
      have := hP 0 (by simp) t ht
      simpa using this
    show wd c2 (fun t => x.getD t 0) (detZ c2 P') T = _
    have e1 : wd c2 (fun t => x.getD t 0) (detZ c2 P') T = wd c2 (fun t => sm c fun j => r.getD j 0 * Y j t) (fun T => sm (2 ^ c) fun S => (if pop S = R.length then detZ c R S else 0) * psiT c2 Y S c 0 T) T := wd_congr h0 fun t => by
      rw [ih t]
      exact sm_congr fun S _ => by split; · rfl
                                   rw [Int.zero_mul]
    rw [e1, wd_sumL]
    have e2 : ∀ j, j < c → r.getD j 0 * wd c2 (Y j) (fun T => sm (2 ^ c) fun S => (if pop S = R.length then detZ c R S else 0) * psiT c2 Y S c 0 T) T = sm (2 ^ c) fun S => if pop S = R.length + 1 ∧ S.testBit j = true then sgT S j * r.getD j 0 * detZ c R (rm S j) * psiT c2 Y S c 0 T else 0 := fun j hj => by
      rw [wd_sumR, ← sm_mul, sm_flip hj (fun S => if pop S = R.length + 1 ∧ S.testBit j = true then sgT S j * r.getD j 0 * detZ c R (rm S j) * psiT c2 Y S c 0 T else 0)]
      refine sm_congr fun S hS => ?_
      have h8 : S < 256 := Nat.lt_of_lt_of_le hS (Nat.pow_le_pow_right (by omega) hc)
      cases e : S.testBit j with
      | true =>
        rw [psi_in e c 0 (by omega) (by omega), Int.mul_zero, Int.mul_zero, if_neg fun h => by
          have := h.2
          rw [flip_bit, e] at this
          simp at this]
      | false =>
        rw [psi_out e c 0 (by omega) (by omega), flip_out e]
        have b1 : (S ||| 2 ^ j).testBit j = true := by rw [or_bit']; simp
        have b2 : rm (S ||| 2 ^ j) j = S := Nat.eq_of_testBit_eq fun k => by
          rw [rm_bit, or_bit']
          by_cases ek : j = k
          · subst ek; simp [e]
          · simp [ek]
        have b3 : pop (S ||| 2 ^ j) = pop S + 1 := by
          have := pop_rm (S ||| 2 ^ j) (Nat.or_lt_two_pow (n := 8) h8 (Nat.pow_lt_pow_right (by omega) (by omega))) j (by omega) b1
          rw [b2] at this
          exact this
        have b4 : sgT (S ||| 2 ^ j) j = sgT S j := sgT_congr j fun k hk => by rw [or_bit', show decide (j = k) = false by simp; omega, Bool.or_false]
        rw [b2, b3, b4]
        by_cases ep : pop S = R.length
        · rw [if_pos ep, if_pos ⟨by omega, b1⟩]
          show r.getD j 0 * (detZ c R S * (sgT S j * 1 * psiT c2 Y (S ||| 2 ^ j) c 0 T)) = _
          rw [Int.mul_one, Int.mul_left_comm (detZ c R S), Int.mul_left_comm (r.getD j 0), ← Int.mul_assoc (r.getD j 0), ← Int.mul_assoc (sgT S j), ← Int.mul_assoc (sgT S j)]
        · rw [if_neg ep, if_neg fun h => ep (by omega), Int.zero_mul, Int.mul_zero]
    rw [sm_congr fun j hj => e2 j hj, sm_swap]
    refine sm_congr fun S _ => ?_
    by_cases ep : pop S = R.length + 1
    · rw [show (r :: R).length = R.length + 1 from rfl, if_pos ep]
      show _ = sm c (lapT S (fun j => r.getD j 0) (detZ c R)) * psiT c2 Y S c 0 T
      rw [Int.mul_comm, ← sm_mul]
      refine sm_congr fun j _ => ?_
      unfold lapT
      by_cases eb : S.testBit j = true
      · rw [if_pos ⟨ep, eb⟩, if_pos eb, Int.mul_comm]
      · rw [if_neg fun h => eb h.2, if_neg eb, Int.mul_zero]
    · rw [show (r :: R).length = R.length + 1 from rfl, if_neg ep, sm_congr (t := fun _ => 0) fun j _ => if_neg fun h => ep h.1, sm_zero]
end Go.Proofs.Ytcncaaeofcmefaa

namespace Go.Proofs.Ytcncaaeofcmefaa

/-- The elements of S from i on, d places. -/
def elT (S : Nat) : Nat → Nat → List Nat
  | 0, _ => []
  | d + 1, i => if S.testBit i = true then i :: elT S d (i + 1) else elT S d (i + 1)
theorem el_hit {S d i : Nat} (h : S.testBit i = true) : elT S (d + 1) i = i :: elT S d (i + 1) := if_pos h
theorem el_miss {S d i : Nat} (h : S.testBit i = false) : elT S (d + 1) i = elT S d (i + 1) := if_neg (by simp [h])
/-- The rows of S, as a list. -/
theorem psi_list (c2 : Nat) (row : Nat → List Int) (S : Nat) : ∀ d i T, psiT c2 (fun k t => (row k).getD t 0) S d i T = detZ c2 ((elT S d i).map row) T
  | 0, _, _ => rfl
  | d + 1, i, T => by
    have ih : psiT c2 (fun k t => (row k).getD t 0) S d (i + 1) = detZ c2 ((elT S d (i + 1)).map row) := funext (psi_list c2 row S d (i + 1))
    cases e : S.testBit i with
    | true => rw [psi_hit e, el_hit e, ih]; rfl
    | false => rw [psi_miss e, el_miss e, ih]
theorem el_mem {S j : Nat} : ∀ d i, j ∈ elT S d i ↔ i ≤ j ∧ j < i + d ∧ S.testBit j = true
  | 0, i => by simp [elT]; omega
  | d + 1, i => by
    cases e : S.testBit i with
    | true =>
      rw [el_hit e, List.mem_cons, el_mem d (i + 1)]
      constructor
      · rintro (rfl | h)
        · exact ⟨Nat.le_refl _, by omega, e⟩
        · exact ⟨by omega, by omega, h.2.2⟩
      · rintro ⟨h1, h2, h3⟩
        by_cases e2 : j = i
        · exact .inl e2
        · exact .inr ⟨by omega, by omega, h3⟩
    | false =>
      rw [el_miss e, el_mem d (i + 1)]
      constructor
      · rintro ⟨h1, h2, h3⟩
        exact ⟨by omega, by omega, h3⟩
      · rintro ⟨h1, h2, h3⟩
        have : j ≠ i := fun e2 => by rw [e2, e] at h3; cases h3
        exact ⟨by omega, by omega, h3⟩
theorem el_up (S : Nat) : ∀ d i, (elT S d i).Pairwise (· < ·)
  | 0, _ => List.Pairwise.nil
  | d + 1, i => by
    cases e : S.testBit i with
    | true =>
      rw [el_hit e, List.pairwise_cons]
      exact ⟨fun j hj => by have := (el_mem d (i + 1)).1 hj; omega, el_up S d (i + 1)⟩
    | false => rw [el_miss e]; exact el_up S d (i + 1)
/-- A sum over places that are nought but where e leads. -/
theorem sm_image (e : Nat → Nat) : ∀ (n c : Nat) (f : Nat → Int), (∀ t, t < n → e t < c) → (∀ i j, i < j → j < n → e i < e j) → (∀ j, j < c → (∀ t, t < n → e t ≠ j) → f j = 0) → sm c f = sm n fun t => f (e t)
  | 0, c, f, _, _, h3 => by
    rw [sm_congr (t := fun _ => 0) fun j hj => h3 j hj fun t ht => by omega, sm_zero]; rfl
  | n + 1, c, f, h1, h2, h3 => by
    have hc : ∀ d, e n + 1 + d ≤ c → sm (e n + 1 + d) f = sm (e n + 1) f := fun d => by
      induction d with
      | zero => intro _; rfl
      | succ d ih =>
        intro hd
        show sm (e n + 1 + d) f + f (e n + 1 + d) = _
        rw [ih (by omega), h3 (e n + 1 + d) (by omega) fun t ht => ?_, Int.add_zero]
        rcases Nat.lt_or_ge t n with hl | hl
        · have := h2 t n hl (by omega); omega
        · have : t = n := by omega
          subst this; omega
    have hen := h1 n (by omega)
    have h4 := hc (c - (e n + 1)) (by omega)
    rw [show e n + 1 + (c - (e n + 1)) = c by omega] at h4
    rw [h4]
    show sm (e n) f + f (e n) = sm n (fun t => f (e t)) + f (e n)
    rw [sm_image e n (e n) f (fun t ht => h2 t n ht (by omega)) (fun i j hij hj => h2 i j hij (by omega)) fun j hj hne => h3 j (by omega) fun t ht => ?_]
    rcases Nat.lt_or_ge t n with hl | hl
    · exact hne t hl
    · have : t = n := by omega
      subst this; omega
/-- A set of places, under the numbers that e gives. -/
structure Img (n c : Nat) (e : Nat → Nat) (A B : Nat) : Prop where
  hit : ∀ t, t < n → B.testBit (e t) = A.testBit t
  miss : ∀ j, (∀ t, t < n → e t ≠ j) → B.testBit j = false
theorem Img.rm {n c : Nat} {e : Nat → Nat} {A B : Nat} (h : Img n c e A B) (hm : ∀ i j, i < j → j < n → e i < e j) {t : Nat} (ht : t < n) : Img n c e (Go.Proofs.Ytcncaaeofcmefaa.rm A t) (Go.Proofs.Ytcncaaeofcmefaa.rm B (e t)) := by
  refine ⟨fun u hu => ?_, fun j hj => by rw [rm_bit, h.miss j hj]; rfl⟩
  rw [rm_bit, rm_bit, h.hit u hu]
  have : decide (e t ≠ e u) = decide (t ≠ u) := by
    rw [decide_eq_decide]
    refine ⟨fun h1 h2 => h1 (by rw [h2]), fun h1 h2 => ?_⟩
    rcases Nat.lt_trichotomy t u with hl | hl | hl
    · have := hm t u hl hu; omega
    · exact h1 hl
    · have := hm u t hl ht; omega
  rw [this]
theorem Img.sign {n c : Nat} {e : Nat → Nat} {A B : Nat} (h : Img n c e A B) (hm : ∀ i j, i < j → j < n → e i < e j) : ∀ t, t < n → sgT B (e t) = sgT A t := by
  have gap : ∀ d j, (∀ k, j ≤ k → k < j + d → B.testBit k = false) → sgT B (j + d) = sgT B j := fun d => by
    induction d with
    | zero => intro j _; rfl
    | succ d ih =>
      intro j hj
      show (if B.testBit (j + d) = true then - sgT B (j + d) else sgT B (j + d)) = _
      rw [hj (j + d) (by omega) (by omega), if_neg (by simp), ih j fun k h1 h2 => hj k h1 (by omega)]
  intro t
  induction t with
  | zero =>
    intro h0
    have := gap (e 0) 0 fun k _ hk => h.miss k fun u hu => by
      rcases Nat.eq_zero_or_pos u with h1 | h1
      · subst h1; omega
      · have := hm 0 u h1 hu; omega
    rw [Nat.zero_add] at this
    rw [this]; rfl
  | succ t ih =>
    intro ht
    have h1 := hm t (t + 1) (by omega) ht
    have := gap (e (t + 1) - (e t + 1)) (e t + 1) fun k hk1 hk2 => h.miss k fun u hu => by
      rcases Nat.lt_trichotomy u t with hl | hl | hl
      · have := hm u t hl (by omega); omega
      · subst hl; omega
      · rcases Nat.lt_trichotomy u (t + 1) with h3 | h3 | h3
        · omega
        · subst h3; omega
        · have := hm (t + 1) u h3 hu; omega
    rw [show e t + 1 + (e (t + 1) - (e t + 1)) = e (t + 1) by omega] at this
    rw [this]
    show (if B.testBit (e t) = true then - sgT B (e t) else sgT B (e t)) = if A.testBit t = true then - sgT A t else sgT A t
    rw [h.hit t (by omega), ih (by omega)]
/-- Columns under other numbers. -/
theorem det_image {n c : Nat} {e : Nat → Nat} (he : ∀ t, t < n → e t < c) (hm : ∀ i j, i < j → j < n → e i < e j) : ∀ (R Q : List (List Int)) (A B : Nat), Q.length = R.length → (∀ i, i < R.length → ∀ t, t < n → (Q.getD i []).getD t 0 = (R.getD i []).getD (e t) 0) → Img n c e A B → detZ n Q A = detZ c R B
  | [], Q, A, B, hl, _, _ => by
    have : Q = [] := List.length_eq_zero_iff.1 (by simpa using hl)
    subst this; rfl
  | r :: R, Q, A, B, hl, hQ, hI => by
    obtain ⟨x, Q', rfl⟩ : ∃ x Q', Q = x :: Q' := by
      cases Q with
      | nil => simp at hl
      | cons x Q' => exact ⟨x, Q', rfl⟩
    have h0 : ∀ t, t < n → x.getD t 0 = r.getD (e t) 0 := fun t ht => by
      have := hQ 0 (by simp) t ht
      simpa using this
    show sm n (lapT A (fun j => x.getD j 0) (detZ n Q')) = sm c (lapT B (fun j => r.getD j 0) (detZ c R))
    rw [sm_image e n c _ he hm fun j _ hj => by unfold lapT; rw [hI.miss j hj, if_neg (by simp)]]
    refine sm_congr fun t ht => ?_
    unfold lapT
    rw [hI.hit t ht]
    split
    · rw [hI.sign hm t ht]
      show sgT A t * x.getD t 0 * _ = sgT A t * r.getD (e t) 0 * _
      rw [h0 t ht, det_image he hm R Q' (rm A t) (rm B (e t)) (by simpa using hl) (fun i hi u hu => by
        have := hQ (i + 1) (by simp; omega) u hu
        simpa using this) (hI.rm hm ht)]
    · rfl
end Go.Proofs.Ytcncaaeofcmefaa

namespace Go.Proofs.Ytcncaaeofcmefaa

/-- By turns 1 and -1. -/
def sg1 : Nat → Int
  | 0 => 1
  | i + 1 => - sg1 i
theorem sm_first (f : Nat → Int) : ∀ n, sm (n + 1) f = f 0 + sm n fun i => f (i + 1)
  | 0 => by show 0 + f 0 = f 0 + 0; omega
  | n + 1 => by
    show sm (n + 1) f + f (n + 1) = f 0 + (sm n (fun i => f (i + 1)) + f (n + 1))
    rw [sm_first f n]; omega
theorem sgT_low {s j : Nat} (h : ∀ k, k < j → s.testBit k = false) : sgT s j = 1 := by
  have : sgT s j = sgT 0 j := sgT_congr j fun k hk => by rw [h k hk]; simp
  rw [this]
  clear this h
  induction j with
  | zero => rfl
  | succ j ih =>
    show (if Nat.testBit 0 j = true then - sgT 0 j else sgT 0 j) = 1
    rw [if_neg (by simp), ih]
theorem el_rm (S x : Nat) : ∀ d i, elT (rm S x) d i = (elT S d i).filter (· != x)
  | 0, _ => rfl
  | d + 1, i => by
    have ih := el_rm S x d (i + 1)
    cases e : S.testBit i with
    | true =>
      by_cases ex : x = i
      · subst ex
        rw [el_miss (by rw [rm_bit]; simp), el_hit e, ih]
        simp
      · rw [el_hit (by rw [rm_bit, e]; simpa using ex), el_hit e, ih, List.filter_cons_of_pos (by simpa using fun e2 => ex e2.symm)]
    | false => rw [el_miss (by rw [rm_bit, e]; rfl), el_miss e, ih]
theorem el_nodup (S d i : Nat) : (elT S d i).Nodup := (el_up S d i).imp fun h => by omega
theorem el_rm_len {S x d i : Nat} (h : x ∈ elT S d i) : (elT (rm S x) d i).length + 1 = (elT S d i).length := by
  rw [el_rm, ← List.Nodup.erase_eq_filter (el_nodup S d i), List.length_erase_of_mem h]
  have := List.length_pos_of_mem h
  omega
theorem erase_filter : ∀ {l : List Nat} (_ : l.Nodup) {t : Nat} (ht : t < l.length), l.eraseIdx t = l.filter (· != l[t])
  | a :: l, hn, 0, _ => by
    rw [List.nodup_cons] at hn
    simp only [List.eraseIdx_cons_zero, List.getElem_cons_zero]
    rw [List.filter_cons_of_neg (by simp), List.filter_eq_self.2 fun x hx => ?_]
    simp only [bne_iff_ne]
    exact fun e => hn.1 (e ▸ hx)
  | a :: l, hn, t + 1, ht => by
    rw [List.nodup_cons] at hn
    have ht' : t < l.length := by simpa using ht
    simp only [List.eraseIdx_cons_succ, List.getElem_cons_succ]
    rw [List.filter_cons_of_pos (by
      simp only [bne_iff_ne]
      exact fun e => hn.1 (e ▸ List.getElem_mem ht')), erase_filter hn.2 ht']
theorem erase_map (f : Nat → List Int) : ∀ (l : List Nat) (t : Nat), (l.map f).eraseIdx t = (l.eraseIdx t).map f
  | [], _ => rfl
  | _ :: _, 0 => rfl
  | a :: l, t + 1 => by
    show f a :: (l.map f).eraseIdx t = f a :: (l.eraseIdx t).map f
    rw [erase_map f l t]
/-- Laplace's rule along the first column. -/
theorem col_first (c : Nat) : ∀ (R : List (List Int)) (S j0 : Nat), (elT S c 0).length = R.length → j0 < c → S.testBit j0 = true → (∀ k, k < j0 → S.testBit k = false) → detZ c R S = sm R.length fun i => sg1 i * (R.getD i []).getD j0 0 * detZ c (R.eraseIdx i) (rm S j0)
  | [], S, j0, hl, hj, hb, _ => by
    have : j0 ∈ elT S c 0 := (el_mem c 0).2 ⟨by omega, by omega, hb⟩
    have := List.length_pos_of_mem this
    rw [hl] at this
    simp at this
  | r :: R, S, j0, hl, hj, hb, hlow => by
    have key : ∀ j, j < c → lapT S (fun j => r.getD j 0) (detZ c R) j = (if j = j0 then r.getD j0 0 * detZ c R (rm S j0) else 0) + sm R.length fun i => - (sg1 i * (R.getD i []).getD j0 0) * lapT (rm S j0) (fun j => r.getD j 0) (detZ c (R.eraseIdx i)) j := fun j hjc => by
      by_cases e : j = j0
      · subst e
        rw [if_pos rfl, sm_congr (t := fun _ => 0) fun i _ => ?_, sm_zero, Int.add_zero]
        · unfold lapT
          rw [if_pos hb, sgT_low hlow, Int.one_mul]
        · unfold lapT
          rw [if_neg (by rw [rm_bit]; simp), Int.mul_zero]
      · rw [if_neg e, Int.zero_add]
        cases hbj : S.testBit j with
        | false =>
          rw [sm_congr (t := fun _ => 0) fun i _ => ?_, sm_zero]
          · unfold lapT
            rw [if_neg (by rw [hbj]; simp)]
          · unfold lapT
            rw [if_neg (by rw [rm_bit, hbj]; simp), Int.mul_zero]
        | true =>
          have hjj : j0 < j := by
            apply Classical.byContradiction
            intro hn
            have := hlow j (by omega)
            rw [hbj] at this; cases this
          have hm : j ∈ elT S c 0 := (el_mem c 0).2 ⟨by omega, by omega, hbj⟩
          have hlen := el_rm_len hm
          have ih := col_first c R (rm S j) j0 (by rw [List.length_cons] at hl; omega) hj (by rw [rm_bit, hb]; simpa using e) fun k hk => by rw [rm_bit, hlow k hk]; rfl
          have hs : sgT S j = - sgT (rm S j0) j := by
            rw [sgT_rm hb, if_pos hjj]; omega
          unfold lapT
          rw [if_pos hbj, ih, ← sm_mul]
          refine sm_congr fun i _ => ?_
          rw [if_pos (by rw [rm_bit, hbj]; simpa using fun e2 => e e2.symm), hs, rm_comm S j j0, Int.neg_mul, Int.neg_mul, Int.neg_mul]
          congr 1
          rw [Int.mul_left_comm]
    show sm c (lapT S (fun j => r.getD j 0) (detZ c R)) = sm (R.length + 1) _
    rw [sm_congr key, sm_add, sm_one _ hj, sm_swap, sm_first]
    congr 1
    · show _ = 1 * r.getD j0 0 * detZ c R (rm S j0)
      rw [Int.one_mul]
    · refine sm_congr fun i _ => ?_
      rw [sm_mul]
      show _ = - sg1 i * (R.getD i []).getD j0 0 * detZ c (r :: R.eraseIdx i) (rm S j0)
      rw [Int.neg_mul (sg1 i)]
      rfl
theorem el_first {S c j0 : Nat} (hj : j0 < c) (hb : S.testBit j0 = true) (hlow : ∀ k, k < j0 → S.testBit k = false) : elT S c 0 = j0 :: elT (rm S j0) c 0 := by
  have go : ∀ d i, i ≤ j0 → j0 < i + d → elT S d i = j0 :: elT (rm S j0) d i := fun d => by
    induction d with
    | zero => intro i h1 h2; omega
    | succ d ih =>
      intro i h1 h2
      by_cases e : i = j0
      · subst e
        rw [el_hit hb, el_miss (S := rm S i) (by rw [rm_bit]; simp), el_rm, List.filter_eq_self.2 fun x hx => ?_]
        have := (el_mem d (i + 1)).1 hx
        simp only [bne_iff_ne]; omega
      · rw [el_miss (hlow i (by omega)), el_miss (S := rm S j0) (by rw [rm_bit, hlow i (by omega)]; rfl), ih (i + 1) (by omega) (by omega)]
  exact go c 0 (by omega) (by omega)
theorem full_sg (n : Nat) : ∀ t, t ≤ n → sgT (2 ^ n - 1) t = sg1 t
  | 0, _ => rfl
  | t + 1, h => by
    show (if (2 ^ n - 1).testBit t = true then - sgT (2 ^ n - 1) t else sgT (2 ^ n - 1) t) = - sg1 t
    rw [if_pos (by rw [Nat.testBit_two_pow_sub_one]; simp; omega), full_sg n t (by omega)]
/-- Minors: rows and columns change places. -/
theorem det_turn (N c : Nat) (X : Nat → Nat → Int) : ∀ (n A S : Nat), (elT A N 0).length = n → (elT S c 0).length = n → detZ c ((elT A N 0).map fun i => (List.range c).map (X i)) S = detZ N ((elT S c 0).map fun j => (List.range N).map fun i => X i j) A
  | 0, A, S, h1, h2 => by
    rw [List.length_eq_zero_iff.1 h1, List.length_eq_zero_iff.1 h2]; rfl
  | n + 1, A, S, h1, h2 => by
    obtain ⟨j0, hj, hb, hlow⟩ : ∃ j0, j0 < c ∧ S.testBit j0 = true ∧ ∀ k, k < j0 → S.testBit k = false := by
      have hpos : 0 < (elT S c 0).length := by omega
      have hm := (el_mem c 0).1 (List.getElem_mem hpos)
      refine ⟨(elT S c 0)[0], by omega, hm.2.2, fun k hk => ?_⟩
      cases e : S.testBit k with
      | false => rfl
      | true =>
        obtain ⟨t, ht, e2⟩ := List.getElem_of_mem ((el_mem (S := S) (j := k) c 0).2 ⟨by omega, by omega, e⟩)
        rcases Nat.eq_zero_or_pos t with h0 | h0
        · subst h0; omega
        · have := List.pairwise_iff_getElem.1 (el_up S c 0) 0 t hpos ht h0
          omega
    have hl2 := el_rm_len ((el_mem c 0).2 ⟨by omega, by omega, hb⟩)
    rw [col_first c _ S j0 (by rw [List.length_map]; omega) hj hb hlow, el_first hj hb hlow, List.map_cons, List.length_map, h1]
    show _ = sm N (lapT A (fun i => ((List.range N).map fun i => X i j0).getD i 0) (detZ N ((elT (rm S j0) c 0).map fun j => (List.range N).map fun i => X i j)))
    obtain ⟨e, he⟩ : ∃ e : Nat → Nat, ∀ t, e t = (elT A N 0).getD t 0 := ⟨_, fun _ => rfl⟩
    have het : ∀ t, (ht : t < n + 1) → e t = (elT A N 0)[t]'(by omega) := fun t ht => by rw [he]; simp [List.getD, show t < (elT A N 0).length by omega]
    have hem : ∀ t, t < n + 1 → e t ∈ elT A N 0 := fun t ht => by rw [het t ht]; exact List.getElem_mem _
    have hlt : ∀ t, t < n + 1 → e t < N := fun t ht => by have := (el_mem N 0).1 (hem t ht); omega
    have hmono : ∀ i j, i < j → j < n + 1 → e i < e j := fun i j hij hjn => by
      rw [het i (by omega), het j hjn]
      exact List.pairwise_iff_getElem.1 (el_up A N 0) i j (by omega) (by omega) hij
    have hmiss : ∀ j, j < N → (∀ t, t < n + 1 → e t ≠ j) → A.testBit j = false := fun j hjN hj => by
      cases eb : A.testBit j with
      | false => rfl
      | true =>
        obtain ⟨t, ht, e2⟩ := List.getElem_of_mem ((el_mem (S := A) (j := j) N 0).2 ⟨by omega, by omega, eb⟩)
        exact absurd ((het t (by omega)).trans e2) (hj t (by omega))
    rw [sm_image e (n + 1) N _ hlt hmono fun j hjN hj => by unfold lapT; rw [hmiss j hjN hj, if_neg (by simp)]]
    -- signs
    obtain ⟨A', hA'⟩ : ∃ A', A' = A % 2 ^ N := ⟨_, rfl⟩
    have hbit : ∀ k, A'.testBit k = (decide (k < N) && A.testBit k) := fun k => by rw [hA', Nat.testBit_mod_two_pow]
    have hI : Img (n + 1) N e (2 ^ (n + 1) - 1) A' := ⟨fun t ht => by
      rw [hbit, Nat.testBit_two_pow_sub_one, ((el_mem N 0).1 (hem t ht)).2.2]
      simp [hlt t ht, ht], fun j hj => by
      rw [hbit]
      by_cases hjN : j < N
      · rw [hmiss j hjN hj]; simp
      · simp [hjN]⟩
    have hsg : ∀ t, t < n + 1 → sgT A (e t) = sg1 t := fun t ht => by
      rw [← full_sg (n + 1) t (by omega), ← hI.sign hmono t ht]
      exact sgT_congr _ fun k hk => by rw [hbit]; have := hlt t ht; simp [show k < N by omega]
    refine sm_congr fun t ht => ?_
    have hx := hem t ht
    have hbt := ((el_mem N 0).1 hx).2.2
    have hl1 := el_rm_len hx
    have er : ((elT A N 0).map fun i => (List.range c).map (X i)).eraseIdx t = (elT (rm A (e t)) N 0).map fun i => (List.range c).map (X i) := by
      rw [erase_map, erase_filter (el_nodup A N 0) (by omega), el_rm, het t ht]
    unfold lapT
    rw [if_pos hbt, er, det_turn N c X n (rm A (e t)) (rm S j0) (by omega) (by omega), hsg t ht]
    congr 2
    have g1 : ((elT A N 0).map fun i => (List.range c).map (X i)).getD t [] = (List.range c).map (X (e t)) := by
      rw [het t ht]
      simp [List.getD, show t < (elT A N 0).length by omega]
    rw [g1]
    simp [List.getD, hj, hlt t ht]
end Go.Proofs.Ytcncaaeofcmefaa
