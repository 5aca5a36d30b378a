/- Plain mathematics of sets, matroids, graphs and lists, on which the walks rest. -/
import Derived.Test.YtfajbmcdkhgipaaDoorPlainAll1
import Derived.Test.YtfajbmcdkhgipaaDoorPlainAll
namespace Go.Proofs.YtfajbmcdkhgipaaDoor
open Classical

variable {E : List (Nat × Nat)} {m n : Nat} {l : List Nat}
theorem itr_map {A : Nat → List Nat} {g : Nat → Nat} : ∀ {n : Nat} {F : (Nat → Nat) → Int}, itr (fun i => (A i).map g) n F = itr A n fun f => F (apF (fun _ => g) n f)
  | 0, F => by
    show F _ = F _
    congr 1
  | n + 1, F => by
    have e : ∀ (f : Nat → Nat) (x : Nat), apF (fun _ => g) (n + 1) (updF f n x) = updF (apF (fun _ => g) n f) n (g x) := fun f x => by
      funext i
      unfold apF updF
      by_cases e : i = n
      · subst e; simp
      · by_cases hi : i < n
        · simp [e, hi, Nat.lt_succ_of_lt hi]
        · have : ¬ i < n + 1 := by omega
          simp [e, hi, this]
    show tal (fun x => itr (fun i => (A i).map g) n fun f => F (updF f n x)) ((A n).map g) = tal (fun x => itr A n fun f => F (apF (fun _ => g) (n + 1) (updF f n x))) (A n)
    rw [tal_map]
    refine tal_congr fun x _ => ?_
    rw [itr_map (n := n)]
    exact itr_congr fun f _ _ => by rw [e]
theorem pow_back {q : Nat} (hq : 0 < q) {x : Int} {a b : Nat} (hab : a ≤ b) (h : x * (q : Int) ^ a = (q : Int) ^ b) : x = (q : Int) ^ (b - a) := by
  have h2 : (q : Int) ^ b = (q : Int) ^ (b - a) * (q : Int) ^ a := by rw [← Int.pow_add, Nat.sub_add_cancel hab]
  rw [h2] at h
  exact Int.eq_of_mul_eq_mul_right (Int.ne_of_gt (Int.pow_pos (by omega))) h
/-- What a graph and its matroid are. -/
structure GrM (E : List (Nat × Nat)) (n m : Nat) (l : List Nat) : Prop where
  len : m = E.length
  m8 : m ≤ 8
  ends : ∀ j, j < m → ea E j < n ∧ eb E j < n
  fam : Fam m l
  bas : Bas l
  rank : ∀ s, s < 2 ^ m → rk l s = depR m (depG E) s
theorem GrM.le (h : GrM E n m l) {s : Nat} (_ : s < 2 ^ m) : rk l s ≤ pop s := h.bas.rk.le s
theorem pop_rest : ∀ m : Nat, m < 9 → ∀ s : Nat, s < 2 ^ m → pop (2 ^ m - 1 - s) + pop s = m := by decide +kernel
theorem GrM.flo (h : GrM E n m l) {q s : Nat} (hq : 0 < q) (hs : s < 2 ^ m) : floN E n q s m = (q : Int) ^ (pop s - rk l s) := by
  refine pow_back hq (h.le hs) ?_
  have h1 := flo_is (E := E) (n := n) (s := s) hq (lt256 h.m8 hs) (fun j hj => h.ends j (bit_n hs hj)) m h.m8
  rw [lo_all hs] at h1
  rw [h.rank s hs]
  exact h1
theorem full_xor {s : Nat} (hs : s < 2 ^ m) : 2 ^ m - 1 - s < 2 ^ m := by omega
theorem tal_back (F : Nat → Int) (k : Nat) : tal (fun s => F (k - 1 - s)) (List.range k) = tal F (List.range k) := by
  rw [← tal_map F fun s => k - 1 - s]
  refine tal_perm _ ((List.perm_ext_iff_of_nodup ?_ List.nodup_range).2 fun x => ?_)
  · refine List.pairwise_map.2 (List.Pairwise.imp_of_mem (fun {q r} hq hr hqr e' => hqr ?_) List.nodup_range)
    have h1 := List.mem_range.1 hq
    have h2 := List.mem_range.1 hr
    have e2 : k - 1 - q = k - 1 - r := e'
    omega
  · rw [List.mem_map, List.mem_range]
    constructor
    · rintro ⟨y, hy, rfl⟩
      have := List.mem_range.1 hy
      omega
    · intro hx
      exact ⟨k - 1 - x, List.mem_range.2 (by omega), by omega⟩
/-- TUTTE: flows are counted. -/
theorem GrM.flows (h : GrM E n m l) {q : Nat} (hq : 0 < q) : tal (fun c => if conB E n q m (apF (fun _ => (· + 1)) m (digF (q - 1) m c)) = true then 1 else 0) (List.range ((q - 1) ^ m)) = horN (chrS (rk (cmp m l)) (rk (cmp m l) (2 ^ m - 1)) (2 ^ m)) q (rk (cmp m l) (2 ^ m - 1) + 1) (rk (cmp m l) (2 ^ m - 1) + 1) := by
  rw [← itr_code (q - 1) (n := m) (F := fun f => if conB E n q m (apF (fun _ => (· + 1)) m f) = true then 1 else 0), ← itr_map (A := fun _ => List.range (q - 1)) (g := (· + 1)) (F := fun f => if conB E n q m f = true then 1 else 0), itr_none q hq h.m8, hor_chr, ← tal_back]
  refine tal_congr fun s hs => ?_
  have hs' := List.mem_range.1 hs
  have hfl : itr (letA q (2 ^ m - 1 - s)) m (fun f => if conB E n q m f = true then 1 else 0) = floN E n q (2 ^ m - 1 - s) m := rfl
  have hfull : 2 ^ m - 1 < 2 ^ m := Nat.sub_lt (Nat.two_pow_pos m) (by decide)
  have hco : 2 ^ m - 1 - s < 2 ^ m := by omega
  rw [hfl, h.flo hq hco]
  have d1 := dual_sum h.m8 h.fam h.bas hs'
  have d2 := dual_sum h.m8 h.fam h.bas hfull
  have p1 : pop (2 ^ m - 1) = m := pop_fullE m h.m8
  have p2 : pop (2 ^ m - 1 - s) + pop s = m := pop_rest m (by have := h.m8; omega) s hs'
  have l1 := h.le hco
  rw [Nat.sub_self, p1] at d2
  have l0 := h.le (s := 0) (Nat.two_pow_pos m)
  have p0 : pop 0 = 0 := rfl
  have l2 := h.bas.rk.mono (2 ^ m - 1 - s) (2 ^ m - 1) (full_sub hco)
  have e1 : rk (cmp m l) (2 ^ m - 1) - rk (cmp m l) s = pop (2 ^ m - 1 - s) - rk l (2 ^ m - 1 - s) := by omega
  rw [e1]
  congr 1
  unfold sgn
  rw [one_pow_mod]
  rcases Nat.mod_two_eq_zero_or_one m with a | a <;> rcases Nat.mod_two_eq_zero_or_one (pop s) with b | b <;> (have c : pop (2 ^ m - 1 - s) % 2 = (m % 2 + pop s % 2) % 2 := by omega) <;> simp [a, b, c]
theorem GrM.col (h : GrM E n m l) {k s : Nat} (hk : 0 < k) (hs : s < 2 ^ m) (hn : rk l s ≤ n) : colN E n k s m = (k : Int) ^ (n - rk l s) := by
  refine pow_back hk hn ?_
  rw [h.rank s hs]
  exact col_is (E := E) (n := n) (k := k) (s := s) (fun j hj => h.ends j (bit_n hs hj)) m
/-- The coefficients of a graph's polynomial. -/
def ccF (n : Nat) (R : Nat) (c : Nat → Int) (j : Nat) : Int := if j < n - R then 0 else c (j - (n - R))
theorem hor_shift (c : Nat → Int) (q : Int) {R n : Nat} (h : R ≤ n) : horN (ccF n R c) q (n + 1) (n + 1) = q ^ (n - R) * horN c q (R + 1) (R + 1) := by
  rw [hor_all, hor_all, show n + 1 = (n - R) + (R + 1) by omega, List.range_add, tal_append, tal_map, ← tal_mul, tal_congr (G := fun _ => 0) fun j hj => ?_, tal_zero, Int.zero_add]
  · refine tal_congr fun j _ => ?_
    unfold ccF
    rw [if_neg (by omega), Nat.add_sub_cancel_left, Int.pow_add]
    simp [Int.mul_left_comm]
  · unfold ccF
    rw [if_pos (List.mem_range.1 hj), Int.zero_mul]
/-- WHITNEY: colours are counted. -/
theorem GrM.colours (h : GrM E n m l) {k : Nat} (hk : 0 < k) (hn : ∀ s, s < 2 ^ m → rk l s ≤ n) : tal (fun c => if proB E (digF k n c) = true then 1 else 0) (List.range (k ^ n)) = horN (ccF n (rk l (2 ^ m - 1)) (chrS (rk l) (rk l (2 ^ m - 1)) (2 ^ m))) k (n + 1) (n + 1) := by
  have hfull : 2 ^ m - 1 < 2 ^ m := Nat.sub_lt (Nat.two_pow_pos m) (by decide)
  rw [hor_shift _ _ (hn _ hfull), hor_chr, ← itr_code k (n := n) (F := fun f => if proB E f = true then 1 else 0), col_count h.len h.m8, ← tal_mul]
  refine tal_congr fun s hs => ?_
  have hs' := List.mem_range.1 hs
  have l2 := h.bas.rk.mono s (2 ^ m - 1) (full_sub hs')
  have l3 := hn _ hfull
  rw [h.col hk hs' (hn s hs'), Int.mul_left_comm, ← Int.pow_add]
  congr 2
  omega
end Go.Proofs.YtfajbmcdkhgipaaDoor

namespace Go.Proofs.YtfajbmcdkhgipaaDoor

/-- The least element of a that b has not goes away. -/
def downR (_l : List Nat) (a b : Nat) : Nat := rm a (tz (dif a b))
/-- The next rung: with the first of those that are missing with which it is a basis. -/
def nextR (l : List Nat) (a b : Nat) : Nat := match (els (dif b a)).find? fun y => memB (downR l a b ||| 2 ^ y) l with
  | some y => downR l a b ||| 2 ^ y
  | none => a
/-- The rungs. -/
def lad (l : List Nat) : Nat → Nat → Nat → List Nat
  | 0, a, _ => [a]
  | k + 1, a, b => a :: lad l k (nextR l a b) b
def ladder (l : List Nat) (a b : Nat) : List Nat := lad l (pop (dif a b)) a b
theorem tz_bitL : ∀ s : Nat, s < 256 → 0 < s → s.testBit (tz s) = true := by decide +kernel
theorem dif_zero {a b : Nat} (ha : a < 256) (h : pop (dif a b) = 0) : subB a b = true := subB_iff.2 fun i hi => by
  have h1 := (pop_pos (dif a b) (dif_lt ha)).1 h
  have h2 := congrArg (·.testBit i) h1
  simp only [dif_bit, Nat.zero_testBit] at h2
  cases e : b.testBit i <;> simp_all
theorem dif_pos {a b : Nat} (ha : a < 256) (hb : b < 256) (hp : pop a = pop b) (h : a ≠ b) : 0 < dif a b := by
  apply Nat.pos_of_ne_zero
  intro h0
  have : pop (dif a b) = 0 := by rw [h0]; decide
  exact h (eq_of_pop hb (dif_zero ha this) (by omega))
/-- What the next rung is. -/
theorem next_is {l : List Nat} (hb : Bas l) {a b : Nat} (ha : a ∈ l) (hbb : b ∈ l) (h : a ≠ b) : ∃ y, (els (dif b a)).find? (fun y => memB (downR l a b ||| 2 ^ y) l) = some y ∧ y ∈ els (dif b a) ∧ nextR l a b = downR l a b ||| 2 ^ y ∧ nextR l a b ∈ l ∧ b.testBit y = true ∧ a.testBit y = false := by
  have a8 := hb.lt a ha
  have b8 := hb.lt b hbb
  have hd := dif_pos a8 b8 (hb.size a ha b hbb) h
  have h1 := tz_bitL _ (dif_lt (b := b) a8) hd
  rw [dif_bit] at h1
  simp at h1
  obtain ⟨y, hy1, hy2, hy3⟩ := hb.exch a ha b hbb _ h1.1 h1.2
  have hm : y ∈ els (dif b a) := (mem_els (dif_lt b8)).2 (by rw [dif_bit, hy1, hy2]; rfl)
  cases hf : (els (dif b a)).find? (fun y => memB (downR l a b ||| 2 ^ y) l) with
  | none =>
    rw [List.find?_eq_none] at hf
    exact absurd (by unfold memB downR; simpa using hy3) (hf y hm)
  | some z =>
    have hz1 := List.find?_some hf
    have hz2 := List.mem_of_find?_eq_some hf
    have hz3 := (mem_els (dif_lt b8)).1 hz2
    rw [dif_bit] at hz3
    simp at hz3
    have e : nextR l a b = downR l a b ||| 2 ^ z := by unfold nextR; rw [hf]
    refine ⟨z, rfl, hz2, e, ?_, hz3⟩
    rw [e]
    unfold memB at hz1
    simpa using hz1
theorem next_dif {l : List Nat} (hb : Bas l) {a b : Nat} (ha : a ∈ l) (hbb : b ∈ l) (h : a ≠ b) : pop (dif a b) = pop (dif (nextR l a b) b) + 1 ∧ pop (dif (nextR l a b) a) = 1 := by
  obtain ⟨y, _, _, e, h1, h2, h3⟩ := next_is hb ha hbb h
  have a8 := hb.lt a ha
  have b8 := hb.lt b hbb
  have hd := dif_pos a8 b8 (hb.size a ha b hbb) h
  have ht := tz_bitL _ (dif_lt (b := b) a8) hd
  have y8 := bit8 b8 h2
  rw [e]
  constructor
  · have e1 : dif (downR l a b ||| 2 ^ y) b = rm (dif a b) (tz (dif a b)) := dif_swap_l h2
    rw [e1]
    exact pop_rm' (dif_lt a8) ht
  · have e1 : dif (downR l a b ||| 2 ^ y) a = 2 ^ y := Nat.eq_of_testBit_eq fun j => by
      unfold downR
      rw [dif_bit, or_bit, rm_bit, Nat.testBit_two_pow]
      by_cases ej : y = j
      · subst ej; simp [h3]
      · cases e : a.testBit j <;> simp [ej]
    rw [e1]
    have : ∀ y, y < 8 → pop (2 ^ y) = 1 := by decide
    exact this y y8
theorem lad_len {l : List Nat} : ∀ (k a b : Nat), (lad l k a b).length = k + 1
  | 0, _, _ => rfl
  | k + 1, a, b => by unfold lad; rw [List.length_cons, lad_len k]
theorem ladder_step {l : List Nat} (hb : Bas l) {a b : Nat} (ha : a ∈ l) (hbb : b ∈ l) (h : a ≠ b) : ladder l a b = a :: ladder l (nextR l a b) b := by
  unfold ladder
  rw [(next_dif hb ha hbb h).1]
  rfl
theorem ladder_end {l : List Nat} (a : Nat) : ladder l a a = [a] := by
  unfold ladder
  have : dif a a = 0 := Nat.eq_of_testBit_eq fun i => by rw [dif_bit]; simp
  rw [this]
  rfl
theorem ladder_len {l : List Nat} (a b : Nat) : (ladder l a b).length = pop (dif a b) + 1 := lad_len _ _ _
/-- A ladder: it begins with a, ends with b; its rungs are bases, and one element comes each time. -/
theorem lad_rungs {l : List Nat} (hb : Bas l) {b : Nat} (hbb : b ∈ l) : ∀ (k a : Nat), a ∈ l → pop (dif a b) = k → (lad l k a b).getLast? = some b ∧ (∀ t ∈ lad l k a b, t ∈ l) ∧ (∀ j, j + 1 < (lad l k a b).length → pop (dif ((lad l k a b).getD (j + 1) 0) ((lad l k a b).getD j 0)) = 1)
  | 0, a, ha, hk => by
    have e : a = b := eq_of_pop (hb.lt b hbb) (dif_zero (hb.lt a ha) hk) (Nat.le_of_eq (hb.size b hbb a ha))
    subst e
    refine ⟨rfl, fun t ht => ?_, fun j hj => ?_⟩
    · unfold lad at ht
      rw [List.mem_singleton] at ht
      subst ht
      exact ha
    · unfold lad at hj
      simp at hj
  | k + 1, a, ha, hk => by
    have hne : a ≠ b := fun e => by
      subst e
      have : dif a a = 0 := Nat.eq_of_testBit_eq fun i => by rw [dif_bit]; simp
      rw [this] at hk
      have : pop 0 = 0 := by decide
      omega
    obtain ⟨y, _, _, _, h1, _⟩ := next_is hb ha hbb hne
    obtain ⟨d1, d2⟩ := next_dif hb ha hbb hne
    obtain ⟨i1, i2, i3⟩ := lad_rungs hb hbb k (nextR l a b) h1 (by omega)
    have e0 : (lad l k (nextR l a b) b).getD 0 0 = nextR l a b := by cases k <;> rfl
    have hne2 : lad l k (nextR l a b) b ≠ [] := fun e => by have := lad_len (l := l) k (nextR l a b) b; rw [e] at this; simp at this
    unfold lad
    refine ⟨?_, fun t ht => ?_, fun j hj => ?_⟩
    · rw [List.getLast?_cons_of_ne_nil hne2]
      exact i1
    · rw [List.mem_cons] at ht
      rcases ht with rfl | ht
      · exact ha
      · exact i2 t ht
    · cases j with
      | zero => simp only [List.getD_cons_succ, List.getD_cons_zero]; rw [e0]; exact d2
      | succ j => simp only [List.getD_cons_succ]; exact i3 j (by rw [List.length_cons] at hj; omega)
/-- Which of b's elements can go when i comes. -/
def fundTo (l : List Nat) (b i : Nat) (es : List Nat) : Nat := es.foldl (fun c x => if memB (rm b x ||| 2 ^ i) l = true then c ||| 2 ^ x else c) (2 ^ i)
def fund (l : List Nat) (b i : Nat) : Nat := fundTo l b i (els b)
theorem fundTo_snoc (l : List Nat) (b i : Nat) (es : List Nat) (x : Nat) : fundTo l b i (es ++ [x]) = if memB (rm b x ||| 2 ^ i) l = true then fundTo l b i es ||| 2 ^ x else fundTo l b i es := by
  unfold fundTo
  rw [List.foldl_append]
  rfl
theorem fundTo_lt (l : List Nat) (b i : Nat) (hi : i < 8) (es : List Nat) (h : ∀ x ∈ es, x < 8) : fundTo l b i es < 256 := by
  refine lt_of_bits (n := 8) fun j hj => ?_
  unfold fundTo at hj
  rw [fold_bit (fun x => memB (rm b x ||| 2 ^ i) l = true)] at hj
  simp only [Bool.or_eq_true, Bool.and_eq_true, decide_eq_true_eq] at hj
  rcases hj with hj | hj
  · rw [Nat.testBit_two_pow] at hj
    simp at hj
    omega
  · exact h j hj.1
theorem fund_bit {l : List Nat} {b i : Nat} (hb : b < 256) (j : Nat) : (fund l b i).testBit j = (decide (i = j) || (b.testBit j && memB (rm b j ||| 2 ^ i) l)) := by
  unfold fund fundTo
  rw [fold_bit (fun x => memB (rm b x ||| 2 ^ i) l = true), Nat.testBit_two_pow]
  have := @mem_els b j hb
  congr 1
  cases e : b.testBit j <;> simp_all
/-- The one circuit in b and i. -/
theorem fund_is {n : Nat} {l : List Nat} (hn : n ≤ 8) (hf : Fam n l) (hb : Bas l) {b i : Nat} (hbb : b ∈ l) (hi : i < n) (hbi : b.testBit i = false) {c : Nat} (hc : cirB (rk l) c = true) (hs : subB c (b ||| 2 ^ i) = true) : c = fund l b i := by
  have b1 : b < 2 ^ n := hf.lt b hbb
  have b8 := lt256 hn b1
  have u1 := ad_lt b1 hi
  have c1 := sub_lt hs u1
  have c8 := lt256 hn c1
  have R := hb.rk
  have pb := (bas_mem hn hf hb b1).1 hbb
  have c2 := (cir_iff c8).1 hc
  have hci : c.testBit i = true := by
    cases e : c.testBit i with
    | true => rfl
    | false =>
      exfalso
      refine c2.2 (ind_down R pb.1 (subB_iff.2 fun j hj => ?_))
      have h1 := subB_iff.1 hs j hj
      rw [or_bit] at h1
      by_cases ej : i = j
      · subst ej; rw [e] at hj; cases hj
      · simpa [ej] using h1
  have hru : rk l (b ||| 2 ^ i) = pop b := by
    have h1 := R.mono _ _ (full_sub u1)
    have h2 := R.mono _ _ (sub_or b (2 ^ i))
    omega
  refine Nat.eq_of_testBit_eq fun j => ?_
  rw [fund_bit b8]
  by_cases ej : i = j
  · subst ej; simp [hci]
  · have ej' : decide (i = j) = false := by simp [ej]
    rw [ej', Bool.false_or]
    cases ec : c.testBit j with
    | true =>
      have hbj : b.testBit j = true := by
        have h1 := subB_iff.1 hs j ec
        rw [or_bit] at h1
        simpa [ej] using h1
      have j8 := bit8 b8 hbj
      -- the rest of the circuit spans j
      have k1 := R.cir_in c8 hc ec
      have hsub : subB (rm c j) (rm b j ||| 2 ^ i) = true := subB_iff.2 fun z hz => by
        rw [rm_bit] at hz
        simp at hz
        have h1 := subB_iff.1 hs z hz.1
        rw [or_bit] at h1 ⊢
        rw [rm_bit]
        by_cases ez : i = z <;> simp_all
      have k2 := R.add hsub k1
      have e1 : rm b j ||| 2 ^ i ||| 2 ^ j = b ||| 2 ^ i := Nat.eq_of_testBit_eq fun z => by
        rw [or_bit, or_bit, or_bit, rm_bit]
        by_cases ez : j = z
        · subst ez; simp [hbj]
        · simp [ez]
      rw [e1] at k2
      have lt1 : rm b j ||| 2 ^ i < 2 ^ n := ad_lt (sub_lt (rm_sub b j) b1) hi
      have p1 := pop_rm' b8 hbj
      have p2 := pop_ad (rm b j) (lt256 hn (sub_lt (rm_sub b j) b1)) i (by omega) (by rw [rm_bit, hbi]; rfl)
      have : rm b j ||| 2 ^ i ∈ l := (bas_mem hn hf hb lt1).2 ⟨by omega, by omega⟩
      rw [hbj]
      unfold memB
      simp [this]
    | false =>
      cases hbj : b.testBit j with
      | false => rfl
      | true =>
        have hsub : subB c (rm b j ||| 2 ^ i) = true := subB_iff.2 fun z hz => by
          have h1 := subB_iff.1 hs z hz
          rw [or_bit] at h1 ⊢
          rw [rm_bit]
          by_cases ez : j = z
          · subst ez; rw [ec] at hz; cases hz
          · by_cases ez2 : i = z <;> simp_all
        have hno : ¬ (rm b j ||| 2 ^ i ∈ l) := fun hm => by
          have lt1 := hf.lt _ hm
          have := (bas_mem hn hf hb lt1).1 hm
          exact c2.2 (ind_down R this.1 hsub)
        unfold memB
        simp [hno]
theorem fund_cir {n : Nat} {l : List Nat} (hn : n ≤ 8) (hf : Fam n l) (hb : Bas l) {b i : Nat} (hbb : b ∈ l) (hi : i < n) (hbi : b.testBit i = false) : fund l b i < 2 ^ n ∧ cirB (rk l) (fund l b i) = true ∧ subB (fund l b i) (b ||| 2 ^ i) = true ∧ dif (fund l b i) b = 2 ^ i := by
  have b1 : b < 2 ^ n := hf.lt b hbb
  have b8 := lt256 hn b1
  have u1 := ad_lt b1 hi
  have R := hb.rk
  have pb := (bas_mem hn hf hb b1).1 hbb
  have hdep : rk l (b ||| 2 ^ i) ≠ pop (b ||| 2 ^ i) := by
    have h1 := R.mono _ _ (full_sub u1)
    have h2 := pop_ad b b8 i (by omega) hbi
    omega
  obtain ⟨c, h1, h2⟩ := dep_cir R (lt256 hn u1) hdep
  have e := fund_is hn hf hb hbb hi hbi h2 h1
  rw [← e]
  refine ⟨sub_lt h1 u1, h2, h1, ?_⟩
  rw [e]
  refine Nat.eq_of_testBit_eq fun j => ?_
  rw [dif_bit, fund_bit b8, Nat.testBit_two_pow]
  by_cases ej : i = j
  · subst ej; simp [hbi]
  · cases e : b.testBit j <;> simp [ej]
end Go.Proofs.YtfajbmcdkhgipaaDoor

namespace Go.Proofs.YtfajbmcdkhgipaaDoor

/-- Is s cut into k independent sets? -/
def covB (r : Nat → Nat) : Nat → Nat → Bool
  | 0, s => s == 0
  | k + 1, s => (List.range (s + 1)).any fun t => subB t s && r t == pop t && covB r k (dif s t)
theorem cov_succ {r : Nat → Nat} {k s : Nat} : covB r (k + 1) s = true ↔ ∃ t, subB t s = true ∧ r t = pop t ∧ covB r k (dif s t) = true := by
  rw [covB]
  simp only [List.any_eq_true, List.mem_range, Bool.and_eq_true, beq_iff_eq]
  constructor
  · rintro ⟨t, _, ⟨h1, h2⟩, h3⟩
    exact ⟨t, h1, h2, h3⟩
  · rintro ⟨t, h1, h2, h3⟩
    exact ⟨t, by have := subB_le h1; omega, ⟨h1, h2⟩, h3⟩
theorem low_times {n : Nat} {r : Nat → Nat} (hr : RkOn n r) (k : Nat) {s : Nat} (hs : s < 2 ^ n) : lowR (fun t => r t + lowR (fun t => k * r t) t) s = lowR (fun t => (k + 1) * r t) s := by
  have z1 : (fun t => k * r t) 0 = 0 := by show k * r 0 = 0; rw [hr.zero, Nat.mul_zero]
  have z2 : (fun t => (k + 1) * r t) 0 = 0 := by show (k + 1) * r 0 = 0; rw [hr.zero, Nat.mul_zero]
  have z3 : (fun t => r t + lowR (fun t => k * r t) t) 0 = 0 := by
    show r 0 + lowR (fun t => k * r t) 0 = 0
    have := lowR_pop (fun t => k * r t) 0
    have e : pop 0 = 0 := by decide
    rw [hr.zero]
    omega
  apply Nat.le_antisymm
  · obtain ⟨t, h1, h2⟩ := lowR_at (f := fun t => (k + 1) * r t) z2 s
    have h3 := lowR_le (f := fun t => r t + lowR (fun t => k * r t) t) h1
    have h4 := lowR_le (f := fun t => k * r t) (sub_refl t)
    have e : pop (dif t t) = 0 := by have := pop_split (sub_refl t); omega
    have e2 : (k + 1) * r t = k * r t + r t := Nat.succ_mul k (r t)
    rw [h2]
    omega
  · obtain ⟨t, h1, h2⟩ := lowR_at (f := fun t => r t + lowR (fun t => k * r t) t) z3 s
    obtain ⟨x, h3, h4⟩ := lowR_at (f := fun t => k * r t) z1 t
    have h5 := lowR_le (f := fun t => (k + 1) * r t) (sub_trans h3 h1)
    have h6 := hr.mono x t (sub_lt (sub_trans h3 h1) hs) (sub_lt h1 hs) h3
    have p1 := pop_split h1
    have p2 := pop_split h3
    have p3 := pop_split (sub_trans h3 h1)
    have e2 : (k + 1) * r x = k * r x + r x := Nat.succ_mul k (r x)
    omega
/-- EDMONDS: k independent sets cut s just if no set within has more than k times its rank. -/
theorem cov_low {n : Nat} {r : Nat → Nat} (hn : n ≤ 8) (hr : RkOn n r) : ∀ (k s : Nat), s < 2 ^ n → (covB r k s = true ↔ lowR (fun t => k * r t) s = pop s) := by
  intro k
  induction k with
  | zero =>
    intro s hs
    rw [covB, beq_iff_eq, low_ind (by show 0 * r 0 = 0; omega)]
    constructor
    · rintro rfl t ht
      have e : t = 0 := by have := subB_le ht; omega
      subst e
      have : pop 0 = 0 := by decide
      omega
    · intro h
      have h1 : pop s ≤ 0 * r s := h s (sub_refl s)
      exact (pop_pos s (lt256 hn hs)).1 (by omega)
  | succ k ih =>
    intro s hs
    have hu : RkOn n (lowR fun t => k * r t) := (hr.subOn.times k).low
    have h1 := share_low hn hr hu hs
    rw [low_times hr k hs] at h1
    rw [← h1, cov_succ, share_iff]
    constructor
    · rintro ⟨t, a, b, c⟩
      exact ⟨t, a, b, (ih _ (difn_lt hs)).1 c⟩
    · rintro ⟨t, a, b, c⟩
      exact ⟨t, a, b, (ih _ (difn_lt hs)).2 c⟩
theorem cov_iff {n : Nat} {r : Nat → Nat} (hn : n ≤ 8) (hr : RkOn n r) {k s : Nat} (hs : s < 2 ^ n) : covB r k s = true ↔ ∀ t, subB t s = true → pop t ≤ k * r t := by
  rw [cov_low hn hr k s hs, low_ind (by show k * r 0 = 0; rw [hr.zero, Nat.mul_zero])]
theorem cov_mono {n : Nat} {r : Nat → Nat} (hn : n ≤ 8) (hr : RkOn n r) {k j s t : Nat} (hs : s < 2 ^ n) (hkj : k ≤ j) (hts : subB t s = true) (h : covB r k s = true) : covB r j t = true := by
  rw [cov_iff hn hr (sub_lt hts hs)]
  intro x hx
  exact Nat.le_trans ((cov_iff hn hr hs).1 h x (sub_trans hx hts)) (Nat.mul_le_mul_right _ hkj)
/-- No loops. -/
def NoLoop (n : Nat) (r : Nat → Nat) : Prop := ∀ t, t < 2 ^ n → t ≠ 0 → 1 ≤ r t
theorem noLoop_of {n : Nat} {r : Nat → Nat} (hr : RkOn n r) (h : ∀ i, i < n → r (2 ^ i) ≠ 0) : NoLoop n r := fun t ht h0 => by
  obtain ⟨i, hi⟩ := exists_bit h0
  have hin := bit_n ht hi
  have := hr.mono (2 ^ i) t (Nat.pow_lt_pow_right (by omega) hin) ht (subB_iff.2 fun j hj => by
    rw [Nat.testBit_two_pow] at hj
    simp at hj
    rw [← hj]
    exact hi)
  have := h i hin
  omega
theorem cov_all {n : Nat} {r : Nat → Nat} (hn : n ≤ 8) (hr : RkOn n r) (hl : NoLoop n r) {s : Nat} (hs : s < 2 ^ n) : covB r (pop s) s = true := by
  rw [cov_iff hn hr hs]
  intro t ht
  by_cases h0 : t = 0
  · subst h0
    have : pop 0 = 0 := by decide
    omega
  · have h1 := hl t (sub_lt ht hs) h0
    have h2 := pop_sub ht
    have h3 : pop s * 1 ≤ pop s * r t := Nat.mul_le_mul_left _ h1
    omega
/-- How few independent sets cut s. -/
def cvN (r : Nat → Nat) (s : Nat) : Nat := ((List.range 9).find? fun k => covB r k s).getD 9
theorem find_least {p : Nat → Bool} : ∀ (T : Nat), (∃ k, k < T ∧ p k = true) → ∃ k, (List.range T).find? p = some k ∧ p k = true ∧ ∀ j, p j = true → k ≤ j
  | 0, h => by obtain ⟨k, h1, _⟩ := h; omega
  | T + 1, h => by
    by_cases hT : ∃ k, k < T ∧ p k = true
    · obtain ⟨k, h1, h2, h3⟩ := find_least T hT
      exact ⟨k, by rw [List.range_succ, List.find?_append, h1]; rfl, h2, h3⟩
    · obtain ⟨k, h1, h2⟩ := h
      obtain rfl : k = T := by
        rcases Nat.lt_or_ge k T with g | g
        · exact absurd ⟨k, g, h2⟩ hT
        · omega
      refine ⟨k, ?_, h2, fun j hj => ?_⟩
      · rw [List.range_succ, List.find?_append, List.find?_eq_none.2 (fun x hx hp => hT ⟨x, List.mem_range.1 hx, hp⟩)]
        simp [h2]
      · rcases Nat.lt_or_ge j k with g | g
        · exact absurd ⟨j, g, hj⟩ hT
        · exact g
theorem cvN_spec {n : Nat} {r : Nat → Nat} (hn : n ≤ 8) (hr : RkOn n r) (hl : NoLoop n r) {s : Nat} (hs : s < 2 ^ n) : covB r (cvN r s) s = true ∧ (∀ k, covB r k s = true → cvN r s ≤ k) ∧ cvN r s ≤ pop s := by
  have h1 := cov_all hn hr hl hs
  obtain ⟨k, e, h2, h3⟩ := find_least (p := fun k => covB r k s) 9 ⟨pop s, by have := pop_le s (lt256 hn hs); omega, h1⟩
  have e2 : cvN r s = k := by unfold cvN; rw [e]; rfl
  rw [e2]
  exact ⟨h2, h3, h3 _ h1⟩
theorem cvN_zero (r : Nat → Nat) : cvN r 0 = 0 := by
  unfold cvN
  simp [List.range_succ, covB]
/-- The least element, as a set. -/
def lowS (s : Nat) : Nat := if s = 0 then 0 else 2 ^ tz s
def candB (r : Nat → Nat) (s t : Nat) : Bool := subB (lowS s) t && subB t s && r t == pop t
theorem tz_in : ∀ s : Nat, s < 256 → 0 < s → s.testBit (tz s) = true := by decide +kernel
theorem pow_sub {i t : Nat} : subB (2 ^ i) t = true ↔ t.testBit i = true := by
  rw [subB_iff]
  constructor
  · intro h
    exact h i (by simp)
  · intro h j hj
    rw [Nat.testBit_two_pow] at hj
    simp at hj
    rw [← hj]
    exact h
theorem cov_with {r : Nat → Nat} : ∀ (k s i : Nat), covB r (k + 1) s = true → s.testBit i = true → ∃ t, subB t s = true ∧ t.testBit i = true ∧ r t = pop t ∧ covB r k (dif s t) = true := by
  intro k
  induction k with
  | zero =>
    intro s i h hi
    obtain ⟨t, h1, h2, h3⟩ := cov_succ.1 h
    refine ⟨t, h1, ?_, h2, h3⟩
    rw [covB, beq_iff_eq] at h3
    have := dif_bit s t i
    rw [h3, hi] at this
    simp at this
    exact this
  | succ k ih =>
    intro s i h hi
    obtain ⟨t, h1, h2, h3⟩ := cov_succ.1 h
    by_cases hit : t.testBit i = true
    · exact ⟨t, h1, hit, h2, h3⟩
    · obtain ⟨x, a1, a2, a3, a4⟩ := ih (dif s t) i h3 (by rw [dif_bit, hi]; simpa using hit)
      refine ⟨x, sub_trans a1 (dif_subl s t), a2, a3, cov_succ.2 ⟨t, subB_iff.2 fun j hj => ?_, h2, ?_⟩⟩
      · rw [dif_bit, subB_iff.1 h1 j hj]
        have := subB_iff.1 a1 j
        rw [dif_bit, hj] at this
        cases e : x.testBit j
        · rfl
        · have := this e
          simp at this
      · have e : dif (dif s x) t = dif (dif s t) x := Nat.eq_of_testBit_eq fun j => by
          simp only [dif_bit]
          cases s.testBit j <;> cases x.testBit j <;> cases t.testBit j <;> rfl
        rw [e]
        exact a4
theorem lowS_sub {s t : Nat} (h0 : s ≠ 0) : subB (lowS s) t = true ↔ t.testBit (tz s) = true := by
  unfold lowS
  rw [if_neg h0, pow_sub]
theorem cand_iff {r : Nat → Nat} {s t : Nat} (h0 : s ≠ 0) : candB r s t = true ↔ t.testBit (tz s) = true ∧ subB t s = true ∧ r t = pop t := by
  unfold candB
  rw [Bool.and_eq_true, Bool.and_eq_true, beq_iff_eq, lowS_sub h0, and_assoc]
/-- What begins a cover of fewest sets, and what does not. -/
theorem cv_step {n : Nat} {r : Nat → Nat} (hn : n ≤ 8) (hr : RkOn n r) (hl : NoLoop n r) {s : Nat} (hs : s < 2 ^ n) (h0 : s ≠ 0) : (∀ t, subB t s = true → r t = pop t → cvN r s ≤ cvN r (dif s t) + 1) ∧ ∃ t, candB r s t = true ∧ cvN r (dif s t) + 1 = cvN r s := by
  have h8 := lt256 hn hs
  obtain ⟨c1, c2, c3⟩ := cvN_spec hn hr hl hs
  have A : ∀ t, subB t s = true → r t = pop t → cvN r s ≤ cvN r (dif s t) + 1 := fun t h1 h2 => c2 _ (cov_succ.2 ⟨t, h1, h2, (cvN_spec hn hr hl (difn_lt hs)).1⟩)
  refine ⟨A, ?_⟩
  cases e : cvN r s with
  | zero =>
    rw [e, covB, beq_iff_eq] at c1
    exact absurd c1 h0
  | succ k =>
    rw [e] at c1
    obtain ⟨t, a1, a2, a3, a4⟩ := cov_with k s (tz s) c1 (tz_in s h8 (by omega))
    have h1 := (cvN_spec hn hr hl (difn_lt (b := t) hs)).2.1 k a4
    have h2 := A t a1 a3
    exact ⟨t, (cand_iff h0).2 ⟨a2, a1, a3⟩, by omega⟩
/-- The least set that begins a cover of fewest sets. -/
def cvF (r : Nat → Nat) (s : Nat) : Nat := ((List.range (s + 1)).find? fun t => candB r s t && cvN r (dif s t) + 1 == cvN r s).getD 0
theorem cvF_spec {n : Nat} {r : Nat → Nat} (hn : n ≤ 8) (hr : RkOn n r) (hl : NoLoop n r) {s : Nat} (hs : s < 2 ^ n) (h0 : s ≠ 0) : candB r s (cvF r s) = true ∧ cvN r (dif s (cvF r s)) + 1 = cvN r s ∧ ∀ t, candB r s t = true → cvN r (dif s t) + 1 = cvN r s → cvF r s ≤ t := by
  obtain ⟨t, h1, h2⟩ := (cv_step hn hr hl hs h0).2
  have hts := ((cand_iff h0).1 h1).2.1
  obtain ⟨k, e, h3, h4⟩ := find_least (p := fun t => candB r s t && cvN r (dif s t) + 1 == cvN r s) (s + 1) ⟨t, by have := subB_le hts; omega, by rw [h1, h2]; simp⟩
  have e2 : cvF r s = k := by unfold cvF; rw [e]; rfl
  rw [e2]
  rw [Bool.and_eq_true, beq_iff_eq] at h3
  exact ⟨h3.1, h3.2, fun t a b => h4 t (by rw [Bool.and_eq_true, beq_iff_eq]; exact ⟨a, b⟩)⟩
theorem cvF_ne {n : Nat} {r : Nat → Nat} (hn : n ≤ 8) (hr : RkOn n r) (hl : NoLoop n r) {s : Nat} (hs : s < 2 ^ n) (h0 : s ≠ 0) : cvF r s ≠ 0 := fun e => by
  have h := (cvF_spec hn hr hl hs h0).1
  rw [e, cand_iff h0] at h
  simp at h
theorem cvF_zero (r : Nat → Nat) : cvF r 0 = 0 := by
  unfold cvF
  simp [List.range_succ, cvN_zero]
theorem cvF_sub {n : Nat} {r : Nat → Nat} (hn : n ≤ 8) (hr : RkOn n r) (hl : NoLoop n r) {s : Nat} (hs : s < 2 ^ n) : subB (cvF r s) s = true := by
  by_cases h0 : s = 0
  · subst h0
    rw [cvF_zero]
    decide
  · exact ((cand_iff h0).1 (cvF_spec hn hr hl hs h0).1).2.1

/-- What is taken, one after another. -/
def takeF (f : Nat → Nat) : Nat → Nat → List Nat
  | 0, _ => []
  | k + 1, s => if f s = 0 then [] else f s :: takeF f k (dif s (f s))
/-- What is left. -/
def restF (f : Nat → Nat) (s : Nat) : Nat → Nat
  | 0 => s
  | j + 1 => dif (restF f s j) (f (restF f s j))
theorem restF_sub (f : Nat → Nat) (s : Nat) : ∀ j, subB (restF f s j) s = true
  | 0 => sub_refl s
  | j + 1 => sub_trans (dif_subl _ _) (restF_sub f s j)
theorem restF_shift (f : Nat → Nat) (s : Nat) : ∀ j, restF f s (j + 1) = restF f (dif s (f s)) j
  | 0 => rfl
  | j + 1 => by rw [restF, restF_shift f s j]; rfl
theorem takeF_at (f : Nat → Nat) : ∀ (k s j : Nat), j < (takeF f k s).length → (takeF f k s).getD j 0 = f (restF f s j) ∧ f (restF f s j) ≠ 0
  | 0, s, j, h => by simp [takeF] at h
  | k + 1, s, j, h => by
    rw [takeF] at h ⊢
    by_cases h0 : f s = 0
    · rw [if_pos h0] at h
      simp at h
    · rw [if_neg h0] at h ⊢
      cases j with
      | zero => exact ⟨rfl, h0⟩
      | succ j =>
        rw [restF_shift]
        have := takeF_at f k (dif s (f s)) j (by simpa using h)
        exact this
theorem takeF_len_le (f : Nat → Nat) : ∀ (k s : Nat), (takeF f k s).length ≤ k
  | 0, _ => Nat.le_refl _
  | k + 1, s => by
    rw [takeF]
    split
    · simp
    · have := takeF_len_le f k (dif s (f s))
      simp
      omega
theorem takeF_end (f : Nat → Nat) : ∀ (k s : Nat), (takeF f k s).length < k → f (restF f s (takeF f k s).length) = 0
  | 0, _, h => by simp [takeF] at h
  | k + 1, s, h => by
    rw [takeF] at h ⊢
    by_cases h0 : f s = 0
    · rw [if_pos h0]
      exact h0
    · rw [if_neg h0] at h ⊢
      rw [List.length_cons, restF_shift]
      exact takeF_end f k (dif s (f s)) (by simpa using h)
theorem cov_len {n : Nat} {r : Nat → Nat} (hn : n ≤ 8) (hr : RkOn n r) (hl : NoLoop n r) : ∀ (k s : Nat), s < 2 ^ n → cvN r s ≤ k → (takeF (cvF r) k s).length = cvN r s
  | 0, s, _, h => by rw [takeF]; simp; omega
  | k + 1, s, hs, h => by
    rw [takeF]
    by_cases h0 : s = 0
    · subst h0
      rw [if_pos (cvF_zero r), cvN_zero]
      rfl
    · rw [if_neg (cvF_ne hn hr hl hs h0), List.length_cons]
      have h1 := (cvF_spec hn hr hl hs h0).2.1
      rw [cov_len hn hr hl k _ (difn_lt hs) (by omega)]
      exact h1
/-- The whole cover. -/
def covL (n : Nat) (r : Nat → Nat) : List Nat := takeF (cvF r) 9 (2 ^ n - 1)
theorem covL_len {n : Nat} {r : Nat → Nat} (hn : n ≤ 8) (hr : RkOn n r) (hl : NoLoop n r) : (covL n r).length = cvN r (2 ^ n - 1) := by
  refine cov_len hn hr hl 9 _ (full_lt n) ?_
  have := (cvN_spec hn hr hl (full_lt n)).2.2
  have := pop_le _ (lt256 hn (full_lt n))
  omega
end Go.Proofs.YtfajbmcdkhgipaaDoor

namespace Go.Proofs.YtfajbmcdkhgipaaDoor

/-- The first k rows' first numbers, each times a power of 2. -/
def acN (n : Nat) (l : List Nat) (k : Nat) : Nat := match k with
  | 0 => 0
  | k + 1 => acN n l k + ttN n l k 0 * 2 ^ k
theorem acN_sum (n : Nat) (l : List Nat) : ∀ k, (acN n l k : Int) = tal (fun i => (ttN n l i 0 : Int) * 2 ^ i) (List.range k)
  | 0 => rfl
  | k + 1 => by
    rw [acN, tal_range, ← acN_sum n l k, Int.natCast_add, Int.natCast_mul, Int.natCast_pow]
    rfl
theorem acN_le {n : Nat} {l : List Nat} (hl : l.length ≤ 256) : ∀ k, acN n l k + 256 ≤ 256 * 2 ^ k
  | 0 => by rw [acN]; omega
  | k + 1 => by
    have ih := acN_le hl k (n := n)
    have h1 : ttN n l k 0 * 2 ^ k ≤ 256 * 2 ^ k := Nat.mul_le_mul_right _ (Nat.le_trans (ttN_le n l k 0) hl)
    rw [acN, Nat.pow_succ]
    omega
theorem acN_mono {n : Nat} {l : List Nat} (k : Nat) : acN n l k ≤ acN n l (k + 1) := by rw [acN]; omega
theorem pv_20 {n : Nat} {l : List Nat} (hf : Fam n l) (hb : Bas l) : pvZ n l 2 0 = acN n l (rk l (2 ^ n - 1) + 1) := by
  rw [acN_sum]
  unfold pvZ
  rw [tal_congr (G := fun i => wt n l fun a b => if a = i ∧ b = 0 then (2 : Int) ^ i else 0) fun i _ => ?_]
  · unfold wt
    rw [tal_swapT]
    refine tal_congr fun b hbl => ?_
    have h1 := actI_pop hf hb hbl
    by_cases h0 : pop (actO l b n) = 0
    · rw [h0, tal_congr (G := fun i => if pop (actI l b n) = i then (2 : Int) ^ i else 0) fun i _ => by simp, tal_pickT (fun i => (2 : Int) ^ i) (by omega)]
      simp
    · rw [tal_congr (G := fun _ => 0) fun i _ => if_neg fun c => h0 c.2, tal_zero]
      dsimp only
      rw [Int.zero_pow (by omega), Int.mul_zero]
  · rw [tt_wt]
    unfold wt
    rw [Int.mul_comm, ← tal_mul]
    refine tal_congr fun b _ => ?_
    dsimp only
    split
    · rw [Int.mul_one]
    · rw [Int.mul_zero]
end Go.Proofs.YtfajbmcdkhgipaaDoor

namespace Go.Proofs.YtfajbmcdkhgipaaDoor
open Classical

variable {E : List (Nat × Nat)} {n m : Nat} {l : List Nat}
/-- Directions of the first j edges, and colours. -/
noncomputable def recA (E : List (Nat × Nat)) (n q j K : Nat) : Int := tal (fun o => itr (fun _ => List.range q) n (godZ E K o j)) (List.range (2 ^ j))
noncomputable def recP (E : List (Nat × Nat)) (n : Nat) (x : Int) (j K : Nat) : Int := tal (fun s => sgn s * x ^ isleN n E (s ||| K)) (List.range (2 ^ j))
theorem itr_add {A : Nat → List Nat} : ∀ {n : Nat} {F G : (Nat → Nat) → Int}, itr A n (fun f => F f + G f) = itr A n F + itr A n G
  | 0, F, G => rfl
  | n + 1, F, G => by
    show tal _ _ = tal _ _ + tal _ _
    rw [← tal_add]
    exact tal_congr fun x _ => itr_add
theorem itr_nought {A : Nat → List Nat} {n : Nat} : itr A n (fun _ => 0) = 0 := by
  have := itr_mul (A := A) (n := n) (F := fun _ => 0) 0
  simpa using this
theorem top_or {j o : Nat} (ho : o < 2 ^ j) : 2 ^ j + o = o ||| 2 ^ j := by
  have := Nat.two_pow_add_eq_or_of_lt ho 1
  rw [Nat.mul_one] at this
  rw [this, Nat.or_comm]
theorem tal_two (F : Nat → Int) (j : Nat) : tal F (List.range (2 ^ (j + 1))) = tal (fun o => F o + F (o ||| 2 ^ j)) (List.range (2 ^ j)) := by
  rw [Nat.pow_succ, show 2 ^ j * 2 = 2 ^ j + 2 ^ j by omega, List.range_add, tal_append, tal_map, ← tal_add]
  exact tal_congr fun o ho => by rw [top_or (List.mem_range.1 ho)]
theorem recA_step {q j K : Nat} (hc : ¬ Conn E K (ea E j) (eb E j)) : recA E n q (j + 1) K = recA E n q j K + recA E n q j (K ||| 2 ^ j) := by
  unfold recA
  rw [tal_two, ← tal_add]
  refine tal_congr fun o ho => ?_
  rw [← itr_add, ← itr_add]
  exact itr_congr fun c _ _ => god_step (List.mem_range.1 ho) hc
theorem recA_loop {q j K : Nat} (hc : Conn E K (ea E j) (eb E j)) : recA E n q (j + 1) K = 0 := by
  unfold recA
  rw [tal_congr (G := fun _ => 0) fun o _ => ?_, tal_zero]
  rw [itr_congr (G := fun _ => 0) fun c _ _ => god_loop hc, itr_nought]
theorem recP_step {x : Int} {j K : Nat} (hj : j < 8) : recP E n x (j + 1) K = recP E n x j K - recP E n x j (K ||| 2 ^ j) := by
  unfold recP
  rw [tal_two, Int.sub_eq_add_neg, ← tal_neg, ← tal_add]
  refine tal_congr fun o ho => ?_
  rw [sgn_top hj (List.mem_range.1 ho), show o ||| 2 ^ j ||| K = o ||| (K ||| 2 ^ j) by rw [Nat.or_assoc, Nat.or_comm (2 ^ j)], Int.neg_mul]
theorem GrM.isle (h : GrM E n m l) {s : Nat} (hs : s < 2 ^ m) : isleN n E s = n - rk l s ∧ rk l s ≤ n := by
  have hm := h.len
  have h1 := h.rank s hs
  subst hm
  have h2 := isle_rank (n := n) (E := E) (s := s) h.ends hs
  have h3 : isleN n E s ≤ n := isleTo_le _ _
  omega
theorem GrM.recA_zero (h : GrM E n m l) {q K : Nat} (hq : 0 < q) (hK : K < 2 ^ m) : recA E n q 0 K = (q : Int) ^ isleN n E K := by
  obtain ⟨i1, i2⟩ := h.isle hK
  rw [i1, ← h.col hq hK i2]
  show itr _ n (godZ E K 0 0) + 0 = _
  rw [Int.add_zero]
  unfold colN
  refine itr_congr fun c _ _ => ?_
  unfold godZ
  refine ite_same ?_
  have hlo : lo K m = K := lo_all hK
  constructor
  · rintro ⟨-, h1, -⟩
    exact moB_iff.2 fun j _ hb => h1 _ _ (Conn.edge hb)
  · intro hmo
    refine ⟨fun i hi => by omega, fun u v hc => ?_, fun i hi => by omega⟩
    rw [← hlo] at hc
    exact moB_conn hmo hc
theorem neg_twice (q : Int) (k : Nat) : (-1 : Int) ^ k * (-q) ^ k = q ^ k := by
  rw [← Int.mul_pow]
  simp
/-- The recursion of both. -/
theorem GrM.recur (h : GrM E n m l) {q : Nat} (hq : 0 < q) : ∀ (j K : Nat), j ≤ m → K < 2 ^ m → recA E n q j K = (-1) ^ isleN n E K * recP E n (-(q : Int)) j K
  | 0, K, _, hK => by
    rw [h.recA_zero hq hK]
    show _ = _ * (sgn 0 * (-(q : Int)) ^ isleN n E (0 ||| K) + 0)
    rw [Nat.zero_or, Int.add_zero, show sgn 0 = 1 from rfl, Int.one_mul, neg_twice]
  | j + 1, K, hj, hK => by
    have hjm : j < E.length := by have := h.len; omega
    have hK2 : K ||| 2 ^ j < 2 ^ m := Nat.or_lt_two_pow hK (Nat.pow_lt_pow_right (by omega) (by omega))
    have hm := h.len
    rw [recP_step (by have := h.m8; omega)]
    by_cases hc : Conn E K (ea E j) (eb E j)
    · rw [recA_loop hc]
      have e : recP E n (-(q : Int)) j (K ||| 2 ^ j) = recP E n (-(q : Int)) j K := by
        unfold recP
        refine tal_congr fun s hs => ?_
        have hs2 : s < 2 ^ m := Nat.lt_of_lt_of_le (List.mem_range.1 hs) (Nat.pow_le_pow_right (by omega) (by omega))
        have h1 := isle_add (n := n) (E := E) (s := s ||| K) (by rw [← hm]; exact h.ends) (by rw [← hm]; exact Nat.or_lt_two_pow hs2 hK) hjm
        rw [if_pos (show depG E (s ||| K) j from hc.mono (by rw [Nat.or_comm]; exact sub_or _ _)), Nat.add_zero, Nat.or_assoc] at h1
        rw [h1]
      rw [e, Int.sub_self, Int.mul_zero]
    · rw [recA_step hc, GrM.recur h hq j K (by omega) hK, GrM.recur h hq j _ (by omega) hK2]
      have h1 := isle_add (n := n) (E := E) (s := K) (by rw [← hm]; exact h.ends) (by rw [← hm]; exact hK) hjm
      rw [if_neg (show ¬ depG E K j from hc)] at h1
      rw [h1, Int.pow_succ, Int.mul_sub]
      simp only [Int.mul_neg, Int.mul_one, Int.neg_mul]
      omega
/-- STANLEY's reciprocity. -/
theorem GrM.recip (h : GrM E n m l) {q : Nat} (hq : 0 < q) : recA E n q m 0 = (-1) ^ n * horN (ccF n (rk l (2 ^ m - 1)) (chrS (rk l) (rk l (2 ^ m - 1)) (2 ^ m))) (-(q : Int)) (n + 1) (n + 1) := by
  have hfull : 2 ^ m - 1 < 2 ^ m := Nat.sub_lt (Nat.two_pow_pos m) (by decide)
  have h0 := h.isle (s := 0) (Nat.two_pow_pos m)
  have hr0 : rk l 0 = 0 := by have := h.bas.rk.le 0; rw [show pop 0 = 0 from rfl] at this; omega
  rw [h.recur hq m 0 (Nat.le_refl _) (Nat.two_pow_pos m), h0.1, hr0, Nat.sub_zero, hor_shift _ _ (h.isle hfull).2, hor_chr, ← tal_mul]
  congr 1
  unfold recP
  refine tal_congr fun s hs => ?_
  have hs' := List.mem_range.1 hs
  have l2 := h.bas.rk.mono s (2 ^ m - 1) (full_sub hs')
  have l3 := (h.isle hfull).2
  rw [Nat.or_zero, (h.isle hs').1, Int.mul_left_comm, ← Int.pow_add]
  congr 2
  omega
end Go.Proofs.YtfajbmcdkhgipaaDoor

namespace Go.Proofs.YtfajbmcdkhgipaaDoor

/-- The first m edges, turned as o says. -/
def tunL (E : List (Nat × Nat)) (o m : Nat) : List (Nat × Nat) := (List.range m).map fun i => (sta E o i, sto E o i)
theorem tunL_len (E : List (Nat × Nat)) (o m : Nat) : (tunL E o m).length = m := by unfold tunL; simp
theorem tunL_succ (E : List (Nat × Nat)) (o m : Nat) : tunL E o (m + 1) = tunL E o m ++ [(sta E o m, sto E o m)] := by
  unfold tunL
  rw [List.range_succ, List.map_append]
  rfl
theorem tunL_get (E : List (Nat × Nat)) {o m i : Nat} (hi : i < m) : ea (tunL E o m) i = sta E o i ∧ eb (tunL E o m) i = sto E o i := by
  unfold ea eb tunL
  rw [List.getD_eq_getElem?_getD, List.getElem?_map, List.getElem?_range hi]
  exact ⟨rfl, rfl⟩
theorem tunL_cm (E : List (Nat × Nat)) (o m L v : Nat) : cmB (tunL E o m) 0 m L v = cmB E o m L v := by
  rw [Bool.eq_iff_iff, cmB_iff, cmB_iff]
  have key : ∀ i, i < m → sta (tunL E o m) 0 i = sta E o i ∧ sto (tunL E o m) 0 i = sto E o i := fun i hi => by
    obtain ⟨h1, h2⟩ := tunL_get E (o := o) hi
    unfold sta sto at *
    rw [Nat.zero_testBit]
    exact ⟨by simpa using h1, by simpa using h2⟩
  constructor
  · rintro ⟨i, hi, h1, h2⟩
    rw [(key i hi).1] at h2
    rw [(key i hi).2] at h1
    exact ⟨i, hi, h1, h2⟩
  · rintro ⟨i, hi, h1, h2⟩
    exact ⟨i, hi, by rw [(key i hi).2]; exact h1, by rw [(key i hi).1]; exact h2⟩
theorem tunL_rgP (E : List (Nat × Nat)) (o m L : Nat) : ∀ k, rgP (tunL E o m) 0 m L k = rgP E o m L k
  | 0 => rfl
  | k + 1 => by rw [rgP, rgP, tunL_rgP E o m L k]; unfold rgS; rw [tunL_cm]
theorem tunL_rgT (E : List (Nat × Nat)) (o m n : Nat) : ∀ t, rgT (tunL E o m) 0 m n t = rgT E o m n t
  | 0 => rfl
  | t + 1 => by rw [rgT, rgT, tunL_rgT E o m n t, tunL_rgP]
/-- The colours do not rise along the first j. -/
def falT (E : List (Nat × Nat)) (o : Nat) (f : Nat → Nat) (j : Nat) : Bool := (List.range j).all fun i => decide (f (sto E o i) ≤ f (sta E o i))
theorem falT_zero (E : List (Nat × Nat)) (o : Nat) (f : Nat → Nat) : falT E o f 0 = true := rfl
theorem falT_step (E : List (Nat × Nat)) (o : Nat) (f : Nat → Nat) (j : Nat) : falT E o f (j + 1) = (falT E o f j && decide (f (sto E o j) ≤ f (sta E o j))) := by simp [falT, List.range_succ]
theorem falT_iff {E : List (Nat × Nat)} {o m : Nat} {f : Nat → Nat} : falT E o f m = true ↔ Falls E 0 o m f := by
  unfold falT Falls
  rw [List.all_eq_true]
  constructor
  · intro h
    exact ⟨fun u v c => by rw [conn_zero c], fun i hi => of_decide_eq_true (h i (List.mem_range.2 hi))⟩
  · intro h i hi
    exact decide_eq_true (h.2 i (List.mem_range.1 hi))
/-- Of the codes below c. -/
def falC (E : List (Nat × Nat)) (o m n q c : Nat) : Int := tal (fun c => if falT E o (digF q n c) m = true then 1 else 0) (List.range c)
theorem falC_step (E : List (Nat × Nat)) (o m n q c : Nat) : falC E o m n q (c + 1) = falC E o m n q c + if falT E o (digF q n c) m = true then 1 else 0 := by
  unfold falC
  rw [tal_range]
theorem falC_le (E : List (Nat × Nat)) (o m n q : Nat) : ∀ c, 0 ≤ falC E o m n q c ∧ falC E o m n q c ≤ c
  | 0 => by unfold falC; simp [tal]
  | c + 1 => by
    have := falC_le E o m n q c
    rw [falC_step]
    split <;> omega
/-- Of the turns below s. -/
def allC (E : List (Nat × Nat)) (m n q s : Nat) : Int := tal (fun o => if rgT E o m n n = 0 then falC E o m n q (q ^ n) else 0) (List.range s)
theorem allC_step (E : List (Nat × Nat)) (m n q s : Nat) : allC E m n q (s + 1) = allC E m n q s + if rgT E s m n n = 0 then falC E s m n q (q ^ n) else 0 := by
  unfold allC
  rw [tal_range]
theorem allC_le (E : List (Nat × Nat)) (m n q : Nat) : ∀ s, 0 ≤ allC E m n q s ∧ allC E m n q s ≤ (s * q ^ n : Nat)
  | 0 => by unfold allC; simp [tal]
  | s + 1 => by
    have := allC_le E m n q s
    have h2 := falC_le E s m n q (q ^ n)
    rw [allC_step, Nat.succ_mul]
    split <;> omega
theorem allC_is {E : List (Nat × Nat)} {m n q : Nat} (hn : n ≤ 8) (hE : ∀ i, i < m → ea E i < n ∧ eb E i < n) : allC E m n q (2 ^ m) = recA E n q m 0 := by
  unfold allC recA
  refine tal_congr fun o _ => ?_
  have hS : ∀ i, i < m → sta E o i < n ∧ sto E o i < n := fun i hi => by
    have := hE i hi
    unfold sta sto
    split <;> omega
  rw [itr_code]
  by_cases h : rgT E o m n n = 0
  · rw [if_pos h]
    unfold falC
    refine tal_congr fun c _ => ?_
    unfold godZ
    refine @ite_same _ _ _ (Classical.propDecidable _) ?_
    rw [falT_iff]
    exact ⟨fun x => ⟨(ring_all hn hS).1 h, x⟩, fun x => x.2⟩
  · rw [if_neg h, tal_congr (G := fun _ => 0) fun c _ => ?_, tal_zero]
    unfold godZ
    exact if_neg fun x => h ((ring_all hn hS).2 x.1)
end Go.Proofs.YtfajbmcdkhgipaaDoor

namespace Go.Proofs.YtfajbmcdkhgipaaDoor

def isP (p : Int) : Prop := p = 2 ∨ p = 3 ∨ p = 5 ∨ p = 7
/-- The same modulo p, at the first six places. -/
def Cg (p : Int) (v w : Nat → Int) : Prop := ∀ r, r < 6 → (v r - w r) % p = 0
theorem Cg.refl (p : Int) (v : Nat → Int) : Cg p v v := fun r _ => by simp
theorem emod_neg {p a : Int} (h : a % p = 0) : (-a) % p = 0 := Int.emod_eq_zero_of_dvd (Int.dvd_neg.2 (Int.dvd_of_emod_eq_zero h))
theorem emod_add {p a b : Int} (h : a % p = 0) (k : b % p = 0) : (a + b) % p = 0 := Int.emod_eq_zero_of_dvd (Int.dvd_add (Int.dvd_of_emod_eq_zero h) (Int.dvd_of_emod_eq_zero k))
theorem emod_mul {p a : Int} (h : a % p = 0) (k : Int) : (k * a) % p = 0 := Int.emod_eq_zero_of_dvd (Int.dvd_mul_of_dvd_right (Int.dvd_of_emod_eq_zero h))
theorem Cg.symm {p : Int} {v w : Nat → Int} (h : Cg p v w) : Cg p w v := fun r hr => by
  have := emod_neg (h r hr)
  rwa [Int.neg_sub] at this
theorem Cg.trans {p : Int} {v w x : Nat → Int} (h : Cg p v w) (k : Cg p w x) : Cg p v x := fun r hr => by
  have := emod_add (h r hr) (k r hr)
  rwa [show v r - w r + (w r - x r) = v r - x r by omega] at this
theorem Cg.lin {p : Int} {v w x y : Nat → Int} (h : Cg p v w) (k : Cg p x y) (m : Int) : Cg p (fun r => v r + m * x r) (fun r => w r + m * y r) := fun r hr => by
  have := emod_add (h r hr) (emod_mul (k r hr) m)
  rwa [show v r - w r + m * (x r - y r) = v r + m * x r - (w r + m * y r) by rw [Int.mul_sub]; omega] at this
/-- Modulo a prime all but 0 has something that makes it 1. -/
theorem unit_of {p c : Int} (hp : isP p) (h : c % p ≠ 0) : ∃ e : Int, (e * c - 1) % p = 0 := by
  rcases hp with rfl | rfl | rfl | rfl
  · exact ⟨1, by omega⟩
  · rcases (by omega : c % 3 = 1 ∨ c % 3 = 2) with g | g
    · exact ⟨1, by omega⟩
    · exact ⟨2, by omega⟩
  · rcases (by omega : c % 5 = 1 ∨ c % 5 = 2 ∨ c % 5 = 3 ∨ c % 5 = 4) with g | g | g | g
    · exact ⟨1, by omega⟩
    · exact ⟨3, by omega⟩
    · exact ⟨2, by omega⟩
    · exact ⟨4, by omega⟩
  · rcases (by omega : c % 7 = 1 ∨ c % 7 = 2 ∨ c % 7 = 3 ∨ c % 7 = 4 ∨ c % 7 = 5 ∨ c % 7 = 6) with g | g | g | g | g | g
    · exact ⟨1, by omega⟩
    · exact ⟨4, by omega⟩
    · exact ⟨5, by omega⟩
    · exact ⟨2, by omega⟩
    · exact ⟨3, by omega⟩
    · exact ⟨6, by omega⟩
/-- The sums of multiples of vectors of S. -/
inductive Span (p : Int) (S : (Nat → Int) → Prop) : (Nat → Int) → Prop
  | zero : Span p S fun _ => 0
  | add {v x : Nat → Int} (k : Int) (h : Span p S v) (hx : S x) : Span p S fun r => v r + k * x r
  | cg {v w : Nat → Int} (hc : Cg p v w) (h : Span p S v) : Span p S w
variable {p : Int} {S T : (Nat → Int) → Prop}
theorem Span.of {x : Nat → Int} (h : S x) : Span p S x := .cg (fun r _ => by simp) (Span.add 1 .zero h)
theorem Span.lin {v w : Nat → Int} (hv : Span p S v) (hw : Span p S w) (k : Int) : Span p S fun r => v r + k * w r := by
  induction hw with
  | zero => exact .cg (fun r _ => by simp) hv
  | add m _ hx ih =>
    refine .cg (fun r _ => ?_) (Span.add (k * m) ih hx)
    rw [Int.mul_add, Int.mul_assoc, Int.add_assoc]
    simp
  | cg hc _ ih => exact .cg ((Cg.refl p v).lin hc k) ih
theorem Span.smul {w : Nat → Int} (hw : Span p S w) (k : Int) : Span p S fun r => k * w r := .cg (fun r _ => by simp) (Span.zero.lin hw k)
theorem Span.sub {v : Nat → Int} (h : Span p S v) (hST : ∀ x, S x → Span p T x) : Span p T v := by
  induction h with
  | zero => exact .zero
  | add k _ hx ih => exact ih.lin (hST _ hx) k
  | cg hc _ ih => exact .cg hc ih
theorem Span.mono {v : Nat → Int} (h : Span p S v) (hST : ∀ x, S x → T x) : Span p T v := h.sub fun x hx => .of (hST x hx)
theorem Span.one {v y : Nat → Int} (h : Span p (fun x => S x ∨ x = y) v) : ∃ k : Int, Span p S fun r => v r + k * y r := by
  induction h with
  | zero => exact ⟨0, .cg (fun r _ => by simp) .zero⟩
  | @add v x k _ hx ih =>
    obtain ⟨m, hm⟩ := ih
    rcases hx with hx | rfl
    · refine ⟨m, .cg (fun r _ => ?_) (Span.add k hm hx)⟩
      rw [show v r + m * y r + k * x r - (v r + k * x r + m * y r) = 0 by omega]
      simp
    · refine ⟨m - k, .cg (fun r _ => ?_) hm⟩
      rw [show v r + m * x r - (v r + k * x r + (m - k) * x r) = 0 by rw [Int.sub_mul]; omega]
      simp
  | cg hc _ ih =>
    obtain ⟨m, hm⟩ := ih
    exact ⟨m, .cg (hc.lin (Cg.refl p y) m) hm⟩
/-- Of what a multiple that can be turned back is a sum, it is one itself. -/
theorem Span.unit (hp : isP p) {w : Nat → Int} {c : Int} (hc : c % p ≠ 0) (h : Span p S fun r => c * w r) : Span p S w := by
  obtain ⟨e, he⟩ := unit_of hp hc
  refine .cg (fun r _ => ?_) (h.smul e)
  have := emod_mul he (w r)
  rwa [show w r * (e * c - 1) = e * (c * w r) - w r by rw [Int.mul_sub, Int.mul_one, Int.mul_comm, Int.mul_assoc]] at this
theorem Span.exch (hp : isP p) {v y : Nat → Int} (h : Span p (fun x => S x ∨ x = y) v) (hn : ¬ Span p S v) : Span p (fun x => S x ∨ x = v) y := by
  obtain ⟨k, hk⟩ := h.one
  have hk0 : k % p ≠ 0 := fun e => hn (.cg (fun r _ => by
    have := emod_mul e (y r)
    rwa [show y r * k = v r + k * y r - v r by rw [Int.mul_comm]; omega] at this) hk)
  refine Span.unit hp hk0 (.cg (fun r _ => ?_) ((hk.mono fun _ h => .inl h).lin (Span.of (S := fun x => S x ∨ x = v) (.inr rfl)) (-1)))
  rw [show v r + k * y r + -1 * v r - k * y r = 0 by omega]
  simp

/-- Column i hangs on those of s. -/
def depC (p : Int) (col : Nat → Nat → Int) (s i : Nat) : Prop := Span p (fun x => ∃ j, s.testBit j = true ∧ x = col j) (col i)
theorem depC_dep (hp : isP p) (col : Nat → Nat → Int) (n : Nat) : Dep n (depC p col) where
  self := fun s i _ _ h => .of ⟨i, h, rfl⟩
  mono := fun s t i _ _ _ hst h => h.mono fun x ⟨j, hj, e⟩ => ⟨j, subB_iff.1 hst j hj, e⟩
  trans := fun s i j _ _ _ h1 h2 => h2.sub fun x ⟨k, hk, e⟩ => by
    rw [or_bit] at hk
    by_cases hs : s.testBit k = true
    · exact .of ⟨k, hs, e⟩
    · have e2 : j = k := by simpa [Bool.eq_false_iff.2 hs] using hk
      subst e2
      rw [e]
      exact h1
  exch := fun s i j _ _ _ h1 h2 => by
    have h3 : Span p (fun x => (∃ k, s.testBit k = true ∧ x = col k) ∨ x = col i) (col j) := h2.mono fun x ⟨k, hk, e⟩ => by
      rw [or_bit] at hk
      by_cases hs : s.testBit k = true
      · exact .inl ⟨k, hs, e⟩
      · have e2 : i = k := by simpa [Bool.eq_false_iff.2 hs] using hk
        subst e2
        exact .inr e
    exact (h3.exch hp h1).mono fun x hx => by
      rcases hx with ⟨k, hk, e⟩ | e
      · exact ⟨k, by rw [or_bit, hk]; rfl, e⟩
      · exact ⟨j, by rw [or_bit]; simp, e⟩
end Go.Proofs.YtfajbmcdkhgipaaDoor

namespace Go.Proofs.YtfajbmcdkhgipaaDoor

/-- A sum of S that is nought at all places of A is nought. -/
def Piv (p : Int) (S : (Nat → Int) → Prop) (A : List Nat) : Prop := ∀ v, Span p S v → (∀ a ∈ A, v a % p = 0) → Cg p v fun _ => 0
theorem Piv.nil {p : Int} {S : (Nat → Int) → Prop} (hS : ∀ x, ¬ S x) : Piv p S [] := fun v h _ => by
  induction h with
  | zero => exact Cg.refl _ _
  | add k _ hx ih => exact absurd hx (hS _)
  | cg hc _ ih => exact hc.symm.trans (ih fun a ha => by cases ha)
theorem mul_unit {p a b : Int} (hp : isP p) (h : (a * b) % p = 0) (hb : b % p ≠ 0) : a % p = 0 := by
  obtain ⟨e, he⟩ := unit_of hp hb
  have h1 := emod_mul h e
  have h2 := emod_mul he a
  have h3 := emod_add h1 (emod_neg h2)
  rwa [show e * (a * b) + -(a * (e * b - 1)) = a by rw [Int.mul_sub, Int.mul_one, Int.mul_left_comm]; omega] at h3
/-- y stands for x: but for sums of S it is a multiple of x that can be turned back, and it is nought at A. -/
structure Stands (p : Int) (S : (Nat → Int) → Prop) (A : List Nat) (x y : Nat → Int) : Prop where
  ex : ∃ u : Int, u % p ≠ 0 ∧ Span p S fun r => y r + -u * x r
  at_ : ∀ a ∈ A, y a % p = 0
theorem Piv.snoc {p : Int} (hp : isP p) {S : (Nat → Int) → Prop} {A : List Nat} {x y : Nat → Int} (h : Piv p S A) (hs : Stands p S A x y) {b : Nat} (hb6 : b < 6) (hb : y b % p ≠ 0) : Piv p (fun z => S z ∨ z = x) (A ++ [b]) := fun v hv h0 => by
  obtain ⟨⟨u, hu, hy⟩, hya⟩ := hs
  obtain ⟨k, hk⟩ := hv.one
  obtain ⟨e, he⟩ := unit_of hp hu
  -- v + (k e) y is a sum of S
  have h1 : Span p S fun r => v r + (k * e) * y r := by
    refine .cg (fun r _ => ?_) (hk.lin hy (k * e))
    have h2 := emod_mul he (-(k * x r))
    rwa [show -(k * x r) * (e * u - 1) = v r + k * x r + k * e * (y r + -u * x r) - (v r + k * e * y r) by
      rw [Int.mul_sub, Int.mul_one, Int.mul_add, Int.neg_mul, Int.neg_mul, Int.mul_neg]
      rw [show k * x r * (e * u) = k * e * (u * x r) by rw [Int.mul_assoc, Int.mul_assoc, Int.mul_left_comm (x r), Int.mul_comm (x r)]]
      omega] at h2
  have h2 := h _ h1 fun a ha => by
    have e1 := h0 a (List.mem_append_left _ ha)
    have e2 := emod_mul (hya a ha) (k * e)
    exact emod_add e1 e2
  have hm : (k * e) % p = 0 := by
    refine mul_unit hp (b := y b) ?_ hb
    have e1 := h2 b hb6
    have e2 := h0 b (List.mem_append_right _ (List.mem_singleton.2 rfl))
    have e3 := emod_add e1 (emod_neg e2)
    rwa [show v b + k * e * y b - 0 + -v b = k * e * y b by omega] at e3
  intro r hr
  have e1 := h2 r hr
  have e2 := emod_mul hm (y r)
  have e3 := emod_add e1 (emod_neg e2)
  rwa [show v r + k * e * y r - 0 + -(y r * (k * e)) = v r - 0 by rw [Int.mul_comm (y r)]; omega] at e3
theorem Piv.test {p : Int} (hp : isP p) {S : (Nat → Int) → Prop} {A : List Nat} {x y : Nat → Int} (h : Piv p S A) (hs : Stands p S A x y) : Span p S x ↔ Cg p y fun _ => 0 := by
  obtain ⟨⟨u, hu, hy⟩, hya⟩ := hs
  constructor
  · intro hx
    refine h _ ?_ hya
    refine .cg (fun r _ => ?_) (hy.lin hx u)
    rw [show y r + -u * x r + u * x r - y r = 0 by rw [Int.neg_mul]; omega]
    simp
  · intro hc
    refine Span.unit hp hu (.cg (fun r hr => ?_) (hy.smul (-1)))
    have e1 := emod_neg (hc r hr)
    rwa [show -(y r - 0) = -1 * (y r + -u * x r) - u * x r by rw [Int.neg_mul u]; omega] at e1
/-- The first place that is not nought. -/
def leadN (v : Nat → Int) : Nat := ((List.range 6).find? fun r => v r != 0).getD 6
theorem leadN_none {v : Nat → Int} (h : leadN v = 6) : ∀ r, r < 6 → v r = 0 := fun r hr => by
  unfold leadN at h
  cases e : (List.range 6).find? fun r => v r != 0 with
  | none =>
    have := List.find?_eq_none.1 e r (List.mem_range.2 hr)
    simpa using this
  | some x =>
    rw [e, Option.getD_some] at h
    have := List.mem_range.1 (List.mem_of_find?_eq_some e)
    omega
theorem leadN_some {v : Nat → Int} (h : leadN v ≠ 6) : leadN v < 6 ∧ v (leadN v) ≠ 0 := by
  unfold leadN at h ⊢
  cases e : (List.range 6).find? fun r => v r != 0 with
  | none => rw [e] at h; exact absurd rfl h
  | some x =>
    rw [Option.getD_some]
    refine ⟨List.mem_range.1 (List.mem_of_find?_eq_some e), ?_⟩
    have := List.find?_some e
    simpa using this
/-- c, with nought where by is not. -/
def clrF (p : Int) (c by_ : Nat → Int) (at_ : Nat) (r : Nat) : Int := (c r * by_ at_ + by_ r * (p - c at_)) % p
/-- The columns as they stand when i have been used. -/
def elimV (p : Int) (o : Nat → Nat → Int) : Nat → Nat → Nat → Int
  | 0, k => o k
  | i + 1, k => if i < k then clrF p (elimV p o i k) (elimV p o i i) (leadN (elimV p o i i)) else elimV p o i k
theorem isP.pos {p : Int} (h : isP p) : 0 < p ∧ p ≤ 7 := by
  unfold isP at h
  omega
theorem elimV_in {p : Int} (hp : isP p) {o : Nat → Nat → Int} (ho : ∀ k r, 0 ≤ o k r ∧ o k r < p) : ∀ i k r, 0 ≤ elimV p o i k r ∧ elimV p o i k r < p
  | 0, k, r => ho k r
  | i + 1, k, r => by
    unfold elimV
    split
    · unfold clrF
      have := hp.pos
      exact ⟨Int.emod_nonneg _ (by omega), Int.emod_lt_of_pos _ this.1⟩
    · exact elimV_in hp ho i k r
theorem small_mod {p a : Int} (h0 : 0 ≤ a) (h1 : a < p) : a % p = 0 ↔ a = 0 := by
  rw [Int.emod_eq_of_lt h0 h1]
/-- The sets of those ahead. -/
def Fore (o : Nat → Nat → Int) (i : Nat) (x : Nat → Int) : Prop := ∃ j, j < i ∧ x = o j
theorem fore_succ (o : Nat → Nat → Int) (i : Nat) : Fore o (i + 1) = fun x => Fore o i x ∨ x = o i := by
  funext x
  unfold Fore
  refine propext ⟨?_, ?_⟩
  · rintro ⟨j, h1, h2⟩
    by_cases e : j = i
    · subst e; exact .inr h2
    · exact .inl ⟨j, by omega, h2⟩
  · rintro (⟨j, h1, h2⟩ | h)
    · exact ⟨j, by omega, h2⟩
    · exact ⟨i, by omega, h⟩
def pivA (p : Int) (o : Nat → Nat → Int) (i : Nat) : List Nat := (List.range i).map fun j => leadN (elimV p o j j)
theorem pivA_succ (p : Int) (o : Nat → Nat → Int) (i : Nat) : pivA p o (i + 1) = pivA p o i ++ [leadN (elimV p o i i)] := by
  unfold pivA
  rw [List.range_succ, List.map_append]
  rfl
theorem elim_inv {p : Int} (hp : isP p) {o : Nat → Nat → Int} (ho : ∀ k r, 0 ≤ o k r ∧ o k r < p) : ∀ i, (∀ j, j < i → leadN (elimV p o j j) ≠ 6) → (Piv p (Fore o i) (pivA p o i) ∧ (∀ a ∈ pivA p o i, a < 6)) ∧ ∀ k, i ≤ k → Stands p (Fore o i) (pivA p o i) (o k) (elimV p o i k) := by
  intro i
  induction i with
  | zero =>
    intro _
    refine ⟨⟨Piv.nil (fun x ⟨j, h, _⟩ => absurd h (Nat.not_lt_zero j)), fun a ha => by cases ha⟩, fun k _ => ⟨⟨1, ?_, ?_⟩, fun a ha => by cases ha⟩⟩
    · rcases hp with rfl | rfl | rfl | rfl <;> decide
    · refine .cg (fun r _ => ?_) .zero
      show (0 - (o k r + -1 * o k r)) % p = 0
      rw [show 0 - (o k r + -1 * o k r) = 0 by omega]
      simp
  | succ i ih =>
    intro hl
    obtain ⟨⟨i1, i2⟩, i3⟩ := ih fun j hj => hl j (by omega)
    have hli := leadN_some (hl i (by omega))
    have hin := elimV_in hp ho i i
    have hst := i3 i (Nat.le_refl _)
    have hne : elimV p o i i (leadN (elimV p o i i)) % p ≠ 0 := fun h => hli.2 ((small_mod (hin _).1 (hin _).2).1 h)
    rw [fore_succ, pivA_succ]
    refine ⟨⟨i1.snoc hp hst hli.1 hne, fun a ha => ?_⟩, fun k hk => ?_⟩
    · rcases List.mem_append.1 ha with ha | ha
      · exact i2 a ha
      · rw [List.mem_singleton.1 ha]; exact hli.1
    · obtain ⟨⟨u, hu, hy⟩, hya⟩ := i3 k (by omega)
      obtain ⟨⟨u', hu', hy'⟩, hya'⟩ := hst
      have e : elimV p o (i + 1) k = clrF p (elimV p o i k) (elimV p o i i) (leadN (elimV p o i i)) := by
        show (if i < k then _ else _) = _
        rw [if_pos (by omega)]
      rw [e]
      generalize elimV p o i k = yk at *
      generalize hb : leadN (elimV p o i i) = b at *
      generalize elimV p o i i = yi at *
      refine ⟨⟨u * yi b, ?_, ?_⟩, fun a ha => ?_⟩
      · intro h
        rw [Int.mul_comm] at h
        exact hne (mul_unit hp h hu)
      · -- clr = yk * yi b + yi * (p - yk b), modulo p
        have s1 : Span p (fun z => Fore o i z ∨ z = o i) fun r => yk r + -u * o k r := hy.mono fun _ h => .inl h
        have s2 : Span p (fun z => Fore o i z ∨ z = o i) yi := by
          refine .cg (fun r _ => ?_) ((hy'.mono fun _ h => .inl h).lin (Span.of (S := fun z => Fore o i z ∨ z = o i) (.inr rfl)) u')
          rw [show yi r + -u' * o i r + u' * o i r - yi r = 0 by rw [Int.neg_mul]; omega]
          simp
        refine .cg (fun r _ => ?_) ((s1.smul (yi b)).lin s2 (p - yk b))
        unfold clrF
        have h1 : (yk r * yi b + yi r * (p - yk b) - (yk r * yi b + yi r * (p - yk b)) % p) % p = 0 := by
          rw [Int.sub_emod, Int.emod_emod_of_dvd _ (Int.dvd_refl p), Int.sub_self]
          simp
        rwa [show yk r * yi b + yi r * (p - yk b) - (yk r * yi b + yi r * (p - yk b)) % p = yi b * (yk r + -u * o k r) + (p - yk b) * yi r - ((yk r * yi b + yi r * (p - yk b)) % p + -(u * yi b) * o k r) by
          rw [Int.mul_add, Int.neg_mul, Int.neg_mul, Int.mul_neg, Int.mul_comm (yi b) (yk r), Int.mul_comm (p - yk b) (yi r), show yi b * (u * o k r) = u * yi b * o k r by rw [Int.mul_left_comm, Int.mul_assoc]]
          omega] at h1
      · unfold clrF
        rw [Int.emod_emod_of_dvd _ (Int.dvd_refl p)]
        rcases List.mem_append.1 ha with ha | ha
        · have e1 := emod_mul (hya a ha) (yi b)
          have e2 := emod_mul (hya' a ha) (p - yk b)
          have e3 := emod_add e1 e2
          rwa [Int.mul_comm (yi b), Int.mul_comm (p - yk b)] at e3
        · rw [List.mem_singleton.1 ha, show yk b * yi b + yi b * (p - yk b) = yi b * p by rw [Int.mul_sub, Int.mul_comm (yk b)]; omega]
          exact Int.mul_emod_left _ _
/-- No column is cleared to nought just if none hangs on those ahead. -/
theorem elim_free {p : Int} (hp : isP p) {o : Nat → Nat → Int} (ho : ∀ k r, 0 ≤ o k r ∧ o k r < p) (n : Nat) : (∀ i, i < n → leadN (elimV p o i i) ≠ 6) ↔ ∀ i, i < n → ¬ Span p (Fore o i) (o i) := by
  induction n with
  | zero => exact ⟨fun _ i h => absurd h (Nat.not_lt_zero i), fun _ i h => absurd h (Nat.not_lt_zero i)⟩
  | succ n ih =>
    have key : (∀ i, i < n → leadN (elimV p o i i) ≠ 6) → (leadN (elimV p o n n) ≠ 6 ↔ ¬ Span p (Fore o n) (o n)) := fun h => by
      obtain ⟨⟨i1, i2⟩, i3⟩ := elim_inv hp ho n h
      rw [i1.test hp (i3 n (Nat.le_refl _))]
      have hin := elimV_in hp ho n n
      constructor
      · intro h1 h2
        have h3 := leadN_some h1
        have h4 := h2 _ h3.1
        rw [Int.sub_zero] at h4
        exact h3.2 ((small_mod (hin _).1 (hin _).2).1 h4)
      · intro h1 h2
        exact h1 fun r hr => by rw [leadN_none h2 r hr]; simp
    constructor
    · intro h i hi
      have h1 := ih.1 fun i hi => h i (by omega)
      by_cases e : i = n
      · subst e
        exact (key fun i hi => h i (by omega)).1 (h i hi)
      · exact h1 i (by omega)
    · intro h i hi
      have h1 := ih.2 fun i hi => h i (by omega)
      by_cases e : i = n
      · subst e
        exact (key h1).2 (h i hi)
      · exact h1 i (by omega)
end Go.Proofs.YtfajbmcdkhgipaaDoor
