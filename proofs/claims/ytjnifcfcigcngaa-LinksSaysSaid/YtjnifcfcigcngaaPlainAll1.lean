/- Plain mathematics of sets, matroids, graphs and lists, on which the walks rest. -/
import Derived.Test.YtjnifcfcigcngaaPlainAll
namespace Go.Proofs.Ytjnifcfcigcngaa

/-- One turn through the edges. -/
def parF (E : List (Nat × Nat)) (G s : Nat) : Nat → Nat
  | 0 => s
  | j + 1 => if s.testBit (ea E j) = true ∧ G.testBit (eb E j) = false then parF E G s j ||| 2 ^ eb E j else parF E G s j
theorem par_sub (E : List (Nat × Nat)) (G s : Nat) : ∀ j, subB s (parF E G s j) = true
  | 0 => sub_refl s
  | j + 1 => by
    rw [parF]
    split
    · exact sub_trans (par_sub E G s j) (sub_or _ _)
    · exact par_sub E G s j
theorem par_lt {E : List (Nat × Nat)} {n G s : Nat} (hs : s < 2 ^ n) (hE : ∀ j, j < E.length → eb E j < n) : ∀ j, j ≤ E.length → parF E G s j < 2 ^ n
  | 0, _ => hs
  | j + 1, hj => by
    rw [parF]
    have := par_lt (G := G) hs hE j (by omega)
    split
    · exact Nat.or_lt_two_pow this (Nat.pow_lt_pow_right (by decide) (hE j (by omega)))
    · exact this
theorem par_in {E : List (Nat × Nat)} {G s : Nat} : ∀ j i, i < j → s.testBit (ea E i) = true → G.testBit (eb E i) = false → (parF E G s j).testBit (eb E i) = true
  | 0, i, h, _, _ => absurd h (Nat.not_lt_zero i)
  | j + 1, i, h, h1, h2 => by
    rw [parF]
    by_cases e : i = j
    · subst e
      rw [if_pos ⟨h1, h2⟩, orb, Nat.testBit_two_pow]
      exact Or.inr (by simp)
    · have := par_in j i (by omega) h1 h2
      split
      · rw [orb]; exact Or.inl this
      · exact this
/-- What the document has reached so far. -/
structure Par (E : List (Nat × Nat)) (n F G s : Nat) : Prop where
  lt : s < 2 ^ n
  has : ∀ v, F.testBit v = true → G.testBit v = false → s.testBit v = true
  all : ∀ v, s.testBit v = true → Rch (nxF E E.length) (dif (2 ^ n - 1) G) F v
theorem Par.start {E : List (Nat × Nat)} {n F G : Nat} (hF : F < 2 ^ n) : Par E n F G (dif F G) :=
  ⟨dif_ltn hF, fun v a b => dif_in.2 ⟨a, b⟩, fun v a => by
    rw [dif_in] at a
    exact Rch.here a.1 (dif_in.2 ⟨by rw [full_bit]; exact decide_eq_true (bit_n hF a.1), a.2⟩)⟩
theorem Par.turn {E : List (Nat × Nat)} {n F G s : Nat} (hE : ∀ j, j < E.length → eb E j < n) (h : Par E n F G s) : ∀ j, j ≤ E.length → Par E n F G (parF E G s j)
  | 0, _ => h
  | j + 1, hj => by
    have ih := Par.turn hE h j (by omega)
    rw [parF]
    split
    · rename_i c
      have hb := hE j (by omega)
      refine ⟨Nat.or_lt_two_pow ih.lt (Nat.pow_lt_pow_right (by decide) hb), fun v a b => by rw [orb]; exact Or.inl (ih.has v a b), fun v a => ?_⟩
      rw [orb, Nat.testBit_two_pow, decide_eq_true_eq] at a
      rcases a with a | a
      · exact ih.all v a
      · subst a
        exact (h.all _ c.1).step ((nx_bit _ _ _).2 ⟨j, by omega, rfl, rfl⟩) (dif_in.2 ⟨by rw [full_bit]; exact decide_eq_true hb, c.2⟩)
    · exact ih
theorem Par.done {E : List (Nat × Nat)} {n F G s : Nat} (hn : n ≤ 8) (h : Par E n F G s) (e : parF E G s E.length = s) : s = rchS (nxF E E.length) n (dif (2 ^ n - 1) G) F := bits_ext fun v => by
  rw [rch_bit hn (dif_ltn (full_lt n))]
  refine ⟨h.all v, fun r => r.ind (P := fun v => s.testBit v = true) (fun x a b => h.has x a (dif_in.1 b).2) (fun x y _ p a b => ?_)⟩
  obtain ⟨j, h1, h2, h3⟩ := (nx_bit _ _ _).1 a
  subst h2
  subst h3
  rw [← e]
  exact par_in _ j h1 p (dif_in.1 b).2
/-- The document's first of the smallest cuts, so far: -1: none. -/
def barW (p : Nat → Bool) : Nat → Int
  | 0 => -1
  | k + 1 => if p k = true ∧ (barW p k < 0 ∨ pop k < pop (barW p k).toNat) then k else barW p k
theorem barW_spec {p : Nat → Bool} : ∀ k, (barW p k = -1 ∧ ∀ s, s < k → p s = false) ∨ ∃ c, barW p k = (c : Nat) ∧ c < k ∧ p c = true ∧ ∀ s, s < k → p s = true → pop c < pop s ∨ pop c = pop s ∧ c ≤ s
  | 0 => Or.inl ⟨rfl, fun s hs => by omega⟩
  | k + 1 => by
    rw [barW]
    rcases barW_spec (p := p) k with ⟨h1, h2⟩ | ⟨c, h1, h2, h3, h4⟩
    · by_cases hk : p k = true
      · rw [if_pos ⟨hk, Or.inl (by omega)⟩]
        refine Or.inr ⟨k, rfl, by omega, hk, fun s hs hp => ?_⟩
        rcases Nat.lt_or_ge s k with g | g
        · rw [h2 s g] at hp; cases hp
        · have : s = k := by omega
          subst this
          exact Or.inr ⟨rfl, Nat.le_refl _⟩
      · rw [if_neg (fun g => hk g.1)]
        refine Or.inl ⟨h1, fun s hs => ?_⟩
        rcases Nat.lt_or_ge s k with g | g
        · exact h2 s g
        · have : s = k := by omega
          subst this
          simpa using hk
    · by_cases hk : p k = true ∧ (barW p k < 0 ∨ pop k < pop (barW p k).toNat)
      · rw [if_pos hk]
        have hlt : pop k < pop c := by
          rcases hk.2 with g | g
          · omega
          · rw [h1, Int.toNat_natCast] at g; exact g
        refine Or.inr ⟨k, rfl, by omega, hk.1, fun s hs hp => ?_⟩
        rcases Nat.lt_or_ge s k with g | g
        · have := h4 s g hp
          omega
        · have : s = k := by omega
          subst this
          exact Or.inr ⟨rfl, Nat.le_refl _⟩
      · rw [if_neg hk]
        refine Or.inr ⟨c, h1, by omega, h3, fun s hs hp => ?_⟩
        rcases Nat.lt_or_ge s k with g | g
        · exact h4 s g hp
        · have e : s = k := by omega
          subst e
          have : ¬ pop s < pop c := fun g => hk ⟨hp, Or.inr (by rw [h1, Int.toNat_natCast]; exact g)⟩
          omega
theorem barW_cut {f : Nat → Nat} {n F T : Nat} (hn : n ≤ 8) : barW (cutB f n (2 ^ n - 1) F T) (2 ^ n) = (cutV f n (2 ^ n - 1) F T : Nat) := by
  have hL := full_lt n
  rcases barW_spec (p := cutB f n (2 ^ n - 1) F T) (2 ^ n) with ⟨_, h2⟩ | ⟨c, h1, h2, h3, h4⟩
  · have := h2 _ hL
    rw [(cutB_iff hn hL).2 (cut_all hL)] at this
    cases this
  · rw [h1]
    have : Few n f (2 ^ n - 1) F T c := ⟨h2, (cutB_iff hn hL).1 h3, fun s hs k => h4 s hs ((cutB_iff hn hL).2 k)⟩
    rw [this.uniq (cutV_few hn hL)]
theorem barW_lt {p : Nat → Bool} (k : Nat) : -1 ≤ barW p k ∧ barW p k < k := by
  rcases barW_spec (p := p) k with ⟨h1, _⟩ | ⟨c, h1, h2, _⟩ <;> omega
end Go.Proofs.Ytjnifcfcigcngaa

namespace Go.Proofs.Ytjnifcfcigcngaa

/-- What each set of the first elements becomes. -/
def imgs (p : List Nat) : List Nat := p.foldl (fun im x => im ++ im.map (· ||| 2 ^ x)) [0]
theorem imgs_snoc (p : List Nat) (x : Nat) : imgs (p ++ [x]) = imgs p ++ (imgs p).map (· ||| 2 ^ x) := by
  unfold imgs
  rw [List.foldl_append]
  rfl
theorem snoc_cases {p : List Nat} : p = [] ∨ ∃ q x, p = q ++ [x] := by
  rcases List.eq_nil_or_concat p with h | ⟨q, x, h⟩
  · exact .inl h
  · exact .inr ⟨q, x, by simpa using h⟩
theorem imgs_len : ∀ (k : Nat) (p : List Nat), p.length = k → (imgs p).length = 2 ^ k
  | 0, p, h => by rw [List.length_eq_zero_iff] at h; subst h; rfl
  | k + 1, p, h => by
    rcases snoc_cases (p := p) with rfl | ⟨q, x, rfl⟩
    · simp at h
    · have hq : q.length = k := by simpa using h
      rw [imgs_snoc, List.length_append, List.length_map, imgs_len k q hq, Nat.pow_succ]
      omega
/-- What a set becomes, bit by bit. -/
def image (p : List Nat) (s : Nat) : Nat := (List.range p.length).foldl (fun u i => if s.testBit i = true then u ||| 2 ^ p.getD i 0 else u) 0
theorem or_fold_bit {p : List Nat} {s j : Nat} : ∀ (L : List Nat) (u : Nat), (L.foldl (fun u i => if s.testBit i = true then u ||| 2 ^ p.getD i 0 else u) u).testBit j = (u.testBit j || L.any fun i => s.testBit i && decide (p.getD i 0 = j))
  | [], u => by simp
  | i :: L, u => by
    rw [List.foldl_cons, or_fold_bit L]
    by_cases h : s.testBit i = true
    · rw [if_pos h, Nat.testBit_or, Nat.testBit_two_pow]
      simp [h, Bool.or_assoc]
    · rw [if_neg h]
      simp [h]
theorem image_bit {p : List Nat} {s j : Nat} : (image p s).testBit j = (List.range p.length).any fun i => s.testBit i && decide (p.getD i 0 = j) := by
  unfold image
  rw [or_fold_bit]
  simp
/-- A loop that may be left: is more wanted, and the state. -/
def loopO {σ : Type} (step : σ → Nat → Bool × σ) : List Nat → σ → Bool × σ
  | [], s => (true, s)
  | x :: xs, s => if (step s x).1 = true then loopO step xs (step s x).2 else step s x
/-- The walk through the orders that begin with p (k elements are missing), as long as more are wanted. -/
def walkO {σ : Type} (fit : σ → List Nat → Bool) (fnd : σ → List Nat → Bool × σ) (n : Nat) : Nat → σ → List Nat → Bool × σ
  | 0, s, p => fnd s p
  | k + 1, s, p => loopO (fun s x => if x ∈ p then (true, s) else if fit s (p ++ [x]) = true then walkO fit fnd n k s (p ++ [x]) else (true, s)) (List.range n) s
/-- All orders that go on from p, in order. -/
def goes (n : Nat) : Nat → List Nat → List (List Nat)
  | 0, p => [p]
  | k + 1, p => (List.range n).flatMap fun x => if x ∈ p then [] else goes n k (p ++ [x])
theorem loopO_append {σ : Type} (step : σ → Nat → Bool × σ) : ∀ (xs ys : List Nat) (s : σ), loopO step (xs ++ ys) s = if (loopO step xs s).1 = true then loopO step ys (loopO step xs s).2 else loopO step xs s
  | [], ys, s => by simp [loopO]
  | x :: xs, ys, s => by
    rw [List.cons_append, loopO]
    by_cases h : (step s x).1 = true
    · rw [if_pos h, loopO_append step xs ys, loopO, if_pos h]
    · rw [if_neg h, loopO, if_neg h, if_neg h]
theorem image_snoc (q : List Nat) (x s : Nat) : image (q ++ [x]) s = image q s ||| if s.testBit q.length = true then 2 ^ x else 0 := by
  refine Nat.eq_of_testBit_eq fun j => ?_
  rw [Nat.testBit_or, image_bit, image_bit, List.length_append, List.length_singleton, List.range_succ, List.any_append]
  have e : ((List.range q.length).any fun i => s.testBit i && decide ((q ++ [x]).getD i 0 = j)) = (List.range q.length).any fun i => s.testBit i && decide (q.getD i 0 = j) := by
    have e1 : ∀ i, i < q.length → (q ++ [x]).getD i 0 = q.getD i 0 := fun i hi => by simp only [List.getD, List.getElem?_append_left hi]
    rw [Bool.eq_iff_iff, List.any_eq_true, List.any_eq_true]
    constructor
    · rintro ⟨i, hi, h⟩
      rw [e1 i (List.mem_range.1 hi)] at h
      exact ⟨i, hi, h⟩
    · rintro ⟨i, hi, h⟩
      rw [← e1 i (List.mem_range.1 hi)] at h
      exact ⟨i, hi, h⟩
  rw [e]
  congr 1
  by_cases h : s.testBit q.length = true
  · rw [if_pos h, Nat.testBit_two_pow]
    simp [h, List.getD]
  · rw [if_neg h]
    simp [h]
theorem image_low (q : List Nat) {k s t : Nat} (hk : q.length ≤ k) (h : ∀ i, i < k → s.testBit i = t.testBit i) : image q s = image q t := by
  refine Nat.eq_of_testBit_eq fun j => ?_
  rw [image_bit, image_bit, Bool.eq_iff_iff, List.any_eq_true, List.any_eq_true]
  constructor <;> rintro ⟨i, hi, h9⟩ <;> refine ⟨i, hi, ?_⟩ <;> rw [List.mem_range] at hi
  · rw [← h i (by omega)]; exact h9
  · rw [h i (by omega)]; exact h9
/-- The list of images holds each set's. -/
theorem imgs_at : ∀ (k : Nat) (p : List Nat), p.length = k → ∀ s, s < 2 ^ k → (imgs p).getD s 0 = image p s
  | 0, p, h, s, hs => by
    rw [List.length_eq_zero_iff] at h
    subst h
    have : s = 0 := by omega
    subst this
    rfl
  | k + 1, p, h, s, hs => by
    rcases snoc_cases (p := p) with rfl | ⟨q, x, rfl⟩
    · simp at h
    · have hq : q.length = k := by simpa using h
      have hl := imgs_len k q hq
      rw [imgs_snoc, image_snoc, hq]
      by_cases hlt : s < 2 ^ k
      · have hb : s.testBit k = false := Nat.testBit_lt_two_pow hlt
        have := imgs_at k q hq s hlt
        simp only [List.getD] at this ⊢
        rw [List.getElem?_append_left (by omega), this, hb]
        simp
      · have hb : s.testBit k = true := by
          rw [Nat.testBit_eq_decide_div_mod_eq]
          have : s / 2 ^ k = 1 := Nat.div_eq_of_lt_le (by omega) (by rw [Nat.pow_succ] at hs; omega)
          rw [this]
          rfl
        have ht : s - 2 ^ k < 2 ^ k := by rw [Nat.pow_succ] at hs; omega
        have hi := imgs_at k q hq (s - 2 ^ k) ht
        have hm : image q (s - 2 ^ k) = image q s := image_low q (Nat.le_of_eq hq) fun i hi => by
          have e : s = 2 ^ k + (s - 2 ^ k) := by omega
          conv => rhs; rw [e]
          rw [Nat.testBit_two_pow_add_gt hi]
        simp only [List.getD] at hi ⊢
        rw [List.getElem?_append_right (by omega), hl, List.getElem?_map]
        rw [List.getElem?_eq_getElem (by omega)] at hi ⊢
        simp only [Option.getD_some, Option.map_some] at hi ⊢
        rw [hi, hm, hb]
        simp
/-- The orders all of whose beginnings fit, in order. -/
def goesF (fit : List Nat → Bool) (n : Nat) : Nat → List Nat → List (List Nat)
  | 0, p => [p]
  | k + 1, p => (List.range n).flatMap fun x => if x ∈ p then [] else if fit (p ++ [x]) = true then goesF fit n k (p ++ [x]) else []
/-- A loop over orders that may be left. -/
def loopL {σ : Type} (fnd : σ → List Nat → Bool × σ) : List (List Nat) → σ → Bool × σ
  | [], s => (true, s)
  | q :: qs, s => if (fnd s q).1 = true then loopL fnd qs (fnd s q).2 else fnd s q
theorem loopL_append {σ : Type} (fnd : σ → List Nat → Bool × σ) : ∀ (xs ys : List (List Nat)) (s : σ), loopL fnd (xs ++ ys) s = if (loopL fnd xs s).1 = true then loopL fnd ys (loopL fnd xs s).2 else loopL fnd xs s
  | [], ys, s => by simp [loopL]
  | x :: xs, ys, s => by
    rw [List.cons_append, loopL]
    by_cases h : (fnd s x).1 = true
    · rw [if_pos h, loopL_append fnd xs ys, loopL, if_pos h]
    · rw [if_neg h, loopL, if_neg h, if_neg h]
/-- Where what fits does not hang on the state, the walk goes through a list. -/
theorem walkO_eq {σ : Type} (fit : List Nat → Bool) (fnd : σ → List Nat → Bool × σ) (n : Nat) : ∀ (k : Nat) (s : σ) (p : List Nat), walkO (fun _ => fit) fnd n k s p = loopL fnd (goesF fit n k p) s
  | 0, s, p => by
    rw [walkO, goesF, loopL]
    by_cases h : (fnd s p).1 = true
    · rw [if_pos h, loopL, ← h]
    · rw [if_neg h]
  | k + 1, s, p => by
    rw [walkO, goesF]
    generalize List.range n = xs
    induction xs generalizing s with
    | nil => rfl
    | cons x xs ih =>
      rw [List.flatMap_cons, loopL_append, loopO]
      by_cases hx : x ∈ p
      · simp only [if_pos hx, loopL, if_true]
        exact ih s
      · by_cases hf : fit (p ++ [x]) = true
        · simp only [if_neg hx, if_pos hf]
          rw [walkO_eq fit fnd n k s (p ++ [x])]
          split
          · exact ih _
          · rfl
        · simp only [if_neg hx, if_neg hf, loopL, if_true]
          exact ih s
end Go.Proofs.Ytjnifcfcigcngaa

namespace Go.Proofs.Ytjnifcfcigcngaa

/-- What is left behind these ways. -/
def lefW (L : Nat) (ws : List (List Nat)) : Nat := ws.foldl setW L
theorem lefW_snoc (L : Nat) (ws : List (List Nat)) (W : List Nat) : lefW L (ws ++ [W]) = setW (lefW L ws) W := by
  unfold lefW
  rw [List.foldl_append]
  rfl
theorem lefW_take {L : Nat} {ws : List (List Nat)} {i : Nat} (h : i < ws.length) : lefW L (ws.take (i + 1)) = setW (lefW L (ws.take i)) (ws.getD i []) := by
  rw [List.take_add_one, List.getElem?_eq_getElem h, List.getD_eq_getElem?_getD, List.getElem?_eq_getElem h]
  exact lefW_snoc _ _ _
theorem lefW_lt {n : Nat} : ∀ (ws : List (List Nat)) (L : Nat), L < 2 ^ n → lefW L ws < 2 ^ n
  | [], _, h => h
  | W :: ws, L, h => lefW_lt ws (setW L W) (setW_lt W L h)
theorem wys_list {f : Nat → Nat} {n T F : Nat} (hn : n ≤ 8) (hF : F < 2 ^ n) (h : lkB f n T (2 ^ n - 1) F = true) : ∀ k, k ≤ n → (wysF f n T F k).1 = lefW (2 ^ n - 1) (wysF f n T F k).2 ∧
    (∀ i, i < (wysF f n T F k).2.length → okW f T (lefW (2 ^ n - 1) ((wysF f n T F k).2.take i)) ((wysF f n T F k).2.getD i [])) ∧
    (wysF f n T F k).2.map (fun W => W.getD 0 0) = (List.range k).filter fun v => F.testBit v
  | 0, _ => ⟨rfl, fun i hi => absurd hi (Nat.not_lt_zero i), rfl⟩
  | k + 1, hk => by
    obtain ⟨h1, h2, h3⟩ := wys_list hn hF h k (by omega)
    cases e : F.testBit k
    · rw [wys_miss e]
      refine ⟨h1, h2, ?_⟩
      rw [h3, List.range_succ, List.filter_append]
      simp [e]
    · have hw := wys_way hn hF h (by omega : k < n) e
      have ok := (way_ok hn _ _ _ hw).1
      obtain ⟨r, hr⟩ := way_head (f := f) (n := n) (T := T) (B := hiB F (k + 1)) (k := n) (L := (wysF f n T F k).1) (v := k)
      rw [wys_hit e]
      refine ⟨by rw [lefW_snoc, ← h1], fun i hi => ?_, ?_⟩
      · rw [List.length_append] at hi
        by_cases g : i < (wysF f n T F k).2.length
        · rw [List.take_append_of_le_length (by omega), List.getD_eq_getElem?_getD, List.getElem?_append_left g, ← List.getD_eq_getElem?_getD]
          exact h2 i g
        · obtain rfl : i = (wysF f n T F k).2.length := by simp at hi; omega
          rw [List.take_left, ← h1, List.getD_eq_getElem?_getD, List.getElem?_append_right (Nat.le_refl _)]
          simp
          exact ok
      · rw [List.map_append, h3, List.range_succ, List.filter_append, hr]
        simp [e]
theorem els_n {n s : Nat} (hn : n ≤ 8) (hs : s < 2 ^ n) : (List.range n).filter (fun v => s.testBit v) = els s := by
  unfold els
  rw [show List.range 8 = List.range n ++ (List.range (8 - n)).map (n + ·) by rw [← List.range_add]; congr 1; omega, List.filter_append]
  have : ((List.range (8 - n)).map (n + ·)).filter (fun i => s.testBit i) = [] := by
    rw [List.filter_eq_nil_iff]
    intro i hi h
    obtain ⟨j, _, rfl⟩ := List.mem_map.1 hi
    have := bit_n hs h
    omega
  rw [this, List.append_nil]
/-- What the law looks at, way by way. -/
structure WysL (f : Nat → Nat) (n T F : Nat) (ws : List (List Nat)) : Prop where
  len : ws.length = (els F).length
  at0 : ∀ i, i < ws.length → (ws.getD i []).getD 0 0 = (els F).getD i 0
  ok : ∀ i, i < ws.length → okW f T (lefW (2 ^ n - 1) (ws.take i)) (ws.getD i [])
theorem wys_law {f : Nat → Nat} {n T F : Nat} (hn : n ≤ 8) (hF : F < 2 ^ n) (h : lkB f n T (2 ^ n - 1) F = true) : WysL f n T F (wysF f n T F n).2 := by
  obtain ⟨_, h2, h3⟩ := wys_list hn hF h n (Nat.le_refl _)
  rw [els_n hn hF] at h3
  refine ⟨by rw [← h3, List.length_map], fun i hi => ?_, h2⟩
  rw [← h3, List.getD_eq_getElem?_getD (l := List.map _ _), List.getElem?_map, List.getD_eq_getElem?_getD (l := (wysF f n T F n).2), List.getElem?_eq_getElem hi]
  rfl
/-- What has been used: what is not left. -/
theorem used_step {n L v : Nat} (hv : v < n) : dif (2 ^ n - 1) (dif L (2 ^ v)) = dif (2 ^ n - 1) L ||| 2 ^ v := bits_ext fun j => by
  rw [orb, dif_in, dif_in, full_bit, decide_eq_true_eq, Nat.testBit_two_pow, decide_eq_true_eq, dif_bit, Nat.testBit_two_pow]
  constructor
  · rintro ⟨h1, h2⟩
    by_cases e : v = j
    · exact Or.inr e
    · left
      refine ⟨h1, ?_⟩
      cases c : L.testBit j
      · rfl
      · simp [c, e] at h2
  · rintro (⟨h1, h2⟩ | h)
    · exact ⟨h1, by simp [h2]⟩
    · subst h
      exact ⟨hv, by simp⟩
theorem used_not {n L v : Nat} (h : L.testBit v = true) : (dif (2 ^ n - 1) L).testBit v = false := by
  cases e : (dif (2 ^ n - 1) L).testBit v
  · rfl
  · rw [dif_in, h] at e
    cases e.2
end Go.Proofs.Ytjnifcfcigcngaa

namespace Go.Proofs.Ytjnifcfcigcngaa

/-- What the search from v within L answers. -/
def ebW (f : Nat → Nat) (n T B L v : Nat) : Bool := lkB f n T L (B ||| 2 ^ v) && !B.testBit v
theorem lk_ge {f : Nat → Nat} {n T L B s : Nat} (hn : n ≤ 8) (hL : L < 2 ^ n) (hB : B < 2 ^ n) (h : lkB f n T L B = true) (hs : s < 2 ^ n) (hc : CutS f L B T s) : pop B ≤ pop s := by
  rw [lk_iff] at h
  rw [← h]
  exact (lnkR_few hn hL).le hB hs hc
theorem lk_of {f : Nat → Nat} {n T L B : Nat} (hn : n ≤ 8) (hL : L < 2 ^ n) (hB : B < 2 ^ n) (h : ∀ s, s < 2 ^ n → CutS f L B T s → pop B ≤ pop s) : lkB f n T L B = true := by
  rw [lk_iff]
  have h1 := ((lnkR_few (f := f) (T := T) hn hL).rkOn hL).le B hB
  obtain ⟨c, h2, h3⟩ := lnkR_few (f := f) (T := T) hn hL B hB
  have h4 := h c h2.lt h2.cut
  omega
theorem cut_less {f : Nat → Nat} {L B T c v : Nat} (h : CutS f L (B ||| 2 ^ v) T c) : CutS f (dif L (2 ^ v)) B T (dif c (2 ^ v)) := fun x hx q => h x hx (q.mono (fun y a _ => by rw [orb]; exact Or.inl a) (fun y a => by
  rw [dif_in, dif_in, dif_bit] at a
  refine dif_in.2 ⟨a.1.1, ?_⟩
  have h1 := a.1.2
  have h2 := a.2
  rw [h1] at h2
  simpa using h2))
theorem not_both {f : Nat → Nat} {n T L B v : Nat} (hn : n ≤ 8) (hL : L < 2 ^ n) (hB : B < 2 ^ n) (h : lkB f n T (dif L (2 ^ v)) B = true) : B.testBit v = false := by
  cases e : B.testBit v
  · rfl
  · have := lk_in hn (dif_ltn hL) hB h e
    rw [dif_in, Nat.testBit_two_pow] at this
    exact absurd this.2 (by simp)
theorem eb_end {f : Nat → Nat} {n T B L v : Nat} (hn : n ≤ 8) (hL : L < 2 ^ n) (hB : B < 2 ^ n) (hv : L.testBit v = true) (hT : T.testBit v = true) (h : lkB f n T (dif L (2 ^ v)) B = true) : ebW f n T B L v = true := by
  have hvn := bit_n hL hv
  have hBv := not_both hn hL hB h
  have hlt := Nat.or_lt_two_pow hB (Nat.pow_lt_pow_right (by decide) hvn : 2 ^ v < 2 ^ n)
  unfold ebW
  rw [hBv, lk_of hn hL hlt fun s hs hc => ?_]
  · rfl
  · have hsv : s.testBit v = true := by
      cases e : s.testBit v
      · exact absurd (Rch.here (by rw [orb, Nat.testBit_two_pow]; exact Or.inr (by simp)) (dif_in.2 ⟨hv, e⟩)) (hc v hT)
      · rfl
    have h1 := lk_ge hn (dif_ltn hL) hB h (dif_ltn hs) (cut_less hc)
    have h2 := dif_less hn hs hsv
    rw [pop_oneW hn hB hvn hBv]
    omega
theorem eb_on {f : Nat → Nat} {n T B L v u : Nat} (hn : n ≤ 8) (hL : L < 2 ^ n) (hB : B < 2 ^ n) (hv : L.testBit v = true) (hu : u < n) (hf : (f v).testBit u = true) (h : ebW f n T B (dif L (2 ^ v)) u = true) : ebW f n T B L v = true := by
  unfold ebW at h
  rw [Bool.and_eq_true, Bool.not_eq_true'] at h
  have hvn := bit_n hL hv
  have hut := Nat.or_lt_two_pow hB (Nat.pow_lt_pow_right (by decide) hu : 2 ^ u < 2 ^ n)
  have hB2 := lk_sub hn (dif_ltn hL) hut h.1 (sub_or B _)
  have hBv := not_both hn hL hB hB2
  have huL : (dif L (2 ^ v)).testBit u = true := lk_in hn (dif_ltn hL) hut h.1 (by rw [orb, Nat.testBit_two_pow]; exact Or.inr (by simp))
  have hlt := Nat.or_lt_two_pow hB (Nat.pow_lt_pow_right (by decide) hvn : 2 ^ v < 2 ^ n)
  unfold ebW
  rw [hBv, lk_of hn hL hlt fun s hs hc => ?_]
  · rfl
  · rw [pop_oneW hn hB hvn hBv]
    cases hsv : s.testBit v
    · have h1 := lk_ge hn (dif_ltn hL) hut h.1 hs (fun x hx q => hc x hx (by
        have hsub : ∀ y, (dif (dif L (2 ^ v)) s).testBit y = true → (dif L s).testBit y = true := fun y a => by
          rw [dif_in, dif_in] at a
          exact dif_in.2 ⟨a.1.1, a.2⟩
        have hv0 : Rch f (dif L s) (B ||| 2 ^ v) v := Rch.here (by rw [orb, Nat.testBit_two_pow]; exact Or.inr (by simp)) (dif_in.2 ⟨hv, hsv⟩)
        refine q.ind (P := fun x => Rch f (dif L s) (B ||| 2 ^ v) x) (fun y a b => ?_) (fun y z _ p a b => p.step a (hsub z b))
        rw [orb, Nat.testBit_two_pow, decide_eq_true_eq] at a
        rcases a with a | a
        · exact Rch.here (by rw [orb]; exact Or.inl a) (hsub y b)
        · subst a
          exact hv0.step hf (hsub u b)))
      rw [pop_oneW hn hB hu h.2] at h1
      exact h1
    · have h1 := lk_ge hn (dif_ltn hL) hB hB2 (dif_ltn hs) (cut_less hc)
      have h2 := dif_less hn hs hsv
      omega
theorem eb_way {f : Nat → Nat} {n T B L v u j : Nat} (hn : n ≤ 8) (hL : L < 2 ^ n) (hB : B < 2 ^ n) (hT : T.testBit v = false) (hu : u < n) (hf : (f v).testBit u = true) (h : ebW f n T B (dif L (2 ^ v)) u = true)
    (hno : ∀ x, x < u → (f v).testBit x = true → (dif L (2 ^ v)).testBit x = true → ebW f n T B (dif L (2 ^ v)) x = false) : wayF f n T B (j + 1) L v = v :: wayF f n T B j (dif L (2 ^ v)) u := by
  have h' := h
  unfold ebW at h
  rw [Bool.and_eq_true, Bool.not_eq_true'] at h
  have : onwF f n T (dif L (2 ^ v)) (dif (f v) B) B = some u := onw_yes hu (fun x hx => by
    cases e : ((dif (f v) B).testBit x && lkB f n T (dif L (2 ^ v)) (B ||| 2 ^ x))
    · rfl
    · rw [Bool.and_eq_true, dif_in] at e
      have hxn : x < n := by omega
      have hxt := Nat.or_lt_two_pow hB (Nat.pow_lt_pow_right (by decide) hxn : 2 ^ x < 2 ^ n)
      have hxl : (dif L (2 ^ v)).testBit x = true := lk_in hn (dif_ltn hL) hxt e.2 (by rw [orb, Nat.testBit_two_pow]; exact Or.inr (by simp))
      have := hno x hx e.1.1 hxl
      unfold ebW at this
      rw [e.2, e.1.2] at this
      cases this) (by rw [Bool.and_eq_true]; exact ⟨dif_in.2 ⟨hf, h.2⟩, h.1⟩)
  rw [wayF, if_neg (by rw [hT]; simp), this]
theorem eb_none {f : Nat → Nat} {n T B L v u : Nat} (hn : n ≤ 8) (hL : L < 2 ^ n) (hB : B < 2 ^ n) (hu : u < n) (h : lkB f n T (dif L (2 ^ v)) B = false) : ebW f n T B (dif L (2 ^ v)) u = false := by
  cases e : ebW f n T B (dif L (2 ^ v)) u
  · rfl
  · unfold ebW at e
    rw [Bool.and_eq_true] at e
    rw [lk_sub hn (dif_ltn hL) (Nat.or_lt_two_pow hB (Nat.pow_lt_pow_right (by decide) hu)) e.1 (sub_or B _)] at h
    cases h
theorem eb_no {f : Nat → Nat} {n T B L v : Nat} (hn : n ≤ 8) (hL : L < 2 ^ n) (hB : B < 2 ^ n) (hv : L.testBit v = true) (hT : T.testBit v = true → lkB f n T (dif L (2 ^ v)) B = false)
    (hno : ∀ x, x < n → (f v).testBit x = true → (dif L (2 ^ v)).testBit x = true → ebW f n T B (dif L (2 ^ v)) x = false) : ebW f n T B L v = false := by
  have hvn := bit_n hL hv
  cases e : ebW f n T B L v
  · rfl
  · exfalso
    unfold ebW at e
    rw [Bool.and_eq_true, Bool.not_eq_true'] at e
    cases hTv : T.testBit v
    · obtain ⟨u, h1, h2, h3, h4⟩ := lk_next hn hL hB hvn e.2 hTv e.1
      have hut := Nat.or_lt_two_pow hB (Nat.pow_lt_pow_right (by decide) h1 : 2 ^ u < 2 ^ n)
      have hul : (dif L (2 ^ v)).testBit u = true := lk_in hn (dif_ltn hL) hut h4 (by rw [orb, Nat.testBit_two_pow]; exact Or.inr (by simp))
      have := hno u h1 h2 hul
      unfold ebW at this
      rw [h4, h3] at this
      cases this
    · have := hT hTv
      rw [lk_last hn hL hB hvn e.2 e.1] at this
      cases this
/-- The set of some vertices. -/
def setO : List Nat → Nat
  | [] => 0
  | v :: r => setO r ||| 2 ^ v
theorem setO_bit (j : Nat) : ∀ l : List Nat, (setO l).testBit j = true ↔ j ∈ l
  | [] => by simp [setO]
  | v :: r => by
    rw [setO, orb, setO_bit j r, Nat.testBit_two_pow, decide_eq_true_eq, List.mem_cons]
    constructor
    · rintro (h | h)
      · exact Or.inr h
      · exact Or.inl h.symm
    · rintro (h | h)
      · exact Or.inr h.symm
      · exact Or.inl h
theorem setO_lt {n : Nat} : ∀ l : List Nat, (∀ x ∈ l, x < n) → setO l < 2 ^ n
  | [], _ => Nat.two_pow_pos n
  | v :: r, h => Nat.or_lt_two_pow (setO_lt r fun x hx => h x (List.mem_cons_of_mem _ hx)) (Nat.pow_lt_pow_right (by decide) (h v (List.mem_cons_self ..)))
/-- The ways from some vertices, one after the other. -/
def waysL (f : Nat → Nat) (n T : Nat) : Nat → List Nat → List (List Nat)
  | _, [] => []
  | L, v :: r => wayF f n T (setO r) n L v :: waysL f n T (setW L (wayF f n T (setO r) n L v)) r
theorem hi_set {F n k : Nat} (hF : F < 2 ^ n) (hk : k ≤ n) : setO ((List.range' k (n - k)).filter fun v => F.testBit v) = hiB F k := bits_ext fun j => by
  rw [setO_bit, List.mem_filter, List.mem_range', hi_bit, Bool.and_eq_true, decide_eq_true_eq]
  constructor
  · rintro ⟨⟨i, h1, h2⟩, h3⟩
    exact ⟨h3, by omega⟩
  · rintro ⟨h1, h2⟩
    have := bit_n hF h1
    exact ⟨⟨j - k, by omega, by omega⟩, h1⟩
theorem wys_ways {f : Nat → Nat} {n T F : Nat} (hF : F < 2 ^ n) : ∀ m k, m = n - k → k ≤ n → (wysF f n T F k).2 ++ waysL f n T (wysF f n T F k).1 ((List.range' k m).filter fun v => F.testBit v) = (wysF f n T F n).2
  | 0, k, h, hk => by
    obtain rfl : k = n := by omega
    simp [waysL]
  | m + 1, k, h, hk => by
    have ih := wys_ways (f := f) (T := T) hF m (k + 1) (by omega) (by omega)
    rw [← ih, List.range'_succ]
    cases e : F.testBit k
    · rw [wys_miss e, List.filter_cons_of_neg (by rw [e]; simp)]
    · rw [wys_hit e, List.filter_cons_of_pos e, waysL]
      have e2 : m = n - (k + 1) := by omega
      rw [e2, hi_set hF (by omega), List.append_assoc]
      rfl
theorem ways_all {f : Nat → Nat} {n T F : Nat} (hn : n ≤ 8) (hF : F < 2 ^ n) : waysL f n T (2 ^ n - 1) (els F) = (wysF f n T F n).2 := by
  have h := wys_ways (f := f) (T := T) hF n 0 (by omega) (Nat.zero_le _)
  rw [← h, ← els_n hn hF, ← List.range_eq_range']
  rfl
theorem set_els {n F : Nat} (hn : n ≤ 8) (hF : F < 2 ^ n) : setO (els F) = F := by
  have h := hi_set hF (Nat.zero_le n)
  rw [hi_zero, Nat.sub_zero, ← List.range_eq_range', els_n hn hF] at h
  exact h
/-- Left behind some vertices: bit by bit. -/
theorem setW_bit (j : Nat) : ∀ (W : List Nat) (L : Nat), (setW L W).testBit j = true ↔ L.testBit j = true ∧ j ∉ W
  | [], L => by simp [setW]
  | v :: W, L => by
    have := setW_bit j W (dif L (2 ^ v))
    rw [show setW L (v :: W) = setW (dif L (2 ^ v)) W from rfl, this, dif_in, Nat.testBit_two_pow, decide_eq_false_iff_not, List.mem_cons, not_or]
    constructor
    · rintro ⟨⟨h1, h2⟩, h3⟩
      exact ⟨h1, fun e => h2 e.symm, h3⟩
    · rintro ⟨h1, h2, h3⟩
      exact ⟨⟨h1, fun e => h2 e.symm⟩, h3⟩
theorem left_or {n G : Nat} (W : List Nat) : dif (2 ^ n - 1) (G ||| setO W) = setW (dif (2 ^ n - 1) G) W := bits_ext fun j => by
  rw [setW_bit, dif_in, dif_in, Nat.testBit_or, Bool.or_eq_false_iff]
  have := setO_bit j W
  cases e : (setO W).testBit j
  · have h : j ∉ W := fun g => by rw [this.2 g] at e; cases e
    simp [h]
  · have h : j ∈ W := this.1 e
    simp [h]
end Go.Proofs.Ytjnifcfcigcngaa

namespace Go.Proofs.Ytjnifcfcigcngaa

def isP (p : Int) : Prop := p = 2 ∨ p = 3 ∨ p = 5 ∨ p = 7
/-- The same modulo p, at the first six places. -/
def Cg (p : Int) (v w : Nat → Int) : Prop := ∀ r, r < 6 → (v r - w r) % p = 0
theorem Cg.refl (p : Int) (v : Nat → Int) : Cg p v v := fun r _ => by simp
theorem emod_neg {p a : Int} (h : a % p = 0) : (-a) % p = 0 := Int.emod_eq_zero_of_dvd (Int.dvd_neg.2 (Int.dvd_of_emod_eq_zero h))
theorem emod_add {p a b : Int} (h : a % p = 0) (k : b % p = 0) : (a + b) % p = 0 := Int.emod_eq_zero_of_dvd (Int.dvd_add (Int.dvd_of_emod_eq_zero h) (Int.dvd_of_emod_eq_zero k))
theorem emod_mul {p a : Int} (h : a % p = 0) (k : Int) : (k * a) % p = 0 := Int.emod_eq_zero_of_dvd (Int.dvd_mul_of_dvd_right (Int.dvd_of_emod_eq_zero h))
theorem Cg.symm {p : Int} {v w : Nat → Int} (h : Cg p v w) : Cg p w v := fun r hr => by
  have := emod_neg (h r hr)
  rwa [Int.neg_sub] at this
theorem Cg.trans {p : Int} {v w x : Nat → Int} (h : Cg p v w) (k : Cg p w x) : Cg p v x := fun r hr => by
  have := emod_add (h r hr) (k r hr)
  rwa [show v r - w r + (w r - x r) = v r - x r by omega] at this
theorem Cg.lin {p : Int} {v w x y : Nat → Int} (h : Cg p v w) (k : Cg p x y) (m : Int) : Cg p (fun r => v r + m * x r) (fun r => w r + m * y r) := fun r hr => by
  have := emod_add (h r hr) (emod_mul (k r hr) m)
  rwa [show v r - w r + m * (x r - y r) = v r + m * x r - (w r + m * y r) by rw [Int.mul_sub]; omega] at this
/-- Modulo a prime all but 0 has something that makes it 1. -/
theorem unit_of {p c : Int} (hp : isP p) (h : c % p ≠ 0) : ∃ e : Int, (e * c - 1) % p = 0 := by
  rcases hp with rfl | rfl | rfl | rfl
  · exact ⟨1, by omega⟩
  · rcases (by omega : c % 3 = 1 ∨ c % 3 = 2) with g | g
    · exact ⟨1, by omega⟩
    · exact ⟨2, by omega⟩
  · rcases (by omega : c % 5 = 1 ∨ c % 5 = 2 ∨ c % 5 = 3 ∨ c % 5 = 4) with g | g | g | g
    · exact ⟨1, by omega⟩
    · exact ⟨3, by omega⟩
    · exact ⟨2, by omega⟩
    · exact ⟨4, by omega⟩
  · rcases (by omega : c % 7 = 1 ∨ c % 7 = 2 ∨ c % 7 = 3 ∨ c % 7 = 4 ∨ c % 7 = 5 ∨ c % 7 = 6) with g | g | g | g | g | g
    · exact ⟨1, by omega⟩
    · exact ⟨4, by omega⟩
    · exact ⟨5, by omega⟩
    · exact ⟨2, by omega⟩
    · exact ⟨3, by omega⟩
    · exact ⟨6, by omega⟩
/-- The sums of multiples of vectors of S. -/
inductive Span (p : Int) (S : (Nat → Int) → Prop) : (Nat → Int) → Prop
  | zero : Span p S fun _ => 0
  | add {v x : Nat → Int} (k : Int) (h : Span p S v) (hx : S x) : Span p S fun r => v r + k * x r
  | cg {v w : Nat → Int} (hc : Cg p v w) (h : Span p S v) : Span p S w
variable {p : Int} {S T : (Nat → Int) → Prop}
theorem Span.of {x : Nat → Int} (h : S x) : Span p S x := .cg (fun r _ => by simp) (Span.add 1 .zero h)
theorem Span.lin {v w : Nat → Int} (hv : Span p S v) (hw : Span p S w) (k : Int) : Span p S fun r => v r + k * w r := by
  induction hw with
  | zero => exact .cg (fun r _ => by simp) hv
  | add m _ hx ih =>
    refine .cg (fun r _ => ?_) (Span.add (k * m) ih hx)
    rw [Int.mul_add, Int.mul_assoc, Int.add_assoc]
    simp
  | cg hc _ ih => exact .cg ((Cg.refl p v).lin hc k) ih
theorem Span.smul {w : Nat → Int} (hw : Span p S w) (k : Int) : Span p S fun r => k * w r := .cg (fun r _ => by simp) (Span.zero.lin hw k)
theorem Span.sub {v : Nat → Int} (h : Span p S v) (hST : ∀ x, S x → Span p T x) : Span p T v := by
  induction h with
  | zero => exact .zero
  | add k _ hx ih => exact ih.lin (hST _ hx) k
  | cg hc _ ih => exact .cg hc ih
theorem Span.mono {v : Nat → Int} (h : Span p S v) (hST : ∀ x, S x → T x) : Span p T v := h.sub fun x hx => .of (hST x hx)
theorem Span.one {v y : Nat → Int} (h : Span p (fun x => S x ∨ x = y) v) : ∃ k : Int, Span p S fun r => v r + k * y r := by
  induction h with
  | zero => exact ⟨0, .cg (fun r _ => by simp) .zero⟩
  | @add v x k _ hx ih =>
    obtain ⟨m, hm⟩ := ih
    rcases hx with hx | rfl
    · refine ⟨m, .cg (fun r _ => ?_) (Span.add k hm hx)⟩
      rw [show v r + m * y r + k * x r - (v r + k * x r + m * y r) = 0 by omega]
      simp
    · refine ⟨m - k, .cg (fun r _ => ?_) hm⟩
      rw [show v r + m * x r - (v r + k * x r + (m - k) * x r) = 0 by rw [Int.sub_mul]; omega]
      simp
  | cg hc _ ih =>
    obtain ⟨m, hm⟩ := ih
    exact ⟨m, .cg (hc.lin (Cg.refl p y) m) hm⟩
/-- Of what a multiple that can be turned back is a sum, it is one itself. -/
theorem Span.unit (hp : isP p) {w : Nat → Int} {c : Int} (hc : c % p ≠ 0) (h : Span p S fun r => c * w r) : Span p S w := by
  obtain ⟨e, he⟩ := unit_of hp hc
  refine .cg (fun r _ => ?_) (h.smul e)
  have := emod_mul he (w r)
  rwa [show w r * (e * c - 1) = e * (c * w r) - w r by rw [Int.mul_sub, Int.mul_one, Int.mul_comm, Int.mul_assoc]] at this
theorem Span.exch (hp : isP p) {v y : Nat → Int} (h : Span p (fun x => S x ∨ x = y) v) (hn : ¬ Span p S v) : Span p (fun x => S x ∨ x = v) y := by
  obtain ⟨k, hk⟩ := h.one
  have hk0 : k % p ≠ 0 := fun e => hn (.cg (fun r _ => by
    have := emod_mul e (y r)
    rwa [show y r * k = v r + k * y r - v r by rw [Int.mul_comm]; omega] at this) hk)
  refine Span.unit hp hk0 (.cg (fun r _ => ?_) ((hk.mono fun _ h => .inl h).lin (Span.of (S := fun x => S x ∨ x = v) (.inr rfl)) (-1)))
  rw [show v r + k * y r + -1 * v r - k * y r = 0 by omega]
  simp

/-- Column i hangs on those of s. -/
def depC (p : Int) (col : Nat → Nat → Int) (s i : Nat) : Prop := Span p (fun x => ∃ j, s.testBit j = true ∧ x = col j) (col i)
theorem depC_dep (hp : isP p) (col : Nat → Nat → Int) (n : Nat) : Dep n (depC p col) where
  self := fun s i _ _ h => .of ⟨i, h, rfl⟩
  mono := fun s t i _ _ _ hst h => h.mono fun x ⟨j, hj, e⟩ => ⟨j, subB_iff.1 hst j hj, e⟩
  trans := fun s i j _ _ _ h1 h2 => h2.sub fun x ⟨k, hk, e⟩ => by
    rw [or_bit] at hk
    by_cases hs : s.testBit k = true
    · exact .of ⟨k, hs, e⟩
    · have e2 : j = k := by simpa [Bool.eq_false_iff.2 hs] using hk
      subst e2
      rw [e]
      exact h1
  exch := fun s i j _ _ _ h1 h2 => by
    have h3 : Span p (fun x => (∃ k, s.testBit k = true ∧ x = col k) ∨ x = col i) (col j) := h2.mono fun x ⟨k, hk, e⟩ => by
      rw [or_bit] at hk
      by_cases hs : s.testBit k = true
      · exact .inl ⟨k, hs, e⟩
      · have e2 : i = k := by simpa [Bool.eq_false_iff.2 hs] using hk
        subst e2
        exact .inr e
    exact (h3.exch hp h1).mono fun x hx => by
      rcases hx with ⟨k, hk, e⟩ | e
      · exact ⟨k, by rw [or_bit, hk]; rfl, e⟩
      · exact ⟨j, by rw [or_bit]; simp, e⟩
end Go.Proofs.Ytjnifcfcigcngaa

namespace Go.Proofs.Ytjnifcfcigcngaa

/-- A sum of S that is nought at all places of A is nought. -/
def Piv (p : Int) (S : (Nat → Int) → Prop) (A : List Nat) : Prop := ∀ v, Span p S v → (∀ a ∈ A, v a % p = 0) → Cg p v fun _ => 0
theorem Piv.nil {p : Int} {S : (Nat → Int) → Prop} (hS : ∀ x, ¬ S x) : Piv p S [] := fun v h _ => by
  induction h with
  | zero => exact Cg.refl _ _
  | add k _ hx ih => exact absurd hx (hS _)
  | cg hc _ ih => exact hc.symm.trans (ih fun a ha => by cases ha)
theorem mul_unit {p a b : Int} (hp : isP p) (h : (a * b) % p = 0) (hb : b % p ≠ 0) : a % p = 0 := by
  obtain ⟨e, he⟩ := unit_of hp hb
  have h1 := emod_mul h e
  have h2 := emod_mul he a
  have h3 := emod_add h1 (emod_neg h2)
  rwa [show e * (a * b) + -(a * (e * b - 1)) = a by rw [Int.mul_sub, Int.mul_one, Int.mul_left_comm]; omega] at h3
/-- y stands for x: but for sums of S it is a multiple of x that can be turned back, and it is nought at A. -/
structure Stands (p : Int) (S : (Nat → Int) → Prop) (A : List Nat) (x y : Nat → Int) : Prop where
  ex : ∃ u : Int, u % p ≠ 0 ∧ Span p S fun r => y r + -u * x r
  at_ : ∀ a ∈ A, y a % p = 0
theorem Piv.snoc {p : Int} (hp : isP p) {S : (Nat → Int) → Prop} {A : List Nat} {x y : Nat → Int} (h : Piv p S A) (hs : Stands p S A x y) {b : Nat} (hb6 : b < 6) (hb : y b % p ≠ 0) : Piv p (fun z => S z ∨ z = x) (A ++ [b]) := fun v hv h0 => by
  obtain ⟨⟨u, hu, hy⟩, hya⟩ := hs
  obtain ⟨k, hk⟩ := hv.one
  obtain ⟨e, he⟩ := unit_of hp hu
  -- v + (k e) y is a sum of S
  have h1 : Span p S fun r => v r + (k * e) * y r := by
    refine .cg (fun r _ => ?_) (hk.lin hy (k * e))
    have h2 := emod_mul he (-(k * x r))
    rwa [show -(k * x r) * (e * u - 1) = v r + k * x r + k * e * (y r + -u * x r) - (v r + k * e * y r) by
      rw [Int.mul_sub, Int.mul_one, Int.mul_add, Int.neg_mul, Int.neg_mul, Int.mul_neg]
      rw [show k * x r * (e * u) = k * e * (u * x r) by rw [Int.mul_assoc, Int.mul_assoc, Int.mul_left_comm (x r), Int.mul_comm (x r)]]
      omega] at h2
  have h2 := h _ h1 fun a ha => by
    have e1 := h0 a (List.mem_append_left _ ha)
    have e2 := emod_mul (hya a ha) (k * e)
    exact emod_add e1 e2
  have hm : (k * e) % p = 0 := by
    refine mul_unit hp (b := y b) ?_ hb
    have e1 := h2 b hb6
    have e2 := h0 b (List.mem_append_right _ (List.mem_singleton.2 rfl))
    have e3 := emod_add e1 (emod_neg e2)
    rwa [show v b + k * e * y b - 0 + -v b = k * e * y b by omega] at e3
  intro r hr
  have e1 := h2 r hr
  have e2 := emod_mul hm (y r)
  have e3 := emod_add e1 (emod_neg e2)
  rwa [show v r + k * e * y r - 0 + -(y r * (k * e)) = v r - 0 by rw [Int.mul_comm (y r)]; omega] at e3
theorem Piv.test {p : Int} (hp : isP p) {S : (Nat → Int) → Prop} {A : List Nat} {x y : Nat → Int} (h : Piv p S A) (hs : Stands p S A x y) : Span p S x ↔ Cg p y fun _ => 0 := by
  obtain ⟨⟨u, hu, hy⟩, hya⟩ := hs
  constructor
  · intro hx
    refine h _ ?_ hya
    refine .cg (fun r _ => ?_) (hy.lin hx u)
    rw [show y r + -u * x r + u * x r - y r = 0 by rw [Int.neg_mul]; omega]
    simp
  · intro hc
    refine Span.unit hp hu (.cg (fun r hr => ?_) (hy.smul (-1)))
    have e1 := emod_neg (hc r hr)
    rwa [show -(y r - 0) = -1 * (y r + -u * x r) - u * x r by rw [Int.neg_mul u]; omega] at e1
/-- The first place that is not nought. -/
def leadN (v : Nat → Int) : Nat := ((List.range 6).find? fun r => v r != 0).getD 6
theorem leadN_none {v : Nat → Int} (h : leadN v = 6) : ∀ r, r < 6 → v r = 0 := fun r hr => by
  unfold leadN at h
  cases e : (List.range 6).find? fun r => v r != 0 with
  | none =>
    have := List.find?_eq_none.1 e r (List.mem_range.2 hr)
    simpa using this
  | some x =>
    rw [e, Option.getD_some] at h
    have := List.mem_range.1 (List.mem_of_find?_eq_some e)
    omega
theorem leadN_some {v : Nat → Int} (h : leadN v ≠ 6) : leadN v < 6 ∧ v (leadN v) ≠ 0 := by
  unfold leadN at h ⊢
  cases e : (List.range 6).find? fun r => v r != 0 with
  | none => rw [e] at h; exact absurd rfl h
  | some x =>
    rw [Option.getD_some]
    refine ⟨List.mem_range.1 (List.mem_of_find?_eq_some e), ?_⟩
    have := List.find?_some e
    simpa using this
/-- c, with nought where by is not. -/
def clrF (p : Int) (c by_ : Nat → Int) (at_ : Nat) (r : Nat) : Int := (c r * by_ at_ + by_ r * (p - c at_)) % p
/-- The columns as they stand when i have been used. -/
def elimV (p : Int) (o : Nat → Nat → Int) : Nat → Nat → Nat → Int
  | 0, k => o k
  | i + 1, k => if i < k then clrF p (elimV p o i k) (elimV p o i i) (leadN (elimV p o i i)) else elimV p o i k
theorem isP.pos {p : Int} (h : isP p) : 0 < p ∧ p ≤ 7 := by
  unfold isP at h
  omega
theorem elimV_in {p : Int} (hp : isP p) {o : Nat → Nat → Int} (ho : ∀ k r, 0 ≤ o k r ∧ o k r < p) : ∀ i k r, 0 ≤ elimV p o i k r ∧ elimV p o i k r < p
  | 0, k, r => ho k r
  | i + 1, k, r => by
    unfold elimV
    split
    · unfold clrF
      have := hp.pos
      exact ⟨Int.emod_nonneg _ (by omega), Int.emod_lt_of_pos _ this.1⟩
    · exact elimV_in hp ho i k r
theorem small_mod {p a : Int} (h0 : 0 ≤ a) (h1 : a < p) : a % p = 0 ↔ a = 0 := by
  rw [Int.emod_eq_of_lt h0 h1]
/-- The sets of those ahead. -/
def Fore (o : Nat → Nat → Int) (i : Nat) (x : Nat → Int) : Prop := ∃ j, j < i ∧ x = o j
theorem fore_succ (o : Nat → Nat → Int) (i : Nat) : Fore o (i + 1) = fun x => Fore o i x ∨ x = o i := by
  funext x
  unfold Fore
  refine propext ⟨?_, ?_⟩
  · rintro ⟨j, h1, h2⟩
    by_cases e : j = i
    · subst e; exact .inr h2
    · exact .inl ⟨j, by omega, h2⟩
  · rintro (⟨j, h1, h2⟩ | h)
    · exact ⟨j, by omega, h2⟩
    · exact ⟨i, by omega, h⟩
def pivA (p : Int) (o : Nat → Nat → Int) (i : Nat) : List Nat := (List.range i).map fun j => leadN (elimV p o j j)
theorem pivA_succ (p : Int) (o : Nat → Nat → Int) (i : Nat) : pivA p o (i + 1) = pivA p o i ++ [leadN (elimV p o i i)] := by
  unfold pivA
  rw [List.range_succ, List.map_append]
  rfl
theorem elim_inv {p : Int} (hp : isP p) {o : Nat → Nat → Int} (ho : ∀ k r, 0 ≤ o k r ∧ o k r < p) : ∀ i, (∀ j, j < i → leadN (elimV p o j j) ≠ 6) → (Piv p (Fore o i) (pivA p o i) ∧ (∀ a ∈ pivA p o i, a < 6)) ∧ ∀ k, i ≤ k → Stands p (Fore o i) (pivA p o i) (o k) (elimV p o i k) := by
  intro i
  induction i with
  | zero =>
    intro _
    refine ⟨⟨Piv.nil (fun x ⟨j, h, _⟩ => absurd h (Nat.not_lt_zero j)), fun a ha => by cases ha⟩, fun k _ => ⟨⟨1, ?_, ?_⟩, fun a ha => by cases ha⟩⟩
    · rcases hp with rfl | rfl | rfl | rfl <;> decide
    · refine .cg (fun r _ => ?_) .zero
      show (0 - (o k r + -1 * o k r)) % p = 0
      rw [show 0 - (o k r + -1 * o k r) = 0 by omega]
      simp
  | succ i ih =>
    intro hl
    obtain ⟨⟨i1, i2⟩, i3⟩ := ih fun j hj => hl j (by omega)
    have hli := leadN_some (hl i (by omega))
    have hin := elimV_in hp ho i i
    have hst := i3 i (Nat.le_refl _)
    have hne : elimV p o i i (leadN (elimV p o i i)) % p ≠ 0 := fun h => hli.2 ((small_mod (hin _).1 (hin _).2).1 h)
    rw [fore_succ, pivA_succ]
    refine ⟨⟨i1.snoc hp hst hli.1 hne, fun a ha => ?_⟩, fun k hk => ?_⟩
    · rcases List.mem_append.1 ha with ha | ha
      · exact i2 a ha
      · rw [List.mem_singleton.1 ha]; exact hli.1
    · obtain ⟨⟨u, hu, hy⟩, hya⟩ := i3 k (by omega)
      obtain ⟨⟨u', hu', hy'⟩, hya'⟩ := hst
      have e : elimV p o (i + 1) k = clrF p (elimV p o i k) (elimV p o i i) (leadN (elimV p o i i)) := by
        show (if i < k then _ else _) = _
        rw [if_pos (by omega)]
      rw [e]
      generalize elimV p o i k = yk at *
      generalize hb : leadN (elimV p o i i) = b at *
      generalize elimV p o i i = yi at *
      refine ⟨⟨u * yi b, ?_, ?_⟩, fun a ha => ?_⟩
      · intro h
        rw [Int.mul_comm] at h
        exact hne (mul_unit hp h hu)
      · -- clr = yk * yi b + yi * (p - yk b), modulo p
        have s1 : Span p (fun z => Fore o i z ∨ z = o i) fun r => yk r + -u * o k r := hy.mono fun _ h => .inl h
        have s2 : Span p (fun z => Fore o i z ∨ z = o i) yi := by
          refine .cg (fun r _ => ?_) ((hy'.mono fun _ h => .inl h).lin (Span.of (S := fun z => Fore o i z ∨ z = o i) (.inr rfl)) u')
          rw [show yi r + -u' * o i r + u' * o i r - yi r = 0 by rw [Int.neg_mul]; omega]
          simp
        refine .cg (fun r _ => ?_) ((s1.smul (yi b)).lin s2 (p - yk b))
        unfold clrF
        have h1 : (yk r * yi b + yi r * (p - yk b) - (yk r * yi b + yi r * (p - yk b)) % p) % p = 0 := by
          rw [Int.sub_emod, Int.emod_emod_of_dvd _ (Int.dvd_refl p), Int.sub_self]
          simp
        rwa [show yk r * yi b + yi r * (p - yk b) - (yk r * yi b + yi r * (p - yk b)) % p = yi b * (yk r + -u * o k r) + (p - yk b) * yi r - ((yk r * yi b + yi r * (p - yk b)) % p + -(u * yi b) * o k r) by
          rw [Int.mul_add, Int.neg_mul, Int.neg_mul, Int.mul_neg, Int.mul_comm (yi b) (yk r), Int.mul_comm (p - yk b) (yi r), show yi b * (u * o k r) = u * yi b * o k r by rw [Int.mul_left_comm, Int.mul_assoc]]
          omega] at h1
      · unfold clrF
        rw [Int.emod_emod_of_dvd _ (Int.dvd_refl p)]
        rcases List.mem_append.1 ha with ha | ha
        · have e1 := emod_mul (hya a ha) (yi b)
          have e2 := emod_mul (hya' a ha) (p - yk b)
          have e3 := emod_add e1 e2
          rwa [Int.mul_comm (yi b), Int.mul_comm (p - yk b)] at e3
        · rw [List.mem_singleton.1 ha, show yk b * yi b + yi b * (p - yk b) = yi b * p by rw [Int.mul_sub, Int.mul_comm (yk b)]; omega]
          exact Int.mul_emod_left _ _
/-- No column is cleared to nought just if none hangs on those ahead. -/
theorem elim_free {p : Int} (hp : isP p) {o : Nat → Nat → Int} (ho : ∀ k r, 0 ≤ o k r ∧ o k r < p) (n : Nat) : (∀ i, i < n → leadN (elimV p o i i) ≠ 6) ↔ ∀ i, i < n → ¬ Span p (Fore o i) (o i) := by
  induction n with
  | zero => exact ⟨fun _ i h => absurd h (Nat.not_lt_zero i), fun _ i h => absurd h (Nat.not_lt_zero i)⟩
  | succ n ih =>
    have key : (∀ i, i < n → leadN (elimV p o i i) ≠ 6) → (leadN (elimV p o n n) ≠ 6 ↔ ¬ Span p (Fore o n) (o n)) := fun h => by
      obtain ⟨⟨i1, i2⟩, i3⟩ := elim_inv hp ho n h
      rw [i1.test hp (i3 n (Nat.le_refl _))]
      have hin := elimV_in hp ho n n
      constructor
      · intro h1 h2
        have h3 := leadN_some h1
        have h4 := h2 _ h3.1
        rw [Int.sub_zero] at h4
        exact h3.2 ((small_mod (hin _).1 (hin _).2).1 h4)
      · intro h1 h2
        exact h1 fun r hr => by rw [leadN_none h2 r hr]; simp
    constructor
    · intro h i hi
      have h1 := ih.1 fun i hi => h i (by omega)
      by_cases e : i = n
      · subst e
        exact (key fun i hi => h i (by omega)).1 (h i hi)
      · exact h1 i (by omega)
    · intro h i hi
      have h1 := ih.2 fun i hi => h i (by omega)
      by_cases e : i = n
      · subst e
        exact (key h1).2 (h i hi)
      · exact h1 i (by omega)
end Go.Proofs.Ytjnifcfcigcngaa
