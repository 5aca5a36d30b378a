/- Plain mathematics of sets, matroids, graphs and lists, on which the walks rest. -/
import Derived.Test.YtdabkgbbalooiaaDoorPlainAll
namespace Go.Proofs.YtdabkgbbalooiaaDoor

theorem getD_some {xs : List Nat} {i j : Nat} : xs[i]? = some j ↔ i < xs.length ∧ xs.getD i 0 = j := by
  constructor
  · intro h
    obtain ⟨h1, h2⟩ := List.getElem?_eq_some_iff.1 h
    exact ⟨h1, by simp [List.getD, h1, h2]⟩
  · rintro ⟨h1, h2⟩
    rw [List.getElem?_eq_getElem h1]
    simpa [List.getD, h1] using h2
theorem image_old (xs : List Nat) (s : Nat) : image xs s = old xs s := Nat.eq_of_testBit_eq fun j => by
  rw [Bool.eq_iff_iff, image_has, old_bit]
  constructor
  · rintro ⟨i, h1, h2, h3⟩
    exact ⟨i, getD_some.2 ⟨h1, h3⟩, h2⟩
  · rintro ⟨i, h1, h2⟩
    obtain ⟨h3, h4⟩ := getD_some.1 h1
    exact ⟨i, h3, h2, h4⟩
theorem image_or (xs : List Nat) (s t : Nat) : image xs (s ||| t) = image xs s ||| image xs t := by rw [image_old, image_old, image_old, old_or]
/-- One after the other. -/
def comp (a b : List Nat) : List Nat := b.map fun i => a.getD i 0
theorem comp_len (a b : List Nat) : (comp a b).length = b.length := List.length_map _
theorem comp_at {a b : List Nat} {j : Nat} (h : j < b.length) : (comp a b).getD j 0 = a.getD (b.getD j 0) 0 := by simp [comp, List.getD, h]
theorem image_comp {a b : List Nat} (hb : ∀ x ∈ b, x < a.length) (t : Nat) : image a (image b t) = image (comp a b) t := Nat.eq_of_testBit_eq fun x => by
  rw [Bool.eq_iff_iff, image_has, image_has, comp_len]
  constructor
  · rintro ⟨i, _, h2, h3⟩
    obtain ⟨j, h4, h5, rfl⟩ := image_has.1 h2
    exact ⟨j, h4, h5, by rw [comp_at h4]; exact h3⟩
  · rintro ⟨j, h4, h5, h6⟩
    rw [comp_at h4] at h6
    refine ⟨b.getD j 0, hb _ ?_, image_has.2 ⟨j, h4, h5, rfl⟩, h6⟩
    simp [List.getD, h4]
theorem Beg.comp {m k : Nat} {a b : List Nat} (ha : Beg m a) (hl : a.length = k) (hb : Beg k b) : Beg m (comp a b) := by
  refine ⟨fun x hx => ?_, ?_⟩
  · obtain ⟨i, hi, rfl⟩ := List.mem_map.1 hx
    exact ha.at (by rw [hl]; exact hb.lt i hi)
  · refine List.pairwise_map.2 (List.Pairwise.imp_of_mem (fun {i j} hi hj hij e => hij ?_) hb.once)
    exact ha.inj (by rw [hl]; exact hb.lt i hi) (by rw [hl]; exact hb.lt j hj) e
theorem range_at {k i : Nat} (h : i < k) : (List.range k).getD i 0 = i := by simp [List.getD, h]
theorem image_range {k t : Nat} (ht : t < 2 ^ k) : image (List.range k) t = t := Nat.eq_of_testBit_eq fun j => by
  rw [Bool.eq_iff_iff, image_has, List.length_range]
  constructor
  · rintro ⟨i, h1, h2, h3⟩
    rw [range_at h1] at h3
    rw [← h3]
    exact h2
  · intro h
    have hj : j < k := bit_lt ht h
    exact ⟨j, hj, h, range_at hj⟩
theorem idx_at {q : List Nat} {j : Nat} (h : j ∈ q) : q.getD (q.idxOf j) 0 = j := by
  have hl := List.idxOf_lt_length_of_mem h
  simp [List.getD, hl]
/-- The elements of which the other ones are made. -/
theorem Beg.inv {m k : Nat} {p xs : List Nat} (_hp : Beg m p) (hl : p.length = k) (hx : ∀ x ∈ xs, x ∈ p) (hn : xs.Nodup) : Beg k (xs.map p.idxOf) ∧ Go.Proofs.YtdabkgbbalooiaaDoor.comp p (xs.map p.idxOf) = xs := by
  refine ⟨⟨fun i hi => ?_, ?_⟩, ?_⟩
  · obtain ⟨x, h1, rfl⟩ := List.mem_map.1 hi
    rw [← hl]
    exact List.idxOf_lt_length_of_mem (hx x h1)
  · refine List.pairwise_map.2 (List.Pairwise.imp_of_mem (fun {x y} h1 h2 hxy e => hxy ?_) hn)
    rw [← idx_at (hx x h1), ← idx_at (hx y h2), e]
  · unfold Go.Proofs.YtdabkgbbalooiaaDoor.comp
    rw [List.map_map]
    conv => rhs; rw [← List.map_id xs]
    exact List.map_congr_left fun x h => idx_at (hx x h)
/-- The other one lies in the one, what is left of it contracted or deleted. -/
def Emb (m : Nat) (A : List Nat) (k : Nat) (B : List Nat) : Prop := ∃ (p : List Nat) (C : Nat), Beg m p ∧ p.length = k ∧ C < 2 ^ m ∧ (∀ x ∈ p, C.testBit x = false) ∧ ∀ s, s < 2 ^ k → rk B s + rk A C = rk A (image p s ||| C)
theorem Emb.trans {m k j : Nat} {A B D : List Nat} (h1 : Emb m A k B) (h2 : Emb k B j D) : Emb m A j D := by
  obtain ⟨p, C, hp, hl, hC, hd, hr⟩ := h1
  obtain ⟨p2, C2, hp2, hl2, hC2, hd2, hr2⟩ := h2
  have hlt : ∀ x ∈ p2, x < p.length := fun x hx => by rw [hl]; exact hp2.lt x hx
  refine ⟨comp p p2, image p C2 ||| C, hp.comp hl hp2, by rw [comp_len, hl2], Nat.or_lt_two_pow (hp.image_lt _) hC, fun x hx => ?_, fun s hs => ?_⟩
  · obtain ⟨i, hi, rfl⟩ := List.mem_map.1 hx
    rw [Nat.testBit_or, hp.image_at (hlt i hi), hd2 i hi, Bool.false_or]
    refine hd _ ?_
    have := hlt i hi
    simp [List.getD, this]
  · have e1 := hr2 s hs
    have e2 := hr C2 hC2
    have e3 := hr (image p2 s ||| C2) (Nat.or_lt_two_pow (hp2.image_lt s) hC2)
    rw [image_or, image_comp hlt, Nat.or_assoc] at e3
    omega
theorem con_rk {m d c s : Nat} {A : List Nat} (hm : m ≤ 8) (hb : Bas A) (hc : c < 2 ^ pop (dif (2 ^ m - 1) d)) (hs : s < 2 ^ pop (dif (2 ^ pop (dif (2 ^ m - 1) d) - 1) c)) :
    rk (minL (pop (dif (2 ^ m - 1) d)) (minL m A d 0) c c) s + rk A (old (els (dif (2 ^ m - 1) d)) c) = rk A (image (els (old (els (dif (2 ^ m - 1) d)) (dif (2 ^ pop (dif (2 ^ m - 1) d) - 1) c))) s ||| old (els (dif (2 ^ m - 1) d)) c) := by
  have hkl := kept_lt hm d
  have hK8 := kept_le hm d
  have hJ := kept_ltn (pop (dif (2 ^ m - 1) d)) c
  have h1 : ∀ t, t < 2 ^ pop (dif (2 ^ m - 1) d) → rk (minL m A d 0) t = rk A (old (els (dif (2 ^ m - 1) d)) t) := fun t ht => by
    rw [min_rk hm hb d 0 ht]
    unfold minR
    rw [Nat.or_zero, (hb.rkOn m).zero, Nat.sub_zero]
  have h2 := min_rk hK8 (min_bas hm hb d 0) c c hs
  unfold minR at h2
  rw [h1 c hc, h1 _ (Nat.or_lt_two_pow (old_ltn hK8 c s) hc), old_or, old_old hkl hJ] at h2
  rw [h2, image_old]
  exact Nat.sub_add_cancel (min_ge hb.rk _ _)
end Go.Proofs.YtdabkgbbalooiaaDoor

namespace Go.Proofs.YtdabkgbbalooiaaDoor

theorem goes_iff {n : Nat} {q : List Nat} : q ∈ goes n n [] ↔ Beg n q ∧ q.length = n := by
  constructor
  · intro h
    obtain ⟨hl, _⟩ := goes_mem n [] q h
    exact ⟨goes_beg n [] q (beg_nil n) h, by simpa using hl⟩
  · rintro ⟨h1, h2⟩
    exact goes_all n [] q h1 (by simpa using h2) (by simp)
theorem goes_nodup {n : Nat} : ∀ (k : Nat) (p : List Nat), (goes n k p).Nodup
  | 0, p => by rw [goes]; simp
  | k + 1, p => by
    rw [goes]
    have h : ∀ (xs : List Nat), xs.Nodup → (xs.flatMap fun x => if x ∈ p then [] else goes n k (p ++ [x])).Nodup := fun xs => by
      induction xs with
      | nil => intro _; simp
      | cons x xs ih =>
        intro hx
        obtain ⟨hx1, hx2⟩ := List.nodup_cons.1 hx
        rw [List.flatMap_cons, List.nodup_append]
        refine ⟨?_, ih hx2, fun a ha b hb e => ?_⟩
        · split
          · exact List.nodup_nil
          · exact goes_nodup k _
        · subst e
          obtain ⟨y, hy, hb2⟩ := List.mem_flatMap.1 hb
          by_cases h1 : x ∈ p
          · rw [if_pos h1] at ha; cases ha
          · rw [if_neg h1] at ha
            by_cases h2 : y ∈ p
            · rw [if_pos h2] at hb2; cases hb2
            · rw [if_neg h2] at hb2
              have e1 := (goes_mem k _ a ha).2
              have e2 := (goes_mem k _ a hb2).2
              rw [List.length_append, List.length_singleton] at e1 e2
              have e3 := e1.symm.trans e2
              have : x = y := by
                have := List.append_cancel_left e3
                simpa using this
              subst this
              exact hx1 hy
    exact h _ List.nodup_range
theorem ren_comp {n : Nat} {a b A : List Nat} (ha : Beg n a) (hla : a.length = n) (hb : Beg n b) (hlb : b.length = n) (hf : Fam n A) : renL n (comp a b) A = renL n a (renL n b A) := by
  have hc := ha.comp hla hb
  have hlc : (comp a b).length = n := by rw [comp_len, hlb]
  refine sorted_ext (ren_fam _ _ _).up (ren_fam _ _ _).up fun t => ?_
  rw [hc.mem_image hlc hf, ha.mem_image hla (ren_fam n b A)]
  have hlt : ∀ x ∈ b, x < a.length := fun x hx => by rw [hla]; exact hb.lt x hx
  constructor
  · rintro ⟨s, hs, e⟩
    exact ⟨image b s, (hb.mem_image hlb hf).2 ⟨s, hs, rfl⟩, by rw [image_comp hlt]; exact e⟩
  · rintro ⟨c, hc2, e⟩
    obtain ⟨s, hs, rfl⟩ := (hb.mem_image hlb hf).1 hc2
    exact ⟨s, hs, by rw [← image_comp hlt]; exact e⟩
theorem ren_inj {n : Nat} {a X Y : List Nat} (ha : Beg n a) (hla : a.length = n) (hX : Fam n X) (hY : Fam n Y) (h : renL n a X = renL n a Y) : X = Y := by
  have key : ∀ {Z : List Nat}, Fam n Z → ∀ t, t < 2 ^ n → (t ∈ Z ↔ image a t ∈ renL n a Z) := fun hZ t ht => by
    rw [ha.mem_image hla hZ]
    constructor
    · intro h; exact ⟨t, h, rfl⟩
    · rintro ⟨b, hb, e⟩
      have := ha.image_inj (s := b) (t := t) (by rw [hla]; exact hZ.lt b hb) (by rw [hla]; exact ht) e
      rwa [← this]
  refine sorted_ext hX.up hY.up fun t => ?_
  constructor
  · intro ht
    have hlt := hX.lt t ht
    rw [key hY t hlt, ← h, ← key hX t hlt]
    exact ht
  · intro ht
    have hlt := hY.lt t ht
    rw [key hX t hlt, h, ← key hY t hlt]
    exact ht
theorem goes_perm {n : Nat} {a : List Nat} (ha : Beg n a) (hla : a.length = n) : ((goes n n []).map (comp a)).Perm (goes n n []) := by
  refine (List.perm_ext_iff_of_nodup ?_ (goes_nodup n [])).2 fun x => ?_
  · refine List.pairwise_map.2 (List.Pairwise.imp_of_mem (fun {q r} hq hr hqr e => hqr ?_) (goes_nodup n []))
    obtain ⟨hq1, hq2⟩ := goes_iff.1 hq
    obtain ⟨hr1, hr2⟩ := goes_iff.1 hr
    refine List.ext_getElem (by omega) fun i h1 h2 => ?_
    have e1 : (comp a q).getD i 0 = (comp a r).getD i 0 := by rw [e]
    rw [comp_at h1, comp_at h2] at e1
    have := ha.inj (by rw [hla]; exact hq1.at h1) (by rw [hla]; exact hr1.at h2) e1
    simpa [List.getD, h1, h2] using this
  · rw [List.mem_map, goes_iff]
    constructor
    · rintro ⟨q, hq, rfl⟩
      obtain ⟨hq1, hq2⟩ := goes_iff.1 hq
      exact ⟨ha.comp hla hq1, by rw [comp_len, hq2]⟩
    · rintro ⟨h1, h2⟩
      obtain ⟨hb, hc⟩ := ha.inv hla (xs := x) (fun y hy => by
        obtain ⟨i, hi, e⟩ := ha.all hla (h1.lt y hy)
        have : i < a.length := by omega
        rw [← e]
        simp [List.getD, this]) h1.once
      exact ⟨x.map a.idxOf, goes_iff.2 ⟨hb, by rw [List.length_map, h2]⟩, hc⟩
theorem fiber {n : Nat} {A q0 : List Nat} (hf : Fam n A) (hq : q0 ∈ goes n n []) : (goes n n []).countP (fun q => renL n q A == renL n q0 A) = (isoL n A A).length := by
  obtain ⟨h1, h2⟩ := goes_iff.1 hq
  rw [← (goes_perm h1 h2).countP_eq, List.countP_map, List.countP_eq_length_filter]
  unfold isoL
  congr 1
  refine List.filter_congr fun q hq2 => ?_
  obtain ⟨h3, h4⟩ := goes_iff.1 hq2
  show (renL n (comp q0 q) A == renL n q0 A) = (renL n q A == A)
  rw [ren_comp h1 h2 h3 h4 hf, Bool.eq_iff_iff, beq_iff_eq, beq_iff_eq]
  exact ⟨fun e => ren_inj h1 h2 (ren_fam n q A) hf e, fun e => by rw [e]⟩
/-- The unlike ones among those of a list. -/
def addU (L : List (List Nat)) (x : List Nat) : List (List Nat) := if x ∈ L then L else L ++ [x]
theorem addU_mem {L : List (List Nat)} {x y : List Nat} : y ∈ addU L x ↔ y ∈ L ∨ y = x := by
  unfold addU
  split
  · constructor
    · exact .inl
    · rintro (h | rfl)
      · exact h
      · assumption
  · simp
theorem addU_nodup {L : List (List Nat)} {x : List Nat} (h : L.Nodup) : (addU L x).Nodup := by
  unfold addU
  split
  · exact h
  · rename_i hx
    rw [List.nodup_append]
    refine ⟨h, by simp, fun a ha b hb e => ?_⟩
    rw [List.mem_singleton] at hb
    subst hb
    subst e
    exact hx ha
theorem unl_spec (f : List Nat → List Nat) : ∀ (G : List (List Nat)) (L : List (List Nat)), L.Nodup → (G.foldl (fun L q => addU L (f q)) L).Nodup ∧ ∀ y, y ∈ G.foldl (fun L q => addU L (f q)) L ↔ y ∈ L ∨ ∃ q ∈ G, f q = y
  | [], L, h => ⟨h, fun y => by simp⟩
  | q :: G, L, h => by
    obtain ⟨h1, h2⟩ := unl_spec f G (addU L (f q)) (addU_nodup h)
    refine ⟨h1, fun y => ?_⟩
    rw [List.foldl_cons, h2, addU_mem]
    constructor
    · rintro ((h | h) | ⟨r, hr, e⟩)
      · exact .inl h
      · exact .inr ⟨q, List.mem_cons_self, h.symm⟩
      · exact .inr ⟨r, List.mem_cons_of_mem _ hr, e⟩
    · rintro (h | ⟨r, hr, e⟩)
      · exact .inl (.inl h)
      · rcases List.mem_cons.1 hr with rfl | hr
        · exact .inl (.inr e.symm)
        · exact .inr ⟨r, hr, e⟩
theorem countP_or {α : Type} (p r : α → Bool) (G : List α) (h : ∀ x ∈ G, ¬ (p x = true ∧ r x = true)) : G.countP (fun x => p x || r x) = G.countP p + G.countP r := by
  induction G with
  | nil => rfl
  | cons x G ih =>
    have h1 := ih fun y hy => h y (List.mem_cons_of_mem _ hy)
    have h2 := h x List.mem_cons_self
    rw [List.countP_cons, List.countP_cons, List.countP_cons, h1]
    cases e1 : p x <;> cases e2 : r x <;> simp_all <;> omega
theorem count_sum {c : Nat} (f : List Nat → List Nat) (G : List (List Nat)) : ∀ (D : List (List Nat)), D.Nodup → (∀ d ∈ D, G.countP (fun q => f q == d) = c) → G.countP (fun q => decide (f q ∈ D)) = D.length * c
  | [], _, _ => by simp
  | d :: D, hn, hc => by
    obtain ⟨h1, h2⟩ := List.nodup_cons.1 hn
    have ih := count_sum f G D h2 fun e he => hc e (List.mem_cons_of_mem _ he)
    rw [List.length_cons, Nat.succ_mul, ← ih, ← hc d List.mem_cons_self, Nat.add_comm, ← countP_or]
    · refine List.countP_congr fun q _ => ?_
      simp [List.mem_cons]
    · rintro q _ ⟨h3, h4⟩
      rw [beq_iff_eq] at h3
      rw [decide_eq_true_eq, h3] at h4
      exact h1 h4
/-- LAGRANGE. -/
theorem lagrange {n : Nat} {A : List Nat} (hf : Fam n A) : ((goes n n []).foldl (fun L q => addU L (renL n q A)) []).length * (isoL n A A).length = (goes n n []).length := by
  obtain ⟨h1, h2⟩ := unl_spec (fun q => renL n q A) (goes n n []) [] List.nodup_nil
  rw [← count_sum (c := (isoL n A A).length) (fun q => renL n q A) (goes n n []) _ h1 fun d hd => ?_]
  · rw [List.countP_eq_length]
    intro q hq
    rw [decide_eq_true_eq, h2]
    exact .inr ⟨q, hq, rfl⟩
  · rcases (h2 d).1 hd with h | ⟨q0, hq0, rfl⟩
    · cases h
    · exact fiber hf hq0
end Go.Proofs.YtdabkgbbalooiaaDoor

namespace Go.Proofs.YtdabkgbbalooiaaDoor

/-- The first list has the first set that only one has. -/
def ltV (T : Nat) (a b : Nat → Bool) : Prop := ∃ s, s < T ∧ (∀ t, t < s → a t = b t) ∧ a s = true ∧ b s = false
def leV (T : Nat) (a b : Nat → Bool) : Prop := ltV T a b ∨ ∀ t, t < T → a t = b t
theorem ltV.trans {T : Nat} {a b c : Nat → Bool} (h : ltV T a b) (k : ltV T b c) : ltV T a c := by
  obtain ⟨s, h1, h2, h3, h4⟩ := h
  obtain ⟨u, k1, k2, k3, k4⟩ := k
  rcases Nat.lt_trichotomy s u with e | e | e
  · exact ⟨s, h1, fun t ht => (h2 t ht).trans (k2 t (by omega)), h3, by rw [← k2 s e]; exact h4⟩
  · subst e
    rw [h4] at k3
    cases k3
  · exact ⟨u, k1, fun t ht => (h2 t (by omega)).trans (k2 t ht), by rw [h2 u e]; exact k3, k4⟩
theorem leV.refl (T : Nat) (a : Nat → Bool) : leV T a a := .inr fun _ _ => rfl
theorem ltV.congr {T : Nat} {a b a' b' : Nat → Bool} (h : ltV T a b) (ha : ∀ t, t < T → a t = a' t) (hb : ∀ t, t < T → b t = b' t) : ltV T a' b' := by
  obtain ⟨s, h1, h2, h3, h4⟩ := h
  exact ⟨s, h1, fun t ht => by rw [← ha t (by omega), ← hb t (by omega)]; exact h2 t ht, by rw [← ha s h1]; exact h3, by rw [← hb s h1]; exact h4⟩
theorem leV.trans {T : Nat} {a b c : Nat → Bool} (h : leV T a b) (k : leV T b c) : leV T a c := by
  rcases h with h | h
  · rcases k with k | k
    · exact .inl (h.trans k)
    · exact .inl (h.congr (fun _ _ => rfl) k)
  · rcases k with k | k
    · exact .inl (k.congr (fun t ht => (h t ht).symm) fun _ _ => rfl)
    · exact .inr fun t ht => (h t ht).trans (k t ht)
theorem leV.anti {T : Nat} {a b : Nat → Bool} (h : leV T a b) (k : leV T b a) : ∀ t, t < T → a t = b t := by
  rcases h with h | h
  · rcases k with k | k
    · obtain ⟨s, _, _, h3, h4⟩ := h.trans k
      rw [h3] at h4
      cases h4
    · exact fun t ht => (k t ht).symm
  · exact h
theorem leV.congr {T : Nat} {a b a' b' : Nat → Bool} (h : leV T a b) (ha : ∀ t, t < T → a t = a' t) (hb : ∀ t, t < T → b t = b' t) : leV T a' b' := by
  rcases h with h | h
  · exact .inl (h.congr ha hb)
  · exact .inr fun t ht => by rw [← ha t ht, ← hb t ht]; exact h t ht
theorem leV.of_not {T : Nat} : ∀ {a b : Nat → Bool}, (∀ s, s < T → (∀ t, t < s → a t = b t) → a s ≠ b s → a s = true) → leV T a b := by
  intro a b h
  by_cases e : ∀ t, t < T → a t = b t
  · exact .inr e
  · have hex : ∃ s, s < T ∧ a s ≠ b s := Classical.byContradiction fun c => e fun t ht => Classical.byContradiction fun d => c ⟨t, ht, d⟩
    have key : ∀ N, ∀ s, s < N → s < T → a s ≠ b s → leV T a b := by
      intro N
      induction N with
      | zero => intro s hs; omega
      | succ N ih =>
        intro s hs hT hne
        by_cases c : ∀ t, t < s → a t = b t
        · have ha := h s hT c hne
          refine .inl ⟨s, hT, c, ha, ?_⟩
          cases hb : b s with
          | false => rfl
          | true => exact absurd (ha.trans hb.symm) hne
        · have : ∃ t, t < s ∧ a t ≠ b t := Classical.byContradiction fun d => c fun t ht => Classical.byContradiction fun f => d ⟨t, ht, f⟩
          obtain ⟨t, ht, hne2⟩ := this
          exact ih t (by omega) (by omega) hne2
    obtain ⟨s, h1, h2⟩ := hex
    exact key (s + 1) s (by omega) h1 h2
/-- Is the list, as far as it is known, no greater? -/
def noGr (a b : Nat → Bool) : List Nat → Bool
  | [] => true
  | s :: r => if a s = b s then noGr a b r else a s
theorem noGr_skip {a b : Nat → Bool} : ∀ (xs : List Nat) (i : Nat), (∀ j, j < i → ∀ (h : j < xs.length), a xs[j] = b xs[j]) → noGr a b xs = noGr a b (xs.drop i)
  | xs, 0, _ => by rw [List.drop_zero]
  | [], i + 1, _ => rfl
  | x :: xs, i + 1, h => by
    have h0 := h 0 (by omega) (by simp)
    rw [noGr, if_pos (by simpa using h0), List.drop_succ_cons]
    exact noGr_skip xs i fun j hj hl => by
      have := h (j + 1) (by omega) (by simpa using hl)
      simpa using this
theorem noGr_at {a b : Nat → Bool} {K i : Nat} (hi : i < K) (h : ∀ t, t < i → a t = b t) : noGr a b (List.range K) = if a i = b i then noGr a b ((List.range K).drop (i + 1)) else a i := by
  rw [noGr_skip (List.range K) i (fun j hj hl => by simp only [List.getElem_range]; exact h j hj), List.drop_eq_getElem_cons (by simpa using hi), noGr]
  simp
theorem noGr_all {a b : Nat → Bool} {K : Nat} (h : ∀ t, t < K → a t = b t) : noGr a b (List.range K) = true := by
  rw [noGr_skip (List.range K) K (fun j hj hl => by simp only [List.getElem_range]; exact h j hj), List.drop_of_length_le (by simp)]
  rfl
theorem noGr_first {a b : Nat → Bool} {K i : Nat} (hi : i < K) (h : ∀ t, t < i → a t = b t) (hne : a i ≠ b i) : noGr a b (List.range K) = a i := by rw [noGr_at hi h, if_neg hne]
theorem noGr_true {a b : Nat → Bool} {K : Nat} (h : noGr a b (List.range K) = true) : leV K a b := leV.of_not fun s hs h1 h2 => by rw [← noGr_first hs h1 h2]; exact h
theorem noGr_false {a b : Nat → Bool} {K : Nat} (h : noGr a b (List.range K) = false) : ltV K b a := by
  have h1 : leV K b a := leV.of_not fun s hs h1 h2 => by
    have h3 := noGr_first hs (fun t ht => (h1 t ht).symm) (fun e => h2 e.symm)
    rw [h] at h3
    cases hb : b s with
    | true => rfl
    | false => exact absurd (h3.symm.trans hb.symm).symm h2
  rcases h1 with h1 | h1
  · exact h1
  · rw [noGr_all fun t ht => (h1 t ht).symm] at h
    cases h
/-- Which sets become bases. -/
def vecB (A : List Nat) (p : List Nat) (s : Nat) : Bool := memB (image p s) A
def canF (A : List Nat) (L : Nat → Bool) (p : List Nat) : Bool := noGr (vecB A p) L (List.range (2 ^ p.length))
def canG (A : List Nat) (_ : Nat → Bool) (p : List Nat) : Bool × (Nat → Bool) := (true, vecB A p)
theorem ltV.mono {T K : Nat} {a b : Nat → Bool} (h : ltV K a b) (hk : K ≤ T) : ltV T a b := by
  obtain ⟨s, h1, h2⟩ := h
  exact ⟨s, by omega, h2⟩
theorem vec_take {A q p : List Nat} {n k : Nat} (h : q ∈ goes n k p) {s : Nat} (hs : s < 2 ^ p.length) : vecB A q s = vecB A p s := by
  obtain ⟨h1, h2⟩ := goes_mem k p q h
  unfold vecB
  rw [← image_take hs (by omega), h2]
/-- What the walk leaves as the least one. -/
def LeastOf (A : List Nat) (T : Nat) (G : List (List Nat)) (L L' : Nat → Bool) : Prop := (L' = L ∨ ∃ q ∈ G, L' = vecB A q) ∧ leV T L' L ∧ ∀ q ∈ G, leV T L' (vecB A q)
theorem LeastOf.trans {A : List Nat} {T : Nat} {G H : List (List Nat)} {L M N : Nat → Bool} (h : LeastOf A T G L M) (k : LeastOf A T H M N) : LeastOf A T (G ++ H) L N := by
  obtain ⟨h1, h2, h3⟩ := h
  obtain ⟨k1, k2, k3⟩ := k
  refine ⟨?_, k2.trans h2, fun q hq => ?_⟩
  · rcases k1 with rfl | ⟨q, hq, e⟩
    · rcases h1 with h1 | ⟨q, hq, e⟩
      · exact .inl h1
      · exact .inr ⟨q, List.mem_append_left _ hq, e⟩
    · exact .inr ⟨q, List.mem_append_right _ hq, e⟩
  · rcases List.mem_append.1 hq with hq | hq
    · exact k2.trans (h3 q hq)
    · exact k3 q hq
theorem can_walk (A : List Nat) (n : Nat) : ∀ (k : Nat) (L : Nat → Bool) (p : List Nat), p.length + k = n → canF A L p = true → (walkO (canF A) (canG A) n k L p).1 = true ∧ LeastOf A (2 ^ n) (goes n k p) L (walkO (canF A) (canG A) n k L p).2
  | 0, L, p, hp, hf => by
    refine ⟨rfl, .inr ⟨p, by rw [goes]; exact List.mem_singleton.2 rfl, rfl⟩, ?_, fun q hq => ?_⟩
    · have := noGr_true hf
      rw [show p.length = n by omega] at this
      exact this
    · rw [goes, List.mem_singleton] at hq
      subst hq
      exact leV.refl _ _
  | k + 1, L, p, hp, _ => by
    have key : ∀ (xs : List Nat) (L : Nat → Bool), (loopO (fun s x => if x ∈ p then (true, s) else if canF A s (p ++ [x]) = true then walkO (canF A) (canG A) n k s (p ++ [x]) else (true, s)) xs L).1 = true ∧ LeastOf A (2 ^ n) (xs.flatMap fun x => if x ∈ p then [] else goes n k (p ++ [x])) L (loopO (fun s x => if x ∈ p then (true, s) else if canF A s (p ++ [x]) = true then walkO (canF A) (canG A) n k s (p ++ [x]) else (true, s)) xs L).2 := by
      intro xs
      induction xs with
      | nil => intro L; exact ⟨rfl, .inl rfl, leV.refl _ _, fun q hq => by cases hq⟩
      | cons x xs ih =>
        intro L
        rw [List.flatMap_cons, loopO]
        by_cases hx : x ∈ p
        · simp only [if_pos hx, if_true, List.nil_append]
          exact ih L
        · by_cases hf : canF A L (p ++ [x]) = true
          · simp only [if_neg hx, if_pos hf]
            obtain ⟨h1, h2⟩ := can_walk A n k L (p ++ [x]) (by simp; omega) hf
            rw [if_pos h1]
            obtain ⟨h3, h4⟩ := ih (walkO (canF A) (canG A) n k L (p ++ [x])).2
            exact ⟨h3, h2.trans h4⟩
          · simp only [if_neg hx, if_neg hf, if_true]
            obtain ⟨h3, h4⟩ := ih L
            refine ⟨h3, LeastOf.trans (M := L) ⟨.inl rfl, leV.refl _ _, fun q hq => ?_⟩ h4⟩
            have h5 := noGr_false (Bool.eq_false_iff.2 hf)
            have hle : (p ++ [x]).length ≤ n := by simp; omega
            refine .inl ((ltV.congr h5 (fun _ _ => rfl) fun t ht => (vec_take hq ht).symm).mono (Nat.pow_le_pow_right (by decide) hle))
    rw [walkO, goes]
    exact key (List.range n) L
/-- The least list: what the program's walk finds. -/
def canV (n : Nat) (A : List Nat) : Nat → Bool := (walkO (canF A) (canG A) n n (fun s => memB s A) []).2
def canL (n : Nat) (A : List Nat) : List Nat := (List.range (2 ^ n)).filter (canV n A)
theorem can_fam (n : Nat) (A : List Nat) : Fam n (canL n A) := Fam.range n _
theorem mem_can {n : Nat} {A : List Nat} {s : Nat} (hs : s < 2 ^ n) : memB s (canL n A) = canV n A s := by
  unfold canL memB
  rw [Bool.eq_iff_iff, decide_eq_true_iff, List.mem_filter, List.mem_range]
  exact ⟨fun h => h.2, fun h => ⟨hs, h⟩⟩
/-- The order that turns another one round. -/
def invL (n : Nat) (p : List Nat) : List Nat := (List.range n).map p.idxOf
theorem inv_beg {n : Nat} {p : List Nat} (h : Beg n p) (hl : p.length = n) : Beg n (invL n p) ∧ (invL n p).length = n ∧ comp p (invL n p) = List.range n := by
  obtain ⟨h1, h2⟩ := h.inv hl (xs := List.range n) (fun x hx => by
    obtain ⟨i, hi, e⟩ := h.all hl (List.mem_range.1 hx)
    have : i < p.length := by omega
    rw [← e]
    simp [List.getD, this]) List.nodup_range
  exact ⟨h1, by simp [invL], h2⟩
theorem inv_image {n : Nat} {p : List Nat} (h : Beg n p) (hl : p.length = n) {s : Nat} (hs : s < 2 ^ n) : image p (image (invL n p) s) = s := by
  obtain ⟨h1, h2, h3⟩ := inv_beg h hl
  rw [image_comp (fun x hx => by rw [hl]; exact h1.lt x hx), h3, image_range hs]
theorem ren_vec {n : Nat} {p A : List Nat} (h : Beg n p) (hl : p.length = n) {s : Nat} (hs : s < 2 ^ n) : memB s (renL n p A) = vecB A (invL n p) s := by
  obtain ⟨h1, h2, _⟩ := inv_beg h hl
  have e : back p s = image (invL n p) s := by
    have := h.back_image (s := image (invL n p) s) (by rw [hl]; exact h1.image_lt _)
    rw [inv_image h hl hs] at this
    exact this
  unfold vecB
  rw [← e, Bool.eq_iff_iff]
  unfold memB
  rw [decide_eq_true_iff, decide_eq_true_iff, mem_ren]
  exact ⟨fun h => h.2, fun h => ⟨hs, h⟩⟩
theorem vec_ren {n : Nat} {q A : List Nat} (h : Beg n q) (hl : q.length = n) {s : Nat} (hs : s < 2 ^ n) : vecB A q s = memB s (renL n (invL n q) A) := by
  obtain ⟨h1, h2, _⟩ := inv_beg h hl
  have e : back (invL n q) s = image q s := by
    have e1 := h1.image_back h2 hs
    rw [← e1, inv_image h hl (by have := back_lt (invL n q) s; rw [h2] at this; exact this), e1]
  unfold vecB
  rw [← e, Bool.eq_iff_iff]
  unfold memB
  rw [decide_eq_true_iff, decide_eq_true_iff, mem_ren]
  exact ⟨fun h => ⟨hs, h⟩, fun h => h.2⟩
theorem fam_ext {n : Nat} {A B : List Nat} (fA : Fam n A) (fB : Fam n B) (h : ∀ s, s < 2 ^ n → memB s A = memB s B) : A = B := by
  refine sorted_ext fA.up fB.up fun t => ?_
  have key : ∀ {X Y : List Nat}, Fam n X → (∀ s, s < 2 ^ n → memB s X = memB s Y) → t ∈ X → t ∈ Y := fun fX h ht => by
    have := h t (fX.lt t ht)
    unfold memB at this
    rw [decide_eq_true ht] at this
    exact of_decide_eq_true this.symm
  exact ⟨key fA h, key fB fun s hs => (h s hs).symm⟩
/-- The least one is one of the renamed ones, and none is less. -/
theorem can_spec {n : Nat} {A : List Nat} (hf : Fam n A) : (∃ p, (Beg n p ∧ p.length = n) ∧ renL n p A = canL n A) ∧ ∀ p, Beg n p → p.length = n → leV (2 ^ n) (fun s => memB s (canL n A)) fun s => memB s (renL n p A) := by
  have h0 : canF A (fun s => memB s A) [] = true := noGr_all fun t ht => by
    have : t = 0 := by simpa using ht
    subst this
    unfold vecB
    rw [image_zero]
  obtain ⟨_, h1, h2, h3⟩ := can_walk A n n (fun s => memB s A) [] (by simp) h0
  constructor
  · rcases h1 with h1 | ⟨q, hq, e⟩
    · refine ⟨List.range n, ⟨⟨fun x hx => List.mem_range.1 hx, List.nodup_range⟩, by simp⟩, fam_ext (ren_fam _ _ _) (can_fam n A) fun s hs => ?_⟩
      rw [mem_can hs]
      unfold canV
      rw [h1, Bool.eq_iff_iff]
      have hr : Beg n (List.range n) := ⟨fun x hx => List.mem_range.1 hx, List.nodup_range⟩
      unfold memB
      rw [decide_eq_true_iff, decide_eq_true_iff, hr.mem_image (by simp) hf]
      constructor
      · rintro ⟨b, hb, rfl⟩
        rw [image_range (hf.lt b hb)]
        exact hb
      · intro h
        exact ⟨s, h, image_range hs⟩
    · obtain ⟨g1, g2⟩ := goes_iff.1 hq
      obtain ⟨g3, g4, _⟩ := inv_beg g1 g2
      refine ⟨invL n q, ⟨g3, g4⟩, fam_ext (ren_fam _ _ _) (can_fam n A) fun s hs => ?_⟩
      rw [mem_can hs, ← vec_ren g1 g2 hs]
      unfold canV
      rw [e]
  · intro p hp hl
    obtain ⟨g3, g4, _⟩ := inv_beg hp hl
    exact (h3 _ (goes_iff.2 ⟨g3, g4⟩)).congr (fun t ht => (mem_can ht).symm) fun t ht => (ren_vec hp hl ht).symm
/-- Other names have the same least list. -/
theorem can_ren {n : Nat} {A p : List Nat} (hf : Fam n A) (hp : Beg n p) (hl : p.length = n) : canL n (renL n p A) = canL n A := by
  obtain ⟨⟨a, ⟨a1, a2⟩, a3⟩, a4⟩ := can_spec hf
  obtain ⟨⟨b, ⟨b1, b2⟩, b3⟩, b4⟩ := can_spec (ren_fam n p A)
  refine fam_ext (can_fam _ _) (can_fam _ _) (leV.anti ?_ ?_)
  · obtain ⟨g3, g4, g5⟩ := inv_beg hp hl
    have h1 := b4 (comp a (invL n p)) (a1.comp a2 g3) (by rw [comp_len, g4])
    have e : renL n (comp a (invL n p)) (renL n p A) = canL n A := by
      rw [ren_comp a1 a2 g3 g4 (ren_fam n p A), ← a3]
      congr 1
      rw [← ren_comp g3 g4 hp hl hf]
      refine fam_ext (ren_fam _ _ _) hf fun s hs => ?_
      have hc := g3.comp g4 hp
      have hlc : (comp (invL n p) p).length = n := by rw [comp_len, hl]
      have key : ∀ t, t < 2 ^ n → image (comp (invL n p) p) t = t := fun t ht => by
        rw [← image_comp (fun x hx => by rw [g4]; exact hp.lt x hx)]
        refine hp.image_inj (by rw [hl]; exact g3.image_lt _) (by rw [hl]; exact ht) ?_
        exact inv_image hp hl (hp.image_lt t)
      rw [Bool.eq_iff_iff]
      unfold memB
      rw [decide_eq_true_iff, decide_eq_true_iff, hc.mem_image hlc hf]
      constructor
      · rintro ⟨x, hx, rfl⟩
        rw [key x (hf.lt x hx)]
        exact hx
      · intro h
        exact ⟨s, h, key s hs⟩
    rw [e] at h1
    exact h1
  · have h1 := a4 (comp b p) (b1.comp b2 hp) (by rw [comp_len, hl])
    rw [ren_comp b1 b2 hp hl hf, b3] at h1
    exact h1
end Go.Proofs.YtdabkgbbalooiaaDoor

namespace Go.Proofs.YtdabkgbbalooiaaDoor

/-- What i becomes by the orders of a list. -/
def toS (G : List (List Nat)) (i : Nat) : Nat := G.foldl (fun u q => u ||| 2 ^ q.getD i 0) 0
theorem toS_fold {i j : Nat} : ∀ (G : List (List Nat)) (u : Nat), (G.foldl (fun u q => u ||| 2 ^ q.getD i 0) u).testBit j = (u.testBit j || G.any fun q => decide (q.getD i 0 = j))
  | [], u => by simp
  | q :: G, u => by
    rw [List.foldl_cons, toS_fold G, Nat.testBit_or, Nat.testBit_two_pow, List.any_cons, Bool.or_assoc]
theorem toS_bit {G : List (List Nat)} {i j : Nat} : (toS G i).testBit j = true ↔ ∃ q ∈ G, q.getD i 0 = j := by
  unfold toS
  rw [toS_fold, Nat.zero_testBit, Bool.false_or, List.any_eq_true]
  constructor
  · rintro ⟨q, hq, h⟩
    exact ⟨q, hq, of_decide_eq_true h⟩
  · rintro ⟨q, hq, h⟩
    exact ⟨q, hq, decide_eq_true h⟩
def orbS (n : Nat) (A : List Nat) (i : Nat) : Nat := toS (isoL n A A) i
/-- The sets that elements are in. -/
def orbL (n : Nat) (A : List Nat) : List Nat := (List.range (2 ^ n)).filter fun s => memB s ((List.range n).map (orbS n A))
theorem orbS_lt {n : Nat} {A : List Nat} {i : Nat} (hi : i < n) : orbS n A i < 2 ^ n := lt_of_bits fun j hj => by
  obtain ⟨q, hq, rfl⟩ := toS_bit.1 hj
  obtain ⟨⟨h1, h2⟩, _⟩ := isoL_mem.1 hq
  exact h1.at (by omega)
theorem orb_fam (n : Nat) (A : List Nat) : Fam n (orbL n A) := Fam.range n _
theorem mem_orb {n : Nat} {A : List Nat} {s : Nat} : s ∈ orbL n A ↔ ∃ i, i < n ∧ orbS n A i = s := by
  unfold orbL memB
  rw [List.mem_filter, List.mem_range, decide_eq_true_iff, List.mem_map]
  constructor
  · rintro ⟨_, i, hi, rfl⟩
    exact ⟨i, List.mem_range.1 hi, rfl⟩
  · rintro ⟨i, hi, rfl⟩
    exact ⟨orbS_lt hi, i, List.mem_range.2 hi, rfl⟩
theorem iso_one {n : Nat} {A : List Nat} (hf : Fam n A) : List.range n ∈ isoL n A A := by
  have hr : Beg n (List.range n) := ⟨fun x hx => List.mem_range.1 hx, List.nodup_range⟩
  refine isoL_mem.2 ⟨⟨hr, by simp⟩, fam_ext (ren_fam _ _ _) hf fun s hs => ?_⟩
  rw [Bool.eq_iff_iff]
  unfold memB
  rw [decide_eq_true_iff, decide_eq_true_iff, hr.mem_image (by simp) hf]
  constructor
  · rintro ⟨b, hb, rfl⟩
    rw [image_range (hf.lt b hb)]
    exact hb
  · intro h
    exact ⟨s, h, image_range hs⟩
theorem iso_comp {n : Nat} {A a b : List Nat} (hf : Fam n A) (ha : a ∈ isoL n A A) (hb : b ∈ isoL n A A) : comp a b ∈ isoL n A A := by
  obtain ⟨⟨a1, a2⟩, a3⟩ := isoL_mem.1 ha
  obtain ⟨⟨b1, b2⟩, b3⟩ := isoL_mem.1 hb
  exact isoL_mem.2 ⟨⟨a1.comp a2 b1, by rw [comp_len, b2]⟩, by rw [ren_comp a1 a2 b1 b2 hf, b3, a3]⟩
theorem range_beg (n : Nat) : Beg n (List.range n) := ⟨fun _ hx => List.mem_range.1 hx, List.nodup_range⟩
/-- Both ways round. -/
theorem inv_both {n : Nat} {p : List Nat} (h : Beg n p) (hl : p.length = n) {i : Nat} (hi : i < n) : p.getD ((invL n p).getD i 0) 0 = i ∧ (invL n p).getD (p.getD i 0) 0 = i := by
  obtain ⟨h1, h2, h3⟩ := inv_beg h hl
  have key : ∀ j, j < n → p.getD ((invL n p).getD j 0) 0 = j := fun j hj => by
    rw [← comp_at (a := p) (by omega : j < (invL n p).length), h3, range_at hj]
  refine ⟨key i hi, ?_⟩
  have hp := h.at (by omega : i < p.length)
  exact h.inj (by rw [hl]; exact h1.at (by omega)) (by omega) (key _ hp)
theorem ren_inv {n : Nat} {A p : List Nat} (hf : Fam n A) (hp : Beg n p) (hl : p.length = n) : renL n (invL n p) (renL n p A) = A := by
  obtain ⟨g3, g4, g5⟩ := inv_beg hp hl
  rw [← ren_comp g3 g4 hp hl hf]
  refine fam_ext (ren_fam _ _ _) hf fun s hs => ?_
  have hc := g3.comp g4 hp
  have hlc : (comp (invL n p) p).length = n := by rw [comp_len, hl]
  have key : ∀ t, t < 2 ^ n → image (comp (invL n p) p) t = t := fun t ht => by
    rw [← image_comp (fun x hx => by rw [g4]; exact hp.lt x hx)]
    refine hp.image_inj (by rw [hl]; exact g3.image_lt _) (by rw [hl]; exact ht) ?_
    exact inv_image hp hl (hp.image_lt t)
  rw [Bool.eq_iff_iff]
  unfold memB
  rw [decide_eq_true_iff, decide_eq_true_iff, hc.mem_image hlc hf]
  constructor
  · rintro ⟨x, hx, rfl⟩
    rw [key x (hf.lt x hx)]
    exact hx
  · intro h
    exact ⟨s, h, key s hs⟩
theorem iso_inv {n : Nat} {A a : List Nat} (hf : Fam n A) (ha : a ∈ isoL n A A) : invL n a ∈ isoL n A A := by
  obtain ⟨⟨a1, a2⟩, a3⟩ := isoL_mem.1 ha
  obtain ⟨g3, g4, _⟩ := inv_beg a1 a2
  refine isoL_mem.2 ⟨⟨g3, g4⟩, ?_⟩
  have := ren_inv hf a1 a2
  rwa [a3] at this
/-- Where j is of i's, both have the same. -/
theorem orb_same {n : Nat} {A : List Nat} (hf : Fam n A) {i j : Nat} (hi : i < n) (h : (orbS n A i).testBit j = true) : orbS n A i = orbS n A j := by
  obtain ⟨q, hq, rfl⟩ := toS_bit.1 h
  obtain ⟨⟨q1, q2⟩, _⟩ := isoL_mem.1 hq
  refine Nat.eq_of_testBit_eq fun k => ?_
  rw [Bool.eq_iff_iff]
  unfold orbS
  rw [toS_bit, toS_bit]
  constructor
  · rintro ⟨r, hr, rfl⟩
    obtain ⟨⟨r1, r2⟩, _⟩ := isoL_mem.1 hr
    obtain ⟨g3, g4, _⟩ := inv_beg q1 q2
    refine ⟨comp r (invL n q), iso_comp hf hr (iso_inv hf hq), ?_⟩
    rw [comp_at (by rw [g4]; exact q1.at (by omega)), (inv_both q1 q2 hi).2]
  · rintro ⟨r, hr, rfl⟩
    exact ⟨comp r q, iso_comp hf hr hq, comp_at (by omega)⟩
theorem orb_self {n : Nat} {A : List Nat} (hf : Fam n A) {i : Nat} (hi : i < n) : (orbS n A i).testBit i = true := toS_bit.2 ⟨_, iso_one hf, range_at hi⟩
/-- Two that have an element together are one. -/
theorem orb_meet {n : Nat} {A : List Nat} (hf : Fam n A) {s t : Nat} (hs : s ∈ orbL n A) (ht : t ∈ orbL n A) (h : s &&& t ≠ 0) : s = t := by
  obtain ⟨i, hi, rfl⟩ := mem_orb.1 hs
  obtain ⟨k, hk, rfl⟩ := mem_orb.1 ht
  obtain ⟨j, hj⟩ := exists_bit h
  rw [Nat.testBit_and, Bool.and_eq_true] at hj
  rw [orb_same hf hi hj.1, orb_same hf hk hj.2]
/-- As many orders take i to the one as to the other. -/
theorem orb_count {n : Nat} {A : List Nat} (hf : Fam n A) {i j : Nat} (hi : i < n) (h : (orbS n A i).testBit j = true) : (isoL n A A).countP (fun q => [q.getD i 0] == [j]) = (isoL n A A).countP fun q => [q.getD i 0] == [i] := by
  obtain ⟨a, ha, rfl⟩ := toS_bit.1 h
  obtain ⟨⟨a1, a2⟩, _⟩ := isoL_mem.1 ha
  have hperm : ((isoL n A A).map (comp a)).Perm (isoL n A A) := by
    have hnd : (isoL n A A).Nodup := (goes_nodup n []).sublist List.filter_sublist
    refine (List.perm_ext_iff_of_nodup ?_ hnd).2 fun x => ?_
    · refine List.pairwise_map.2 (List.Pairwise.imp_of_mem (fun {q r} hq hr hqr e => hqr ?_) hnd)
      obtain ⟨⟨q1, q2⟩, _⟩ := isoL_mem.1 hq
      obtain ⟨⟨r1, r2⟩, _⟩ := isoL_mem.1 hr
      refine List.ext_getElem (by omega) fun k h1 h2 => ?_
      have e1 : (comp a q).getD k 0 = (comp a r).getD k 0 := by rw [e]
      rw [comp_at h1, comp_at h2] at e1
      have := a1.inj (by rw [a2]; exact q1.at h1) (by rw [a2]; exact r1.at h2) e1
      simpa [List.getD, h1, h2] using this
    · rw [List.mem_map]
      constructor
      · rintro ⟨q, hq, rfl⟩
        exact iso_comp hf ha hq
      · intro hx
        obtain ⟨⟨x1, x2⟩, _⟩ := isoL_mem.1 hx
        obtain ⟨g3, g4, _⟩ := inv_beg a1 a2
        refine ⟨comp (invL n a) x, iso_comp hf (iso_inv hf ha) hx, ?_⟩
        refine List.ext_getElem (by rw [comp_len, comp_len]) fun k h1 h2 => ?_
        have e1 : (comp a (comp (invL n a) x)).getD k 0 = x.getD k 0 := by
          rw [comp_at (by rw [comp_len]; exact h2), comp_at h2, (inv_both a1 a2 (x1.at h2)).1]
        simpa [List.getD, h1, h2] using e1
  rw [← hperm.countP_eq, List.countP_map]
  refine List.countP_congr fun q hq => ?_
  obtain ⟨⟨q1, q2⟩, _⟩ := isoL_mem.1 hq
  simp only [Function.comp_apply, beq_iff_eq, List.cons.injEq, and_true]
  rw [comp_at (by omega)]
  constructor
  · intro e
    exact a1.inj (by rw [a2]; exact q1.at (by omega)) (by omega) e
  · intro e
    rw [e]
/-- The number of elements of a set, counted one by one. -/
theorem pop_list {n : Nat} (hn : n ≤ 8) : ∀ (N : Nat) {s : Nat}, pop s ≤ N → s < 2 ^ n → ((List.range n).filter s.testBit).length = pop s := by
  intro N
  induction N with
  | zero =>
    intro s h0 hs
    have : s = 0 := (pop_pos s (lt256 hn hs)).1 (by omega)
    subst this
    rw [List.filter_eq_nil_iff.2 (fun x _ h => by rw [Nat.zero_testBit] at h; cases h)]
    decide
  | succ N ih =>
    intro s hN hs
    by_cases e0 : s = 0
    · subst e0
      exact ih (by rw [show pop 0 = 0 from by decide]; omega) hs
    · obtain ⟨i, hi⟩ := exists_bit e0
      have hs8 := lt256 hn hs
      have h1 := pop_rm' hs8 hi
      have hlt := rm_lt hs8 hi
      have h2 := ih (s := rm s i) (by omega) (by omega)
      have hil := bit_lt hs hi
      have hc : ((List.range n).filter s.testBit).length = ((List.range n).filter (rm s i).testBit).length + ((List.range n).filter fun x => decide (x = i)).length := by
        rw [← List.countP_eq_length_filter, ← List.countP_eq_length_filter, ← List.countP_eq_length_filter]
        generalize List.range n = G
        induction G with
        | nil => rfl
        | cons x G ih2 =>
          rw [List.countP_cons, List.countP_cons, List.countP_cons, ih2, rm_bit]
          by_cases ex : i = x
          · subst ex
            simp [hi]
            omega
          · have : ¬ x = i := fun e => ex e.symm
            simp [ex, this]
            omega
      have h3 : ((List.range n).filter fun x => decide (x = i)).length = 1 := by
        rw [← List.countP_eq_length_filter]
        have := List.nodup_range (n := n) |>.count (a := i)
        rw [if_pos (List.mem_range.2 hil), List.count_eq_countP] at this
        rw [← this]
        exact List.countP_congr fun x _ => by simp
      omega
/-- A set's size is one of the group's number. -/
theorem orb_divides {n : Nat} {A : List Nat} (hn : n ≤ 8) (hf : Fam n A) {s : Nat} (hs : s ∈ orbL n A) : (isoL n A A).length % pop s = 0 := by
  obtain ⟨i, hi, rfl⟩ := mem_orb.1 hs
  have hD : (((List.range n).filter (orbS n A i).testBit).map fun j => [j]).Nodup := by
    refine List.pairwise_map.2 (List.Pairwise.imp (fun h e => h (by simpa using e)) (List.nodup_range.sublist List.filter_sublist))
  have h1 := count_sum (c := (isoL n A A).countP fun q => [q.getD i 0] == [i]) (fun q => [q.getD i 0]) (isoL n A A) _ hD (fun d hd => by
    obtain ⟨j, hj, rfl⟩ := List.mem_map.1 hd
    exact orb_count hf hi (List.mem_filter.1 hj).2)
  rw [List.length_map, pop_list hn _ (Nat.le_refl _) (orbS_lt hi)] at h1
  have h2 : (isoL n A A).countP (fun q => decide ([q.getD i 0] ∈ (((List.range n).filter (orbS n A i).testBit).map fun j => [j]))) = (isoL n A A).length := by
    rw [List.countP_eq_length]
    intro q hq
    obtain ⟨⟨q1, q2⟩, _⟩ := isoL_mem.1 hq
    rw [decide_eq_true_iff, List.mem_map]
    exact ⟨q.getD i 0, List.mem_filter.2 ⟨List.mem_range.2 (q1.at (by omega)), toS_bit.2 ⟨q, hq, rfl⟩⟩, rfl⟩
  rw [h2] at h1
  rw [h1]
  exact Nat.mul_mod_right _ _
def fac : Nat → Nat
  | 0 => 1
  | n + 1 => (n + 1) * fac n
/-- There are so many orders. -/
theorem goes_fac {n : Nat} : ∀ (k : Nat) (p : List Nat), Beg n p → p.length + k = n → (goes n k p).length = fac k
  | 0, p, _, _ => rfl
  | k + 1, p, hb, hl => by
    rw [goes, fac]
    have h : ∀ (xs : List Nat), (∀ x ∈ xs, x < n) → (xs.flatMap fun x => if x ∈ p then [] else goes n k (p ++ [x])).length = (xs.countP fun x => decide (x ∉ p)) * fac k := fun xs => by
      induction xs with
      | nil => intro _; simp
      | cons x xs ih =>
        intro hx
        rw [List.flatMap_cons, List.length_append, List.countP_cons, ih fun y hy => hx y (List.mem_cons_of_mem _ hy)]
        by_cases hm : x ∈ p
        · rw [if_pos hm]
          simp [hm]
        · rw [if_neg hm, goes_fac k (p ++ [x]) ?_ (by simp; omega)]
          · simp [hm, Nat.add_mul, Nat.add_comm]
          · refine ⟨fun y hy => ?_, ?_⟩
            · rcases List.mem_append.1 hy with hy | hy
              · exact hb.lt y hy
              · rw [List.mem_singleton.1 hy]; exact hx x List.mem_cons_self
            · rw [List.nodup_append]
              refine ⟨hb.once, List.nodup_cons.2 ⟨List.not_mem_nil, List.nodup_nil⟩, fun a ha b hb' => ?_⟩
              rw [List.mem_singleton.1 hb']
              rintro rfl
              exact hm ha
    rw [h _ fun x hx => List.mem_range.1 hx]
    congr 1
    have h1 : (List.range n).countP (fun x => decide (x ∉ p)) + (List.range n).countP (fun x => decide (x ∈ p)) = n := by
      have := List.length_eq_countP_add_countP (fun x => decide (x ∉ p)) (l := List.range n)
      rw [List.length_range] at this
      have e : (List.range n).countP (fun a => decide ¬ (decide (a ∉ p)) = true) = (List.range n).countP fun x => decide (x ∈ p) := List.countP_congr fun x _ => by simp
      omega
    have h2 : (List.range n).countP (fun x => decide (x ∈ p)) = p.length := by
      rw [List.countP_eq_length_filter]
      refine List.Perm.length_eq ((List.perm_ext_iff_of_nodup (List.nodup_range.sublist List.filter_sublist) hb.once).2 fun x => ?_)
      rw [List.mem_filter, List.mem_range, decide_eq_true_iff]
      exact ⟨fun h => h.2, fun h => ⟨hb.lt x h, h⟩⟩
    omega
/-- LAGRANGE: the group's number is one of all orders'. -/
theorem iso_divides {n : Nat} {A : List Nat} (hf : Fam n A) : fac n % (isoL n A A).length = 0 := by
  have h := lagrange hf
  rw [goes_fac n [] (beg_nil n) (by simp)] at h
  rw [← h]
  exact Nat.mul_mod_left _ _
theorem iso_pos {n : Nat} {A : List Nat} (hf : Fam n A) : 0 < (isoL n A A).length := List.length_pos_of_mem (iso_one hf)
/-- Other names have as large a group. -/
theorem iso_ren {n : Nat} {A p : List Nat} (hf : Fam n A) (hp : Beg n p) (hl : p.length = n) : (isoL n (renL n p A) (renL n p A)).length = (isoL n A A).length := by
  rw [← fiber hf (goes_iff.2 ⟨hp, hl⟩), List.countP_eq_length_filter]
  have hnd : ((goes n n []).filter fun q => renL n q A == renL n p A).Nodup := (goes_nodup n []).sublist List.filter_sublist
  have hnd2 : (isoL n (renL n p A) (renL n p A)).Nodup := (goes_nodup n []).sublist List.filter_sublist
  have hperm : ((isoL n (renL n p A) (renL n p A)).map fun q => comp q p).Perm ((goes n n []).filter fun q => renL n q A == renL n p A) := by
    refine (List.perm_ext_iff_of_nodup ?_ hnd).2 fun x => ?_
    · refine List.pairwise_map.2 (List.Pairwise.imp_of_mem (fun {q r} hq hr hqr e => hqr ?_) hnd2)
      obtain ⟨⟨q1, q2⟩, _⟩ := isoL_mem.1 hq
      obtain ⟨⟨r1, r2⟩, _⟩ := isoL_mem.1 hr
      refine List.ext_getElem (by omega) fun k h1 h2 => ?_
      obtain ⟨i, hi, rfl⟩ := hp.all hl (show k < n by omega)
      have e1 : (comp q p).getD i 0 = (comp r p).getD i 0 := by rw [e]
      rw [comp_at (by omega), comp_at (by omega)] at e1
      generalize p.getD i 0 = k at *
      simpa [List.getD, h1, h2] using e1
    · rw [List.mem_map, List.mem_filter, beq_iff_eq]
      constructor
      · rintro ⟨q, hq, rfl⟩
        obtain ⟨⟨q1, q2⟩, q3⟩ := isoL_mem.1 hq
        exact ⟨goes_iff.2 ⟨q1.comp q2 hp, by rw [comp_len, hl]⟩, by rw [ren_comp q1 q2 hp hl hf, q3]⟩
      · rintro ⟨hx, hx3⟩
        obtain ⟨x1, x2⟩ := goes_iff.1 hx
        obtain ⟨g3, g4, _⟩ := inv_beg hp hl
        refine ⟨comp x (invL n p), isoL_mem.2 ⟨⟨x1.comp x2 g3, by rw [comp_len, g4]⟩, ?_⟩, ?_⟩
        · rw [ren_comp x1 x2 g3 g4 (ren_fam n p A), ren_inv hf hp hl, hx3]
        · refine List.ext_getElem (by rw [comp_len, hl, x2]) fun k h1 h2 => ?_
          have hk : k < n := by omega
          have e1 : (comp (comp x (invL n p)) p).getD k 0 = x.getD k 0 := by
            rw [comp_at (by omega), comp_at (by rw [g4]; exact hp.at (by omega)), (inv_both hp hl hk).2]
          simpa [List.getD, h1, h2] using e1
  rw [← hperm.length_eq, List.length_map]
/-- All that is in the first i of them. -/
def orT (L : List Nat) (i : Nat) : Nat := (L.take i).foldl (· ||| ·) 0
theorem orT_fold : ∀ (L : List Nat) (u j : Nat), (L.foldl (· ||| ·) u).testBit j = (u.testBit j || L.any fun s => s.testBit j)
  | [], u, j => by simp
  | s :: L, u, j => by rw [List.foldl_cons, orT_fold L, Nat.testBit_or, List.any_cons, Bool.or_assoc]
theorem orT_bit {L : List Nat} {i j : Nat} : (orT L i).testBit j = true ↔ ∃ s ∈ L.take i, s.testBit j = true := by
  unfold orT
  rw [orT_fold, Nat.zero_testBit, Bool.false_or, List.any_eq_true]
theorem orT_succ {L : List Nat} {i : Nat} (h : i < L.length) : orT L (i + 1) = orT L i ||| L.getD i 0 := by
  unfold orT
  rw [List.take_add_one, List.foldl_append, List.getElem?_eq_getElem h]
  simp [List.getD, h]
theorem orT_lt {n : Nat} {L : List Nat} (hL : ∀ s ∈ L, s < 2 ^ n) (i : Nat) : orT L i < 2 ^ n := lt_of_bits fun j hj => by
  obtain ⟨s, hs, hb⟩ := orT_bit.1 hj
  exact bit_lt (hL s (List.mem_of_mem_take hs)) hb
theorem orb_free {n : Nat} {A : List Nat} (hf : Fam n A) {i : Nat} (hi : i < (orbL n A).length) : orT (orbL n A) i &&& (orbL n A).getD i 0 = 0 := by
  refine Classical.byContradiction fun c => ?_
  obtain ⟨j, hj⟩ := exists_bit c
  rw [Nat.testBit_and, Bool.and_eq_true] at hj
  obtain ⟨s, hs, hb⟩ := orT_bit.1 hj.1
  obtain ⟨k, hk, e⟩ := List.mem_take_iff_getElem.1 hs
  have hm : (orbL n A).getD i 0 ∈ orbL n A := by simp [List.getD, hi]
  have hs2 : s ∈ orbL n A := List.mem_of_mem_take hs
  have hne : s &&& (orbL n A).getD i 0 ≠ 0 := fun e0 => by
    have : (s &&& (orbL n A).getD i 0).testBit j = true := by rw [Nat.testBit_and, hb, hj.2]; rfl
    rw [e0, Nat.zero_testBit] at this
    cases this
  have h1 := orb_meet hf hs2 hm hne
  have hki : k < i := by omega
  have h2 := List.pairwise_iff_getElem.1 (orb_fam n A).up k i (by omega) hi hki
  rw [e, h1] at h2
  simp [List.getD, hi] at h2
theorem orb_all {n : Nat} {A : List Nat} (hf : Fam n A) : orT (orbL n A) (orbL n A).length = 2 ^ n - 1 := Nat.eq_of_testBit_eq fun j => by
  rw [Nat.testBit_two_pow_sub_one, Bool.eq_iff_iff, orT_bit, List.take_length, decide_eq_true_iff]
  constructor
  · rintro ⟨s, hs, hb⟩
    exact bit_lt ((orb_fam n A).lt s hs) hb
  · intro hj
    exact ⟨_, mem_orb.2 ⟨j, hj, rfl⟩, orb_self hf hj⟩
theorem orb_pos {n : Nat} {A : List Nat} (hn : n ≤ 8) (hf : Fam n A) {s : Nat} (hs : s ∈ orbL n A) : pop s ≠ 0 := by
  obtain ⟨i, hi, rfl⟩ := mem_orb.1 hs
  intro e
  have := (pop_pos _ (lt256 hn (orbS_lt hi))).1 e
  have h1 := orb_self hf hi
  rw [this, Nat.zero_testBit] at h1
  cases h1
theorem fac_le {n : Nat} (hn : n ≤ 8) : fac n ≤ 40320 := by
  have : ∀ k, k ≤ 8 → fac k ≤ 40320 := by decide
  exact this n hn
theorem tmod_nat (a b : Nat) (h : a % b = 0) : Int.tmod (a : Int) (b : Int) = 0 := by
  rw [Int.tmod_eq_emod_of_nonneg (by omega)]
  omega
end Go.Proofs.YtdabkgbbalooiaaDoor

namespace Go.Proofs.YtdabkgbbalooiaaDoor

theorem top_add {n s : Nat} (hs : s < 2 ^ n) : s ||| 2 ^ n = s + 2 ^ n := by
  have := Nat.two_pow_add_eq_or_of_lt hs 1
  rw [Nat.mul_one] at this
  rw [Nat.or_comm, Nat.add_comm, ← this]
theorem top_lt {n s : Nat} (hs : s < 2 ^ n) : s ||| 2 ^ n < 2 ^ (n + 1) := by rw [top_add hs, Nat.pow_succ]; omega
theorem up_lt {n s : Nat} (hs : s < 2 ^ n) : s < 2 ^ (n + 1) := by rw [Nat.pow_succ]; omega
theorem top_cpl {n s : Nat} (hs : s < 2 ^ n) : 2 ^ (n + 1) - 1 - s = (2 ^ n - 1 - s) ||| 2 ^ n := by
  rw [top_add (by omega), Nat.pow_succ]; omega
theorem top_cpl' {n s : Nat} (hs : s < 2 ^ n) : 2 ^ (n + 1) - 1 - (s ||| 2 ^ n) = 2 ^ n - 1 - s := by
  rw [top_add hs, Nat.pow_succ]; omega
theorem no_top {n s : Nat} (hs : s < 2 ^ n) : s.testBit n = false := Nat.testBit_lt_two_pow hs
theorem or_ltn {n s t : Nat} (hs : s < 2 ^ n) (ht : t < 2 ^ n) : s ||| t < 2 ^ n := Nat.or_lt_two_pow hs ht
theorem RkOn.down {n : Nat} {r : Nat → Nat} (h : RkOn (n + 1) r) : RkOn n r :=
  ⟨fun s hs => h.le s (up_lt hs), fun s t hs ht => h.mono s t (up_lt hs) (up_lt ht), fun s t hs ht => h.sub s t (up_lt hs) (up_lt ht)⟩
theorem RkOn.add {n : Nat} {r : Nat → Nat} (h : RkOn n r) {s t : Nat} (hs : s < 2 ^ n) (ht : t < 2 ^ n) : r (s ||| t) ≤ r s + r t := by
  have := h.sub s t hs ht; omega
theorem RkOn.con {n : Nat} {r : Nat → Nat} (hn : n < 8) (h : RkOn (n + 1) r) (h1 : 1 ≤ r (2 ^ n)) : RkOn n (fun s => r (s ||| 2 ^ n) - 1) := by
  have he : 2 ^ n < 2 ^ (n + 1) := by rw [Nat.pow_succ]; have := Nat.two_pow_pos n; omega
  have hge : ∀ s, s < 2 ^ n → 1 ≤ r (s ||| 2 ^ n) := fun s hs => Nat.le_trans h1 (h.mono _ _ he (top_lt hs) (subB_iff.2 fun i hi => by rw [Nat.testBit_or, hi]; simp))
  refine ⟨fun s hs => ?_, fun s t hs ht hst => ?_, fun s t hs ht => ?_⟩
  · have := h.le _ (top_lt hs)
    rw [pop_ad s (Nat.lt_of_lt_of_le hs (Nat.pow_le_pow_right (by omega) (by omega : n ≤ 8))) n hn (no_top hs)] at this
    omega
  · have := h.mono _ _ (top_lt hs) (top_lt ht) (subB_iff.2 fun i hi => by
      rw [Nat.testBit_or] at hi ⊢
      have := subB_iff.1 hst i
      cases e : s.testBit i <;> simp_all)
    omega
  · have h2 := h.sub _ _ (top_lt hs) (top_lt ht)
    have e1 : (s ||| 2 ^ n) ||| (t ||| 2 ^ n) = (s ||| t) ||| 2 ^ n := Nat.eq_of_testBit_eq fun j => by
      simp only [Nat.testBit_or]; cases s.testBit j <;> cases t.testBit j <;> cases (2 ^ n).testBit j <;> rfl
    have e2 : (s ||| 2 ^ n) &&& (t ||| 2 ^ n) = (s &&& t) ||| 2 ^ n := Nat.eq_of_testBit_eq fun j => by
      simp only [Nat.testBit_or, Nat.testBit_and]; cases s.testBit j <;> cases t.testBit j <;> cases (2 ^ n).testBit j <;> rfl
    rw [e1, e2] at h2
    have h3 := hge (s ||| t) (or_ltn hs ht)
    have h4 := hge (s &&& t) (and_ltn hs)
    have h5 := hge s hs
    have h6 := hge t ht
    omega
/-- EDMONDS: where no set bars it there is a set of k elements that is independent in both. -/
theorem isect : ∀ (n : Nat), n ≤ 8 → ∀ (r q : Nat → Nat), RkOn n r → RkOn n q → ∀ k, (∀ s, s < 2 ^ n → k ≤ r s + q (2 ^ n - 1 - s)) → ∃ i, i < 2 ^ n ∧ pop i = k ∧ r i = k ∧ q i = k := by
  intro n
  induction n with
  | zero =>
    intro _ r q hr hq k hk
    have h1 := hk 0 (by decide)
    have h2 := hr.zero
    have h3 := hq.zero
    have e : 2 ^ 0 - 1 - 0 = 0 := rfl
    rw [e, h2, h3] at h1
    have e2 : k = 0 := by omega
    subst e2
    exact ⟨0, by decide, by decide, h2, h3⟩
  | succ n ih =>
    intro hn r q hr hq k hk
    by_cases hA : ∀ s, s < 2 ^ n → k ≤ r s + q (2 ^ n - 1 - s)
    · obtain ⟨i, h1, h2⟩ := ih (by omega) r q hr.down hq.down k hA
      exact ⟨i, up_lt h1, h2⟩
    · obtain ⟨s, hs⟩ := Classical.not_forall.1 hA
      obtain ⟨hs, hlt⟩ := Classical.not_imp.1 hs
      have hlt : r s + q (2 ^ n - 1 - s) < k := by omega
      have hcs : 2 ^ n - 1 - s < 2 ^ n := by have := Nat.two_pow_pos n; omega
      have he : 2 ^ n < 2 ^ (n + 1) := by rw [Nat.pow_succ]; have := Nat.two_pow_pos n; omega
      have r1 : 1 ≤ r (2 ^ n) := by
        have h1 := hk (s ||| 2 ^ n) (top_lt hs)
        rw [top_cpl' hs] at h1
        have h2 := hr.add (up_lt hs) he
        omega
      have q1 : 1 ≤ q (2 ^ n) := by
        have h1 := hk s (up_lt hs)
        rw [top_cpl hs] at h1
        have h2 := hq.add (up_lt hcs) he
        omega
      obtain ⟨i, i1, i2, i3, i4⟩ := ih (by omega) _ _ (hr.con (by omega) r1) (hq.con (by omega) q1) (k - 1) (fun t ht => by
        have hct : 2 ^ n - 1 - t < 2 ^ n := by have := Nat.two_pow_pos n; omega
        have a1 := hr.sub s (t ||| 2 ^ n) (up_lt hs) (top_lt ht)
        have a2 := hq.sub (2 ^ n - 1 - s) ((2 ^ n - 1 - t) ||| 2 ^ n) (up_lt hcs) (top_lt hct)
        have b1 := hk (s &&& t) (up_lt (and_ltn hs))
        have b2 := hk ((s ||| t) ||| 2 ^ n) (top_lt (or_ltn hs ht))
        rw [top_cpl (and_ltn hs), cpl_and hs ht] at b1
        rw [top_cpl' (or_ltn hs ht), cpl_or hs ht] at b2
        have e1 : s ||| (t ||| 2 ^ n) = (s ||| t) ||| 2 ^ n := (Nat.or_assoc ..).symm
        have e2 : s &&& (t ||| 2 ^ n) = s &&& t := and_ad_out (no_top hs)
        have e3 : (2 ^ n - 1 - s) ||| ((2 ^ n - 1 - t) ||| 2 ^ n) = ((2 ^ n - 1 - s) ||| (2 ^ n - 1 - t)) ||| 2 ^ n := (Nat.or_assoc ..).symm
        have e4 : (2 ^ n - 1 - s) &&& ((2 ^ n - 1 - t) ||| 2 ^ n) = (2 ^ n - 1 - s) &&& (2 ^ n - 1 - t) := and_ad_out (no_top hcs)
        rw [e1, e2] at a1
        rw [e3, e4] at a2
        have c1 : 1 ≤ r (t ||| 2 ^ n) := Nat.le_trans r1 (hr.mono _ _ he (top_lt ht) (subB_iff.2 fun i hi => by rw [Nat.testBit_or, hi]; simp))
        have c2 : 1 ≤ q ((2 ^ n - 1 - t) ||| 2 ^ n) := Nat.le_trans q1 (hq.mono _ _ he (top_lt hct) (subB_iff.2 fun i hi => by rw [Nat.testBit_or, hi]; simp))
        omega)
      have p := pop_ad i (Nat.lt_of_lt_of_le i1 (Nat.pow_le_pow_right (by omega) (by omega : n ≤ 8))) n (by omega) (no_top i1)
      have c1 : 1 ≤ r (i ||| 2 ^ n) := Nat.le_trans r1 (hr.mono _ _ he (top_lt i1) (subB_iff.2 fun i hi => by rw [Nat.testBit_or, hi]; simp))
      have c2 : 1 ≤ q (i ||| 2 ^ n) := Nat.le_trans q1 (hq.mono _ _ he (top_lt i1) (subB_iff.2 fun i hi => by rw [Nat.testBit_or, hi]; simp))
      exact ⟨i ||| 2 ^ n, top_lt i1, by omega, by omega, by omega⟩

theorem difn_lt {n a b : Nat} (h : a < 2 ^ n) : dif a b < 2 ^ n := sub_lt (subB_iff.2 fun i hi => by rw [dif_bit] at hi; simp at hi; exact hi.1) h
theorem dif_subl (a b : Nat) : subB (dif a b) a = true := subB_iff.2 fun i hi => by rw [dif_bit] at hi; simp at hi; exact hi.1
theorem RkOn.gap {n : Nat} {r : Nat → Nat} (h : RkOn n r) {a b : Nat} (ha : a < 2 ^ n) (hb : b < 2 ^ n) : r a ≤ r b + pop (dif a b) := by
  have h1 := h.add hb (difn_lt (b := b) ha)
  have h2 := h.le _ (difn_lt (b := b) ha)
  have h3 := h.mono a (b ||| dif a b) ha (or_ltn hb (difn_lt ha)) (subB_iff.2 fun i hi => by rw [Nat.testBit_or, dif_bit, hi]; cases b.testBit i <;> rfl)
  omega
theorem pop_disj {a b : Nat} (h : a &&& b = 0) : pop (a ||| b) = pop a + pop b := by
  have := pop_or_and a b
  rw [h] at this
  have e : pop 0 = 0 := by decide
  omega
/-- GREENE: of two bases, for any elements of the one alone there are some of the other alone. -/
theorem greene {n : Nat} {l : List Nat} (hn : n ≤ 8) (hf : Fam n l) (hb : Bas l) {a b x : Nat} (ha : a ∈ l) (hbb : b ∈ l) (hx : subB x (dif a b) = true) :
    ∃ y, subB y (dif b a) = true ∧ pop y = pop x ∧ (dif a x ||| y) ∈ l ∧ (dif b y ||| x) ∈ l := by
  have self := basR_self hn hf hb
  rw [← self] at ha hbb
  obtain ⟨a1, a2, a3⟩ := mem_basR.1 ha
  obtain ⟨b1, b2, b3⟩ := mem_basR.1 hbb
  have R := hb.rkOn n
  generalize rk l = r at *
  have hx1 : x < 2 ^ n := sub_lt hx (difn_lt a1)
  have c1 : dif a x < 2 ^ n := difn_lt a1
  have xa : ∀ i, x.testBit i = true → a.testBit i = true ∧ b.testBit i = false := fun i hi => by
    have := subB_iff.1 hx i hi
    rw [dif_bit] at this
    simp at this
    exact this
  have ca : dif a x ||| x = a := Nat.eq_of_testBit_eq fun i => by
    rw [Nat.testBit_or, dif_bit]
    have := xa i
    cases e : x.testBit i <;> cases e2 : a.testBit i <;> simp_all
  have cx : dif a x &&& x = 0 := Nat.eq_of_testBit_eq fun i => by
    rw [Nat.testBit_and, dif_bit]
    cases e : x.testBit i <;> simp
  have pc := pop_disj cx
  rw [ca] at pc
  -- what is left of a is independent
  have rc : r (dif a x) = pop (dif a x) := by
    have h1 := R.add c1 hx1
    have h2 := R.le _ c1
    have h3 := R.le _ hx1
    rw [ca] at h1
    omega
  have rx : r x = pop x := by
    have h1 := R.add c1 hx1
    have h2 := R.le _ c1
    have h3 := R.le _ hx1
    rw [ca] at h1
    omega
  have hbs : ∀ s, s &&& b < 2 ^ n := fun s => Nat.lt_of_le_of_lt Nat.and_le_right b1
  have full : 2 ^ n - 1 < 2 ^ n := full_lt n
  have u1 : ∀ s, (s &&& b) ||| dif a x < 2 ^ n := fun s => or_ltn (hbs s) c1
  have u2 : ∀ s, dif b s ||| x < 2 ^ n := fun s => or_ltn (difn_lt b1) hx1
  have g1 : ∀ s, pop (dif a x) ≤ r ((s &&& b) ||| dif a x) := fun s => by
    rw [← rc]
    exact R.mono _ _ c1 (u1 s) (subB_iff.2 fun i hi => by rw [Nat.testBit_or, hi]; simp)
  have top : ∀ s, s < 2 ^ n → r s ≤ r (2 ^ n - 1) := fun s hs => R.mono _ _ hs full (full_sub hs)
  have g2 : ∀ s, r (2 ^ n - 1) ≤ pop (s &&& b) + r (dif b s ||| x) := fun s => by
    have h1 := R.gap b1 (u2 s)
    have h2 : pop (dif b (dif b s ||| x)) ≤ pop (s &&& b) := pop_sub (subB_iff.2 fun i hi => by
      rw [dif_bit, Nat.testBit_or, dif_bit] at hi
      rw [Nat.testBit_and]
      cases e : s.testBit i <;> cases e2 : b.testBit i <;> simp_all)
    omega
  have r1on : RkOn n (fun s => r ((s &&& b) ||| dif a x) - pop (dif a x)) := by
    refine ⟨fun s hs => ?_, fun s t hs ht hst => ?_, fun s t hs ht => ?_⟩
    · have h1 := R.add (hbs s) c1
      have h2 := R.le _ (hbs s)
      have h3 : pop (s &&& b) ≤ pop s := pop_sub (subB_iff.2 fun i hi => by rw [Nat.testBit_and] at hi; simp at hi; exact hi.1)
      omega
    · have := R.mono _ _ (u1 s) (u1 t) (subB_iff.2 fun i hi => by
        rw [Nat.testBit_or, Nat.testBit_and] at hi ⊢
        have := subB_iff.1 hst i
        cases e : s.testBit i <;> cases e2 : b.testBit i <;> simp_all)
      omega
    · have h1 := R.sub _ _ (u1 s) (u1 t)
      have e1 : ((s &&& b) ||| dif a x) ||| ((t &&& b) ||| dif a x) = ((s ||| t) &&& b) ||| dif a x := Nat.eq_of_testBit_eq fun i => by
        simp only [Nat.testBit_or, Nat.testBit_and]
        cases s.testBit i <;> cases t.testBit i <;> cases b.testBit i <;> cases (dif a x).testBit i <;> rfl
      have e2 : ((s &&& b) ||| dif a x) &&& ((t &&& b) ||| dif a x) = ((s &&& t) &&& b) ||| dif a x := Nat.eq_of_testBit_eq fun i => by
        simp only [Nat.testBit_or, Nat.testBit_and]
        cases s.testBit i <;> cases t.testBit i <;> cases b.testBit i <;> cases (dif a x).testBit i <;> rfl
      rw [e1, e2] at h1
      have := g1 s; have := g1 t; have := g1 (s ||| t); have := g1 (s &&& t)
      omega
  have r2on : RkOn n (fun s => pop (s &&& b) + r (dif b s ||| x) - r (2 ^ n - 1)) := by
    refine ⟨fun s hs => ?_, fun s t hs ht hst => ?_, fun s t hs ht => ?_⟩
    · have h1 := top _ (u2 s)
      have h3 : pop (s &&& b) ≤ pop s := pop_sub (subB_iff.2 fun i hi => by rw [Nat.testBit_and] at hi; simp at hi; exact hi.1)
      omega
    · have h1 := R.gap (u2 s) (u2 t)
      have h2 : pop (dif (dif b s ||| x) (dif b t ||| x)) + pop (s &&& b) ≤ pop (t &&& b) := by
        have hd : dif (dif b s ||| x) (dif b t ||| x) &&& (s &&& b) = 0 := Nat.eq_of_testBit_eq fun i => by
          simp only [Nat.testBit_and, dif_bit, Nat.testBit_or]
          cases s.testBit i <;> cases t.testBit i <;> cases b.testBit i <;> cases x.testBit i <;> simp
        rw [← pop_disj hd]
        refine pop_sub (subB_iff.2 fun i hi => ?_)
        simp only [Nat.testBit_and, dif_bit, Nat.testBit_or] at hi ⊢
        have := subB_iff.1 hst i
        cases e : s.testBit i <;> cases e1 : t.testBit i <;> cases e2 : b.testBit i <;> cases e3 : x.testBit i <;> simp_all
      omega
    · have h1 := R.sub _ _ (u2 s) (u2 t)
      have e1 : (dif b s ||| x) ||| (dif b t ||| x) = dif b (s &&& t) ||| x := Nat.eq_of_testBit_eq fun i => by
        simp only [Nat.testBit_or, Nat.testBit_and, dif_bit]
        cases s.testBit i <;> cases t.testBit i <;> cases b.testBit i <;> cases x.testBit i <;> rfl
      have e2 : (dif b s ||| x) &&& (dif b t ||| x) = dif b (s ||| t) ||| x := Nat.eq_of_testBit_eq fun i => by
        simp only [Nat.testBit_or, Nat.testBit_and, dif_bit]
        cases s.testBit i <;> cases t.testBit i <;> cases b.testBit i <;> cases x.testBit i <;> rfl
      rw [e1, e2] at h1
      have h2 := pop_or_and (s &&& b) (t &&& b)
      have e3 : (s &&& b) ||| (t &&& b) = (s ||| t) &&& b := Nat.eq_of_testBit_eq fun i => by
        simp only [Nat.testBit_or, Nat.testBit_and]
        cases s.testBit i <;> cases t.testBit i <;> cases b.testBit i <;> rfl
      have e4 : (s &&& b) &&& (t &&& b) = (s &&& t) &&& b := Nat.eq_of_testBit_eq fun i => by
        simp only [Nat.testBit_and]
        cases s.testBit i <;> cases t.testBit i <;> cases b.testBit i <;> rfl
      rw [e3, e4] at h2
      have := g2 s; have := g2 t; have := g2 (s ||| t); have := g2 (s &&& t)
      omega
  obtain ⟨y, y1, y2, y3, y4⟩ := isect n hn _ _ r1on r2on (pop x) (fun s hs => by
    have hc : 2 ^ n - 1 - s < 2 ^ n := by have := Nat.two_pow_pos n; omega
    have cb : ∀ i, (2 ^ n - 1 - s).testBit i = (decide (i < n) && !s.testBit i) := fun i => by
      rw [show 2 ^ n - 1 - s = 2 ^ n - (s + 1) by omega, Nat.testBit_two_pow_sub_succ hs]
    have bn : ∀ i, b.testBit i = true → i < n := fun i hi => by
      apply Classical.byContradiction; intro hh
      rw [Nat.testBit_lt_two_pow (Nat.lt_of_lt_of_le b1 (Nat.pow_le_pow_right (by omega) (by omega)))] at hi
      cases hi
    have e1 : dif b (2 ^ n - 1 - s) = s &&& b := Nat.eq_of_testBit_eq fun i => by
      rw [dif_bit, cb, Nat.testBit_and]
      have := bn i
      cases e : b.testBit i <;> cases e2 : s.testBit i <;> simp_all
    have e2 : (2 ^ n - 1 - s) &&& b = dif b s := Nat.eq_of_testBit_eq fun i => by
      rw [dif_bit, Nat.testBit_and, cb]
      have := bn i
      cases e : b.testBit i <;> cases e2 : s.testBit i <;> simp_all
    have h1 := R.sub _ _ (u1 s) (u2 (2 ^ n - 1 - s))
    show pop x ≤ (r ((s &&& b) ||| dif a x) - pop (dif a x)) + (pop ((2 ^ n - 1 - s) &&& b) + r (dif b (2 ^ n - 1 - s) ||| x) - r (2 ^ n - 1))
    rw [e1] at h1 ⊢
    rw [e2]
    have k1 : ((s &&& b) ||| dif a x) ||| ((s &&& b) ||| x) = (s &&& b) ||| a := Nat.eq_of_testBit_eq fun i => by
      simp only [Nat.testBit_or, Nat.testBit_and, dif_bit]
      have := xa i
      cases e1 : s.testBit i <;> cases e2 : b.testBit i <;> cases e3 : a.testBit i <;> cases e4 : x.testBit i <;> simp_all
    have k2 : ((s &&& b) ||| dif a x) &&& ((s &&& b) ||| x) = s &&& b := Nat.eq_of_testBit_eq fun i => by
      simp only [Nat.testBit_or, Nat.testBit_and, dif_bit]
      cases s.testBit i <;> cases b.testBit i <;> cases a.testBit i <;> cases x.testBit i <;> rfl
    rw [k1, k2] at h1
    have h2 := R.mono a _ a1 (or_ltn (hbs s) a1) (subB_iff.2 fun i hi => by rw [Nat.testBit_or, hi]; simp : subB a ((s &&& b) ||| a) = true)
    have h3 : r (s &&& b) = pop (s &&& b) := by
      have i1 := R.gap b1 (hbs s)
      have i2 := R.le _ (hbs s)
      have i3 := pop_dif b (s &&& b)
      have e5 : b &&& (s &&& b) = s &&& b := Nat.eq_of_testBit_eq fun i => by
        simp only [Nat.testBit_and]
        cases s.testBit i <;> cases b.testBit i <;> rfl
      rw [e5] at i3
      omega
    have h4 := pop_dif b s
    rw [Nat.and_comm] at h4
    have := g1 s
    have := g2 (2 ^ n - 1 - s)
    rw [e2, e1] at this
    omega)
  have q1 := g1 y
  have q2 := g2 y
  -- y lies in b
  have t1 := R.add (hbs y) c1
  have t2 := R.le _ (hbs y)
  have t3 : pop (y &&& b) ≤ pop y := pop_sub (subB_iff.2 fun i hi => by rw [Nat.testBit_and] at hi; simp at hi; exact hi.1)
  have yb : y &&& b = y := eq_of_pop (lt256 hn y1) (subB_iff.2 fun i hi => by rw [Nat.testBit_and] at hi; simp at hi; exact hi.1) (by omega)
  rw [yb] at q1 q2 y3 y4
  have t4 := R.le _ (or_ltn y1 c1)
  have t5 := pop_or_and y (dif a x)
  have t6 : y &&& dif a x = 0 := by
    apply Classical.byContradiction; intro hh
    have : 0 < pop (y &&& dif a x) := by
      apply Nat.pos_of_ne_zero; intro h0
      exact hh (eq_of_pop (lt256 hn (and_ltn y1)) (subB_iff.2 fun i hi => by simp at hi) (by rw [h0]; omega)).symm
    omega
  have t6b : ∀ i, y.testBit i = true → b.testBit i = true ∧ a.testBit i = false := fun i hi => by
    have h1 : b.testBit i = true := by
      have := congrArg (·.testBit i) yb
      simp only [Nat.testBit_and] at this
      rw [hi] at this
      simpa using this
    refine ⟨h1, ?_⟩
    have h2 := congrArg (·.testBit i) t6
    simp only [Nat.testBit_and, dif_bit, Nat.zero_testBit] at h2
    have h3 := xa i
    cases e : a.testBit i <;> cases e2 : x.testBit i <;> simp_all
  refine ⟨y, subB_iff.2 fun i hi => by rw [dif_bit]; obtain ⟨h1, h2⟩ := t6b i hi; rw [h1, h2]; rfl, y2, ?_, ?_⟩
  · rw [← self]
    have e1 : dif a x ||| y = y ||| dif a x := Nat.or_comm ..
    rw [e1]
    have h0 := pop_disj t6
    have h1 := top _ (or_ltn y1 c1)
    refine mem_basR.2 ⟨or_ltn y1 c1, ?_, ?_⟩ <;> omega
  · rw [← self]
    have h0 : dif b y &&& x = 0 := Nat.eq_of_testBit_eq fun i => by
      rw [Nat.testBit_and, dif_bit]
      have := xa i
      cases e : x.testBit i <;> simp_all
    have h1 := pop_disj h0
    have h2 := pop_dif b y
    rw [Nat.and_comm, yb] at h2
    have h3 := top _ (u2 y)
    have h4 := R.le _ (u2 y)
    refine mem_basR.2 ⟨u2 y, ?_, ?_⟩ <;> omega
end Go.Proofs.YtdabkgbbalooiaaDoor

namespace Go.Proofs.YtdabkgbbalooiaaDoor

/-- f tells each element's class. -/
structure Eqv (n : Nat) (f : Nat → Nat) : Prop where
  lt : ∀ i, i < n → f i < 2 ^ n
  self : ∀ i, i < n → (f i).testBit i = true
  same : ∀ i j, i < n → (f i).testBit j = true → f i = f j
def eqL (n : Nat) (f : Nat → Nat) : List Nat := (List.range (2 ^ n)).filter fun s => memB s ((List.range n).map f)
theorem eq_fam (n : Nat) (f : Nat → Nat) : Fam n (eqL n f) := Fam.range n _
theorem mem_eqL {n : Nat} {f : Nat → Nat} (h : Eqv n f) {s : Nat} : s ∈ eqL n f ↔ ∃ i, i < n ∧ f i = s := by
  unfold eqL memB
  rw [List.mem_filter, List.mem_range, decide_eq_true_iff, List.mem_map]
  constructor
  · rintro ⟨_, i, hi, rfl⟩
    exact ⟨i, List.mem_range.1 hi, rfl⟩
  · rintro ⟨i, hi, rfl⟩
    exact ⟨h.lt i hi, i, List.mem_range.2 hi, rfl⟩
theorem Eqv.meet {n : Nat} {f : Nat → Nat} (h : Eqv n f) {s t : Nat} (hs : s ∈ eqL n f) (ht : t ∈ eqL n f) (hne : s &&& t ≠ 0) : s = t := by
  obtain ⟨i, hi, rfl⟩ := (mem_eqL h).1 hs
  obtain ⟨k, hk, rfl⟩ := (mem_eqL h).1 ht
  obtain ⟨j, hj⟩ := exists_bit hne
  rw [Nat.testBit_and, Bool.and_eq_true] at hj
  rw [h.same i j hi hj.1, h.same k j hk hj.2]
theorem Eqv.free {n : Nat} {f : Nat → Nat} (h : Eqv n f) {i : Nat} (hi : i < (eqL n f).length) : orT (eqL n f) i &&& (eqL n f).getD i 0 = 0 := by
  refine Classical.byContradiction fun c => ?_
  obtain ⟨j, hj⟩ := exists_bit c
  rw [Nat.testBit_and, Bool.and_eq_true] at hj
  obtain ⟨s, hs, hb⟩ := orT_bit.1 hj.1
  obtain ⟨k, hk, e⟩ := List.mem_take_iff_getElem.1 hs
  have hm : (eqL n f).getD i 0 ∈ eqL n f := by simp [List.getD, hi]
  have hne : s &&& (eqL n f).getD i 0 ≠ 0 := fun e0 => by
    have : (s &&& (eqL n f).getD i 0).testBit j = true := by rw [Nat.testBit_and, hb, hj.2]; rfl
    rw [e0, Nat.zero_testBit] at this
    cases this
  have h1 := h.meet (List.mem_of_mem_take hs) hm hne
  have hki : k < i := by omega
  have h2 := List.pairwise_iff_getElem.1 (eq_fam n f).up k i (by omega) hi hki
  rw [e, h1] at h2
  simp [List.getD, hi] at h2
theorem Eqv.all {n : Nat} {f : Nat → Nat} (h : Eqv n f) : orT (eqL n f) (eqL n f).length = 2 ^ n - 1 := Nat.eq_of_testBit_eq fun j => by
  rw [Nat.testBit_two_pow_sub_one, Bool.eq_iff_iff, orT_bit, List.take_length, decide_eq_true_iff]
  constructor
  · rintro ⟨s, hs, hb⟩
    exact bit_lt ((eq_fam n f).lt s hs) hb
  · intro hj
    exact ⟨_, (mem_eqL h).2 ⟨j, hj, rfl⟩, h.self j hj⟩
/-- What is left to part is made of whole classes. -/
def Whole (n : Nat) (f : Nat → Nat) (F : Nat) : Prop := F < 2 ^ n ∧ ∀ i j, i < n → F.testBit i = true → (f i).testBit j = true → F.testBit j = true
theorem prts_eqv {n : Nat} {f : Nat → Nat} {T : Nat → Nat → Bool} (hn : n ≤ 8) (h : Eqv n f) (hT : ∀ i j, i < n → j < n → (f i).testBit j = (decide (i = j) || T i j)) : ∀ (N F : Nat) (L : List Nat), F ≤ N → Whole n f F → Prts T F L → L.Nodup ∧ ∀ s, s ∈ L ↔ ∃ i, i < n ∧ F.testBit i = true ∧ f i = s := by
  intro N
  induction N with
  | zero =>
    intro F L hF _ hp
    have : F = 0 := by omega
    subst this
    rw [prts_zero hp]
    exact ⟨List.nodup_nil, fun s => ⟨(fun h => by cases h), (fun ⟨i, _, h1, _⟩ => by rw [Nat.zero_testBit] at h1; cases h1)⟩⟩
  | succ N ih =>
    intro F L hF hW hp
    by_cases h0 : F = 0
    · subst h0
      rw [prts_zero hp]
      exact ⟨List.nodup_nil, fun s => ⟨(fun h => by cases h), (fun ⟨i, _, h1, _⟩ => by rw [Nat.zero_testBit] at h1; cases h1)⟩⟩
    · obtain ⟨L', rfl, hp'⟩ := prts_cons hp h0
      have h8 := lt256 hn hW.1
      have hpos : 0 < F := by omega
      have htz := tz_bit F h8 hpos
      have hzn : tz F < n := bit_lt hW.1 htz
      have hpart : partR T F = f (tz F) := Nat.eq_of_testBit_eq fun j => by
        rw [partR_bit h8]
        by_cases hj : j < n
        · rw [hT _ _ hzn hj]
          by_cases e : tz F = j
          · simp [e]
          · by_cases hTj : T (tz F) j = true
            · have hfj : (f (tz F)).testBit j = true := by rw [hT _ _ hzn hj, hTj, Bool.or_true]
              have := hW.2 _ _ hzn htz hfj
              simp [e, hTj, this]
            · simp [e, hTj]
        · have e1 : (f (tz F)).testBit j = false := Nat.testBit_lt_two_pow (Nat.lt_of_lt_of_le (h.lt _ hzn) (Nat.pow_le_pow_right (by decide) (by omega)))
          have e2 : F.testBit j = false := Nat.testBit_lt_two_pow (Nat.lt_of_lt_of_le hW.1 (Nat.pow_le_pow_right (by decide) (by omega)))
          have e3 : tz F ≠ j := by omega
          simp [e1, e2, e3]
      rw [hpart] at hp' ⊢
      have hless := rest_less (T := T) h8 hpos
      rw [hpart] at hless
      have hW' : Whole n f (dif F (f (tz F))) := by
        refine ⟨Nat.lt_trans hless hW.1, fun i j hi h1 h2 => ?_⟩
        rw [dif_bit, Bool.and_eq_true, Bool.not_eq_true'] at h1
        rw [dif_bit, hW.2 i j hi h1.1 h2, Bool.true_and, Bool.not_eq_true']
        refine Bool.eq_false_iff.2 fun hc => ?_
        have e1 := h.same _ _ hzn hc
        have e2 := h.same i j hi h2
        have e3 := h.self i hi
        rw [e2, ← e1] at e3
        rw [e3] at h1
        cases h1.2
      obtain ⟨i1, i2⟩ := ih _ L' (by omega) hW' hp'
      refine ⟨List.nodup_cons.2 ⟨fun hm => ?_, i1⟩, fun s => ?_⟩
      · obtain ⟨i, hi, hb, e⟩ := (i2 _).1 hm
        rw [dif_bit, Bool.and_eq_true, Bool.not_eq_true'] at hb
        have := h.self i hi
        rw [e] at this
        rw [this] at hb
        cases hb.2
      · rw [List.mem_cons, i2]
        constructor
        · rintro (rfl | ⟨i, hi, hb, e⟩)
          · exact ⟨_, hzn, htz, rfl⟩
          · rw [dif_bit, Bool.and_eq_true] at hb
            exact ⟨i, hi, hb.1, e⟩
        · rintro ⟨i, hi, hb, rfl⟩
          by_cases hc : (f (tz F)).testBit i = true
          · exact .inl (h.same _ _ hzn hc).symm
          · exact .inr ⟨i, hi, by rw [dif_bit, hb, Bool.eq_false_iff.2 hc]; rfl, rfl⟩
/-- Put in order, the parts are the list of classes. -/
theorem prts_sorted {n : Nat} {f : Nat → Nat} {T : Nat → Nat → Bool} {L L' : List Nat} (hn : n ≤ 8) (h : Eqv n f) (hT : ∀ i j, i < n → j < n → (f i).testBit j = (decide (i = j) || T i j)) (hp : Prts T (2 ^ n - 1) L) (h1 : L'.Perm L) (h2 : L'.Pairwise (· ≤ ·)) : L' = eqL n f := by
  have hW : Whole n f (2 ^ n - 1) := ⟨full_lt n, fun i j hi _ hj => by
    rw [Nat.testBit_two_pow_sub_one]
    exact decide_eq_true (bit_lt (h.lt i hi) hj)⟩
  obtain ⟨n1, n2⟩ := prts_eqv hn h hT _ _ L (Nat.le_refl _) hW hp
  have hL : L'.Nodup := h1.nodup_iff.2 n1
  have h3 : L'.Pairwise (· < ·) := List.Pairwise.imp₂ (fun a b h4 h5 => Nat.lt_of_le_of_ne h4 h5) h2 hL
  refine sorted_ext h3 (eq_fam n f).up fun x => ?_
  rw [h1.mem_iff, n2, mem_eqL h]
  constructor
  · rintro ⟨i, hi, _, e⟩
    exact ⟨i, hi, e⟩
  · rintro ⟨i, hi, e⟩
    exact ⟨i, hi, by rw [Nat.testBit_two_pow_sub_one]; exact decide_eq_true hi, e⟩
/-- Components' classes. -/
theorem cls_eqv {n : Nat} {l : List Nat} (hn : n ≤ 8) (hb : Bas l) : Eqv n (cls (cirL n l) n) where
  lt := fun i _ => cls_lt _ _ _
  self := fun i hi => by rw [cls_bit, decide_eq_true hi, decide_eq_true (.inl rfl)]; rfl
  same := fun i j hi h => by
    rw [cls_bit, Bool.and_eq_true, decide_eq_true_iff, decide_eq_true_iff] at h
    refine Nat.eq_of_testBit_eq fun k => ?_
    rw [cls_bit, cls_bit]
    congr 1
    rw [Bool.eq_iff_iff, decide_eq_true_iff, decide_eq_true_iff]
    rcases h.2 with rfl | hij
    · exact Iff.rfl
    · constructor
      · rintro (rfl | hik)
        · exact .inr (by rw [tg_symm]; exact hij)
        · exact .inr (tg_trans hn hb (by rw [tg_symm]; exact hij) hik)
      · rintro (rfl | hjk)
        · exact .inr hij
        · exact .inr (tg_trans hn hb hij hjk)
theorem cls_T {n : Nat} {C : List Nat} : ∀ i j, i < n → j < n → (cls C n i).testBit j = (decide (i = j) || tg C i j) := fun i j _ hj => by
  rw [cls_bit, decide_eq_true hj, Bool.true_and, Bool.eq_iff_iff, decide_eq_true_iff, Bool.or_eq_true, decide_eq_true_iff]
/-- A separator's ranks add up in every set. -/
theorem sep_add {n : Nat} {r : Nat → Nat} (h : RkOn n r) {c x : Nat} (hc : c < 2 ^ n) (hx : x < 2 ^ n) (hs : r c + r (2 ^ n - 1 - c) = r (2 ^ n - 1)) : r x = r (x &&& c) + r (dif x c) := by
  have hv : 2 ^ n - 1 - c < 2 ^ n := by have := Nat.two_pow_pos n; omega
  have hxc : x &&& c < 2 ^ n := Nat.lt_of_le_of_lt Nat.and_le_left hx
  have hd : dif x c < 2 ^ n := difn_lt hx
  have hor : x ||| c < 2 ^ n := Nat.or_lt_two_pow hx hc
  have h1 := h.sub x c hx hc
  have h2 := h.sub (x ||| c) (2 ^ n - 1 - c) hor hv
  have e1 : (x ||| c) ||| (2 ^ n - 1 - c) = 2 ^ n - 1 := Nat.eq_of_testBit_eq fun i => by
    rw [Nat.testBit_or, Nat.testBit_or, cpl_bit hc, Nat.testBit_two_pow_sub_one]
    by_cases hi : i < n
    · cases x.testBit i <;> cases c.testBit i <;> simp [hi]
    · have a1 : x.testBit i = false := Nat.testBit_lt_two_pow (Nat.lt_of_lt_of_le hx (Nat.pow_le_pow_right (by decide) (by omega)))
      have a2 : c.testBit i = false := Nat.testBit_lt_two_pow (Nat.lt_of_lt_of_le hc (Nat.pow_le_pow_right (by decide) (by omega)))
      simp [a1, a2, hi]
  have e2 : (x ||| c) &&& (2 ^ n - 1 - c) = dif x c := Nat.eq_of_testBit_eq fun i => by
    rw [Nat.testBit_and, Nat.testBit_or, cpl_bit hc, dif_bit]
    by_cases hi : i < n
    · cases x.testBit i <;> cases c.testBit i <;> simp [hi]
    · have a1 : x.testBit i = false := Nat.testBit_lt_two_pow (Nat.lt_of_lt_of_le hx (Nat.pow_le_pow_right (by decide) (by omega)))
      simp [a1, hi]
  rw [e1, e2] at h2
  have h3 := h.sub (x &&& c) (dif x c) hxc hd
  have e3 : (x &&& c) ||| dif x c = x := Nat.eq_of_testBit_eq fun i => by
    rw [Nat.testBit_or, Nat.testBit_and, dif_bit]
    cases x.testBit i <;> cases c.testBit i <;> rfl
  rw [e3] at h3
  omega
/-- The sum of the ranks of the first i. -/
def sumT (r : Nat → Nat) (L : List Nat) (i : Nat) : Nat := (L.take i).foldl (fun a s => a + r s) 0
theorem sumT_succ {r : Nat → Nat} {L : List Nat} {i : Nat} (h : i < L.length) : sumT r L (i + 1) = sumT r L i + r (L.getD i 0) := by
  unfold sumT
  rw [List.take_add_one, List.foldl_append, List.getElem?_eq_getElem h]
  simp [List.getD, h]
theorem comp_sum {n : Nat} {l : List Nat} (hn : n ≤ 8) (hb : Bas l) : ∀ i, i ≤ (eqL n (cls (cirL n l) n)).length → sumT (rk l) (eqL n (cls (cirL n l) n)) i = rk l (orT (eqL n (cls (cirL n l) n)) i)
  | 0, _ => by
    have h1 := (hb.rkOn n).le 0 (Nat.two_pow_pos n)
    have e : pop 0 = 0 := by decide
    show 0 = rk l 0
    omega
  | i + 1, hi => by
    have hE := cls_eqv hn hb
    have hlt : i < (eqL n (cls (cirL n l) n)).length := by omega
    have hmem : (eqL n (cls (cirL n l) n)).getD i 0 ∈ eqL n (cls (cirL n l) n) := by simp [List.getD, hlt]
    have hfree := hE.free hlt
    rw [sumT_succ hlt, comp_sum hn hb i (by omega), orT_succ hlt]
    obtain ⟨k, hk, e⟩ := (mem_eqL hE).1 hmem
    have hc := (eq_fam n (cls (cirL n l) n)).lt _ hmem
    have ho := orT_lt (eq_fam n (cls (cirL n l) n)).lt i
    generalize orT (eqL n (cls (cirL n l) n)) i = o at *
    rw [← e] at hfree hc ⊢
    have hs := cls_sep (i := k) hn hb
    have h1 := sep_add (hb.rkOn n) hc (Nat.or_lt_two_pow ho hc) hs
    have e1 : (o ||| cls (cirL n l) n k) &&& cls (cirL n l) n k = cls (cirL n l) n k := Nat.eq_of_testBit_eq fun j => by
      rw [Nat.testBit_and, Nat.testBit_or]
      cases (cls (cirL n l) n k).testBit j <;> simp
    have e2 : dif (o ||| cls (cirL n l) n k) (cls (cirL n l) n k) = o := Nat.eq_of_testBit_eq fun j => by
      rw [dif_bit, Nat.testBit_or]
      have h2 : (o &&& cls (cirL n l) n k).testBit j = false := by rw [hfree, Nat.zero_testBit]
      rw [Nat.testBit_and] at h2
      revert h2
      cases o.testBit j <;> cases (cls (cirL n l) n k).testBit j <;> simp
    rw [e1, e2] at h1
    omega
end Go.Proofs.YtdabkgbbalooiaaDoor

namespace Go.Proofs.YtdabkgbbalooiaaDoor

/-- Are i and j loops both, or parallel? -/
def parP (r : Nat → Nat) (i j : Nat) : Bool := r (2 ^ i ||| 2 ^ j) == r (2 ^ i) && r (2 ^ i ||| 2 ^ j) == r (2 ^ j)
theorem par_iff {r : Nat → Nat} {i j : Nat} : parP r i j = true ↔ r (2 ^ i ||| 2 ^ j) = r (2 ^ i) ∧ r (2 ^ i ||| 2 ^ j) = r (2 ^ j) := by
  unfold parP
  rw [Bool.and_eq_true, beq_iff_eq, beq_iff_eq]
theorem par_symm {r : Nat → Nat} {i j : Nat} (h : parP r i j = true) : parP r j i = true := by
  rw [par_iff] at h ⊢
  rw [Nat.or_comm]
  exact ⟨h.2, h.1⟩
theorem par_trans {r : Nat → Nat} (hr : Rk r) {i j k : Nat} (h1 : parP r i j = true) (h2 : parP r j k = true) : parP r i k = true := by
  rw [par_iff] at h1 h2 ⊢
  have hs := hr.sub (2 ^ i ||| 2 ^ j) (2 ^ j ||| 2 ^ k)
  have m1 := hr.mono (2 ^ i ||| 2 ^ k) ((2 ^ i ||| 2 ^ j) ||| (2 ^ j ||| 2 ^ k)) (subB_iff.2 fun x hx => by
    simp only [Nat.testBit_or] at hx ⊢
    revert hx
    cases (2 ^ i).testBit x <;> cases (2 ^ k).testBit x <;> simp)
  have m2 := hr.mono (2 ^ j) ((2 ^ i ||| 2 ^ j) &&& (2 ^ j ||| 2 ^ k)) (subB_iff.2 fun x hx => by
    simp only [Nat.testBit_and, Nat.testBit_or, hx]
    simp)
  have m3 := hr.mono (2 ^ i) (2 ^ i ||| 2 ^ k) (subB_iff.2 fun x hx => by rw [Nat.testBit_or, hx]; rfl)
  have m4 := hr.mono (2 ^ k) (2 ^ i ||| 2 ^ k) (subB_iff.2 fun x hx => by rw [Nat.testBit_or, hx, Bool.or_true])
  omega
/-- An element's class. -/
def pcl (r : Nat → Nat) (n i : Nat) : Nat := (List.range n).foldl (fun a j => if i = j ∨ parP r i j = true then a ||| 2 ^ j else a) 0
theorem pcl_bit (r : Nat → Nat) (n i j : Nat) : (pcl r n i).testBit j = (decide (j < n) && decide (i = j ∨ parP r i j = true)) := by
  unfold pcl
  have key : ∀ (xs : List Nat) (a : Nat), (xs.foldl (fun a j => if i = j ∨ parP r i j = true then a ||| 2 ^ j else a) a).testBit j = (a.testBit j || (decide (j ∈ xs) && decide (i = j ∨ parP r i j = true))) := fun xs => by
    induction xs with
    | nil => intro a; simp
    | cons x xs ih =>
      intro a
      rw [List.foldl_cons, ih]
      by_cases hx : i = x ∨ parP r i x = true
      · rw [if_pos hx, Nat.testBit_or, Nat.testBit_two_pow]
        by_cases e : x = j
        · subst e
          rw [decide_eq_true hx]
          simp
        · have e' : ¬ j = x := fun c => e c.symm
          simp [e, e']
      · rw [if_neg hx]
        by_cases e : j = x
        · subst e
          rw [decide_eq_false hx]
          simp
        · simp [e]
  rw [key, Nat.zero_testBit, Bool.false_or]
  simp
theorem pcl_eqv {n : Nat} {r : Nat → Nat} (hr : Rk r) : Eqv n (pcl r n) where
  lt := fun i _ => lt_of_bits fun j hj => by rw [pcl_bit, Bool.and_eq_true, decide_eq_true_iff] at hj; exact hj.1
  self := fun i hi => by rw [pcl_bit, decide_eq_true hi, decide_eq_true (.inl rfl)]; rfl
  same := fun i j hi h => by
    rw [pcl_bit, Bool.and_eq_true, decide_eq_true_iff, decide_eq_true_iff] at h
    refine Nat.eq_of_testBit_eq fun k => ?_
    rw [pcl_bit, pcl_bit]
    congr 1
    rw [Bool.eq_iff_iff, decide_eq_true_iff, decide_eq_true_iff]
    rcases h.2 with rfl | hij
    · exact Iff.rfl
    · constructor
      · rintro (rfl | hik)
        · exact .inr (par_symm hij)
        · exact .inr (par_trans hr (par_symm hij) hik)
      · rintro (rfl | hjk)
        · exact .inr hij
        · exact .inr (par_trans hr hij hjk)
theorem pcl_T {n : Nat} {r : Nat → Nat} : ∀ i j, i < n → j < n → (pcl r n i).testBit j = (decide (i = j) || parP r i j) := fun i j _ hj => by
  rw [pcl_bit, decide_eq_true hj, Bool.true_and, Bool.eq_iff_iff, decide_eq_true_iff, Bool.or_eq_true, decide_eq_true_iff]
/-- A class has its elements' rank. -/
theorem pcl_rk {n : Nat} {r : Nat → Nat} (hn : n ≤ 8) (hr : Rk r) {i : Nat} (hi : i < n) : r (pcl r n i) = r (2 ^ i) := by
  have hE := pcl_eqv (n := n) hr
  have key : ∀ (N t : Nat), pop t ≤ N → subB t (pcl r n i) = true → r (2 ^ i ||| t) = r (2 ^ i) := by
    intro N
    induction N with
    | zero =>
      intro t h0 hs
      have : t = 0 := (pop_pos t (lt256 hn (sub_lt hs (hE.lt i hi)))).1 (by omega)
      rw [this, Nat.or_zero]
    | succ N ih =>
      intro t hN hs
      by_cases e0 : t = 0
      · rw [e0, Nat.or_zero]
      · obtain ⟨x, hx⟩ := exists_bit e0
        have h8 := lt256 hn (sub_lt hs (hE.lt i hi))
        have h1 := pop_rm' h8 hx
        have hxc := subB_iff.1 hs x hx
        rw [pcl_bit, Bool.and_eq_true, decide_eq_true_iff, decide_eq_true_iff] at hxc
        have h3 := ih (rm t x) (by omega) (subB_iff.2 fun y hy => by rw [rm_bit, Bool.and_eq_true] at hy; exact subB_iff.1 hs y hy.1)
        have h4 : r (2 ^ i ||| 2 ^ x) = r (2 ^ i) := by
          rcases hxc.2 with rfl | h
          · rw [Nat.or_self]
          · exact (par_iff.1 h).1
        have h5 := hr.sub (2 ^ i ||| rm t x) (2 ^ i ||| 2 ^ x)
        have e1 : (2 ^ i ||| rm t x) ||| (2 ^ i ||| 2 ^ x) = 2 ^ i ||| t := Nat.eq_of_testBit_eq fun y => by
          simp only [Nat.testBit_or, rm_bit, Nat.testBit_two_pow]
          by_cases ey : x = y
          · subst ey; simp [hx]
          · cases decide (i = y) <;> simp [ey]
        have h6 := hr.mono (2 ^ i) ((2 ^ i ||| rm t x) &&& (2 ^ i ||| 2 ^ x)) (subB_iff.2 fun y hy => by rw [Nat.testBit_and, Nat.testBit_or, Nat.testBit_or, hy]; rfl)
        have h7 := hr.mono (2 ^ i) (2 ^ i ||| t) (subB_iff.2 fun y hy => by rw [Nat.testBit_or, hy]; rfl)
        rw [e1] at h5
        omega
  have h1 := key _ _ (Nat.le_refl _) (sub_refl (pcl r n i))
  have e : 2 ^ i ||| pcl r n i = pcl r n i := Nat.eq_of_testBit_eq fun y => by
    rw [Nat.testBit_or, Nat.testBit_two_pow]
    by_cases ey : i = y
    · subst ey; simp [hE.self i hi]
    · simp [ey]
  rw [e] at h1
  exact h1
/-- What goes: loops, and all but the least of parallel ones. -/
def goneP (r : Nat → Nat) (L : List Nat) : Nat := L.foldl (fun g c => if 0 < r c then dif (g ||| c) (2 ^ tz c) else g ||| c) 0
theorem gone_fold {r : Nat → Nat} {j : Nat} : ∀ (L : List Nat) (g : Nat), (∀ c ∈ L, c.testBit j = false ∧ c < 256 ∧ 0 < c) → (L.foldl (fun g c => if 0 < r c then dif (g ||| c) (2 ^ tz c) else g ||| c) g).testBit j = g.testBit j
  | [], g, _ => rfl
  | c :: L, g, h => by
    obtain ⟨h1, h2, h3⟩ := h c List.mem_cons_self
    rw [List.foldl_cons, gone_fold L _ fun d hd => h d (List.mem_cons_of_mem _ hd)]
    by_cases hc : 0 < r c
    · rw [if_pos hc, dif_bit, Nat.testBit_or, h1, Bool.or_false, Nat.testBit_two_pow]
      have : tz c ≠ j := fun e => by
        have := tz_bit c h2 h3
        rw [e, h1] at this
        cases this
      simp [this]
    · rw [if_neg hc, Nat.testBit_or, h1, Bool.or_false]
theorem gone_bit {n : Nat} {r : Nat → Nat} (hn : n ≤ 8) (hr : Rk r) {i : Nat} (hi : i < n) : (goneP r (eqL n (pcl r n))).testBit i = (decide (r (2 ^ i) = 0) || decide (tz (pcl r n i) ≠ i)) := by
  have hE := pcl_eqv (n := n) hr
  have hmem : pcl r n i ∈ eqL n (pcl r n) := (mem_eqL hE).2 ⟨i, hi, rfl⟩
  have hprop : ∀ c ∈ eqL n (pcl r n), c < 256 ∧ 0 < c := fun c hc => by
    obtain ⟨k, hk, rfl⟩ := (mem_eqL hE).1 hc
    refine ⟨lt256 hn (hE.lt k hk), Nat.pos_of_ne_zero fun e => ?_⟩
    have := hE.self k hk
    rw [e, Nat.zero_testBit] at this
    cases this
  obtain ⟨A, B, hAB⟩ := List.append_of_mem hmem
  have hnd : (eqL n (pcl r n)).Nodup := (eq_fam n _).up.imp (fun h => Nat.ne_of_lt h)
  have hout : ∀ c ∈ eqL n (pcl r n), c ≠ pcl r n i → c.testBit i = false := fun c hc hne => Bool.eq_false_iff.2 fun hb => hne (by
    obtain ⟨k, hk, rfl⟩ := (mem_eqL hE).1 hc
    exact hE.same k i hk hb)
  have hnotB : ∀ c ∈ B, c ≠ pcl r n i := fun c hc e => by
    rw [hAB, List.nodup_append] at hnd
    exact (List.nodup_cons.1 hnd.2.1).1 (e ▸ hc)
  unfold goneP
  rw [hAB, List.foldl_append, List.foldl_cons, gone_fold B _ fun c hc => by
    have hc2 : c ∈ eqL n (pcl r n) := by rw [hAB]; exact List.mem_append_right _ (List.mem_cons_of_mem _ hc)
    exact ⟨hout c hc2 (hnotB c hc), hprop c hc2⟩]
  rw [pcl_rk hn hr hi]
  have hself := hE.self i hi
  by_cases hz : 0 < r (2 ^ i)
  · rw [if_pos hz, dif_bit, Nat.testBit_or, hself, Bool.or_true, Bool.true_and, Nat.testBit_two_pow]
    have : ¬ r (2 ^ i) = 0 := by omega
    by_cases e : tz (pcl r n i) = i <;> simp [this, e]
  · rw [if_neg hz, Nat.testBit_or, hself, Bool.or_true]
    have : r (2 ^ i) = 0 := by omega
    simp [this]
/-- Where no two are parallel and there is no loop, nothing goes, and each class is one element. -/
theorem simple_none {n : Nat} {r : Nat → Nat} (hn : n ≤ 8) (hr : Rk r) (h1 : ∀ i, i < n → r (2 ^ i) = 1) (h2 : ∀ i j, i < n → j < n → i ≠ j → parP r i j = false) : goneP r (eqL n (pcl r n)) = 0 ∧ (eqL n (pcl r n)).length = n := by
  have hE := pcl_eqv (n := n) hr
  have hone : ∀ i, i < n → pcl r n i = 2 ^ i := fun i hi => Nat.eq_of_testBit_eq fun j => by
    rw [pcl_bit, Nat.testBit_two_pow]
    by_cases hj : j < n
    · by_cases e : i = j
      · subst e; simp [hi]
      · rw [decide_eq_true hj, Bool.true_and, decide_eq_false e]
        refine decide_eq_false fun c => ?_
        rcases c with c | c
        · exact e c
        · rw [h2 i j hi hj e] at c
          cases c
    · have : i ≠ j := by omega
      simp [hj, this]
  constructor
  · refine Nat.eq_of_testBit_eq fun j => ?_
    rw [Nat.zero_testBit]
    by_cases hj : j < n
    · rw [gone_bit hn hr hj, hone j hj, h1 j hj]
      have ht : tz (2 ^ j) = j := by
        have : ∀ j, j < 8 → tz (2 ^ j) = j := by decide
        exact this j (by omega)
      simp [ht]
    · have hlt : goneP r (eqL n (pcl r n)) < 2 ^ n := by
        have key : ∀ (L : List Nat) (g : Nat), g < 2 ^ n → (∀ c ∈ L, c < 2 ^ n) → L.foldl (fun g c => if 0 < r c then dif (g ||| c) (2 ^ tz c) else g ||| c) g < 2 ^ n := fun L => by
          induction L with
          | nil => intro g hg _; exact hg
          | cons c L ih =>
            intro g hg hc
            rw [List.foldl_cons]
            have hgc : g ||| c < 2 ^ n := Nat.or_lt_two_pow hg (hc c List.mem_cons_self)
            refine ih _ ?_ fun d hd => hc d (List.mem_cons_of_mem _ hd)
            split
            · exact difn_lt hgc
            · exact hgc
        exact key _ 0 (Nat.two_pow_pos n) (eq_fam n _).lt
      exact Nat.testBit_lt_two_pow (Nat.lt_of_lt_of_le hlt (Nat.pow_le_pow_right (by decide) (by omega)))
  · have hnd : (eqL n (pcl r n)).Nodup := (eq_fam n _).up.imp (fun h => Nat.ne_of_lt h)
    have hnd2 : ((List.range n).map fun i => 2 ^ i).Nodup := by
      refine List.pairwise_map.2 (List.Pairwise.imp (fun h e => h (Nat.pow_right_inj (by decide) |>.1 e)) List.nodup_range)
    have hp := (List.perm_ext_iff_of_nodup hnd hnd2).2 fun s => by
      rw [mem_eqL hE, List.mem_map]
      constructor
      · rintro ⟨i, hi, rfl⟩
        exact ⟨i, List.mem_range.2 hi, (hone i hi).symm⟩
      · rintro ⟨i, hi, rfl⟩
        exact ⟨i, List.mem_range.1 hi, hone i (List.mem_range.1 hi)⟩
    rw [hp.length_eq]
    simp
/-- What is left behind Simple has neither loops nor parallel ones. -/
theorem simple_left {n : Nat} {l : List Nat} (hn : n ≤ 8) (hb : Bas l) : (∀ i, i < pop (dif (2 ^ n - 1) (goneP (rk l) (eqL n (pcl (rk l) n)))) → rk (minL n l (goneP (rk l) (eqL n (pcl (rk l) n))) 0) (2 ^ i) = 1) ∧ ∀ i j, i < pop (dif (2 ^ n - 1) (goneP (rk l) (eqL n (pcl (rk l) n)))) → j < pop (dif (2 ^ n - 1) (goneP (rk l) (eqL n (pcl (rk l) n)))) → i ≠ j → parP (rk (minL n l (goneP (rk l) (eqL n (pcl (rk l) n))) 0)) i j = false := by
  have hE := pcl_eqv (n := n) hb.rk
  obtain ⟨K, hK⟩ : ∃ K, dif (2 ^ n - 1) (goneP (rk l) (eqL n (pcl (rk l) n))) = K := ⟨_, rfl⟩
  have hKb : ∀ j, K.testBit j = true → j < n ∧ rk l (2 ^ j) = 1 ∧ tz (pcl (rk l) n j) = j := fun j hj => by
    rw [← hK, dif_bit, Bool.and_eq_true, Bool.not_eq_true', Nat.testBit_two_pow_sub_one, decide_eq_true_iff] at hj
    have h1 := hj.2
    rw [gone_bit hn hb.rk hj.1, Bool.or_eq_false_iff, decide_eq_false_iff_not, decide_eq_false_iff_not] at h1
    have h2 := hb.rk.le (2 ^ j)
    have h3 := pop_pow j
    exact ⟨hj.1, by omega, Classical.byContradiction h1.2⟩
  have hK8 : K < 256 := by rw [← hK]; exact kept_lt hn _
  have hone : ∀ i, i < pop K → ∃ e, (els K)[i]? = some e ∧ K.testBit e = true ∧ old (els K) (2 ^ i) = 2 ^ e := fun i hi => by
    have hl : (els K).length = pop K := els_len
    have hil : i < (els K).length := by omega
    refine ⟨(els K)[i], List.getElem?_eq_getElem hil, (mem_els8 hK8).1 (List.getElem_mem _), Nat.eq_of_testBit_eq fun j => ?_⟩
    rw [Bool.eq_iff_iff, old_bit, Nat.testBit_two_pow, decide_eq_true_iff]
    constructor
    · rintro ⟨k, hk, hb2⟩
      rw [Nat.testBit_two_pow, decide_eq_true_iff] at hb2
      subst hb2
      rw [List.getElem?_eq_getElem hil] at hk
      exact Option.some.inj hk
    · intro e
      exact ⟨i, by rw [List.getElem?_eq_getElem hil, e], by simp⟩
  have hrk : ∀ t, t < 2 ^ pop K → rk (minL n l (goneP (rk l) (eqL n (pcl (rk l) n))) 0) t = rk l (old (els K) t) := fun t ht => by
    rw [min_rk hn hb _ _ (by rw [hK]; exact ht)]
    unfold minR
    rw [hK, Nat.or_zero]
    have h0 := hb.rk.le 0
    have e : pop 0 = 0 := by decide
    omega
  rw [hK]
  constructor
  · intro i hi
    obtain ⟨e, e1, e2, e3⟩ := hone i hi
    rw [hrk _ (Nat.pow_lt_pow_right (by decide) hi), e3]
    exact (hKb e e2).2.1
  · intro i j hi hj hij
    obtain ⟨e, e1, e2, e3⟩ := hone i hi
    obtain ⟨f, f1, f2, f3⟩ := hone j hj
    refine Bool.eq_false_iff.2 fun hp => ?_
    rw [par_iff, hrk _ (Nat.or_lt_two_pow (Nat.pow_lt_pow_right (by decide) hi) (Nat.pow_lt_pow_right (by decide) hj)), hrk _ (Nat.pow_lt_pow_right (by decide) hi), hrk _ (Nat.pow_lt_pow_right (by decide) hj), old_or, e3, f3] at hp
    obtain ⟨k1, k2, k3⟩ := hKb e e2
    obtain ⟨m1, m2, m3⟩ := hKb f f2
    have hcl : pcl (rk l) n e = pcl (rk l) n f := hE.same e f k1 (by rw [pcl_bit, decide_eq_true m1, decide_eq_true (.inr (par_iff.2 hp))]; rfl)
    have hef : e = f := by rw [← k3, ← m3, hcl]
    subst hef
    have hl : (els K).length = pop K := els_len
    have h1 : (els K)[i]? = (els K)[j]? := by rw [e1, f1]
    have hnd : (els K).Nodup := by unfold els; exact List.nodup_range.sublist List.filter_sublist
    exact hij ((List.getElem?_inj (by omega) hnd).1 h1)
end Go.Proofs.YtdabkgbbalooiaaDoor

namespace Go.Proofs.YtdabkgbbalooiaaDoor

theorem pop_two : ∀ n, n ≤ 8 → ∀ s, s < 256 → pop s = pop (s % 2 ^ n) + pop (s / 2 ^ n) := by decide +kernel
theorem rm_mod {n s i : Nat} : rm s i % 2 ^ n = rm (s % 2 ^ n) i := Nat.eq_of_testBit_eq fun j => by
  rw [Nat.testBit_mod_two_pow, rm_bit, rm_bit, Nat.testBit_mod_two_pow, Bool.and_assoc]
theorem rm_div {n s i : Nat} (hi : i < n) : rm s i / 2 ^ n = s / 2 ^ n := Nat.eq_of_testBit_eq fun j => by
  rw [Nat.testBit_div_two_pow, rm_bit, Nat.testBit_div_two_pow]
  have : i ≠ j + n := by omega
  simp [this]
theorem rm_mod' {n s i : Nat} : rm s (n + i) % 2 ^ n = s % 2 ^ n := Nat.eq_of_testBit_eq fun j => by
  rw [Nat.testBit_mod_two_pow, rm_bit, Nat.testBit_mod_two_pow]
  by_cases hj : j < n
  · have : n + i ≠ j := by omega
    simp [this]
  · simp [hj]
theorem rm_div' {n s i : Nat} : rm s (n + i) / 2 ^ n = rm (s / 2 ^ n) i := Nat.eq_of_testBit_eq fun j => by
  rw [Nat.testBit_div_two_pow, rm_bit, rm_bit, Nat.testBit_div_two_pow]
  have : decide (n + i ≠ j + n) = decide (i ≠ j) := by
    rw [Bool.eq_iff_iff, decide_eq_true_iff, decide_eq_true_iff]
    omega
  rw [this]
/-- The sum's ranks. -/
def sumR (n : Nat) (r q : Nat → Nat) (s : Nat) : Nat := r (s % 2 ^ n) + q (s / 2 ^ n)
theorem mod_or (n s t : Nat) : (s ||| t) % 2 ^ n = s % 2 ^ n ||| t % 2 ^ n := Nat.eq_of_testBit_eq fun j => by
  simp only [Nat.testBit_mod_two_pow, Nat.testBit_or]
  cases decide (j < n) <;> simp
theorem mod_and (n s t : Nat) : (s &&& t) % 2 ^ n = s % 2 ^ n &&& t % 2 ^ n := Nat.eq_of_testBit_eq fun j => by
  simp only [Nat.testBit_mod_two_pow, Nat.testBit_and]
  cases decide (j < n) <;> simp
theorem div_or (n s t : Nat) : (s ||| t) / 2 ^ n = s / 2 ^ n ||| t / 2 ^ n := Nat.eq_of_testBit_eq fun j => by simp only [Nat.testBit_div_two_pow, Nat.testBit_or]
theorem div_and (n s t : Nat) : (s &&& t) / 2 ^ n = s / 2 ^ n &&& t / 2 ^ n := Nat.eq_of_testBit_eq fun j => by simp only [Nat.testBit_div_two_pow, Nat.testBit_and]
theorem mod_ltn (n s : Nat) : s % 2 ^ n < 2 ^ n := Nat.mod_lt _ (Nat.two_pow_pos n)
theorem div_ltn {n k s : Nat} (h : s < 2 ^ (n + k)) : s / 2 ^ n < 2 ^ k := by
  rw [Nat.pow_add] at h
  exact Nat.div_lt_of_lt_mul h
theorem sum_rkOn {n k : Nat} {r q : Nat → Nat} (hnk : n + k ≤ 8) (hr : RkOn n r) (hq : RkOn k q) : RkOn (n + k) (sumR n r q) where
  le := fun s hs => by
    have h1 := hr.le _ (mod_ltn n s)
    have h2 := hq.le _ (div_ltn hs)
    have h3 := pop_two n (by omega) s (lt256 hnk hs)
    show r (s % 2 ^ n) + q (s / 2 ^ n) ≤ pop s
    omega
  mono := fun s t hs ht h => by
    have h1 := hr.mono _ _ (mod_ltn n s) (mod_ltn n t) (subB_iff.2 fun j hj => by
      rw [Nat.testBit_mod_two_pow, Bool.and_eq_true] at hj ⊢
      exact ⟨hj.1, subB_iff.1 h j hj.2⟩)
    have h2 := hq.mono _ _ (div_ltn hs) (div_ltn ht) (subB_iff.2 fun j hj => by
      rw [Nat.testBit_div_two_pow] at hj ⊢
      exact subB_iff.1 h _ hj)
    show r (s % 2 ^ n) + q (s / 2 ^ n) ≤ r (t % 2 ^ n) + q (t / 2 ^ n)
    omega
  sub := fun s t hs ht => by
    have h1 := hr.sub _ _ (mod_ltn n s) (mod_ltn n t)
    have h2 := hq.sub _ _ (div_ltn hs) (div_ltn ht)
    show r ((s ||| t) % 2 ^ n) + q ((s ||| t) / 2 ^ n) + (r ((s &&& t) % 2 ^ n) + q ((s &&& t) / 2 ^ n)) ≤ r (s % 2 ^ n) + q (s / 2 ^ n) + (r (t % 2 ^ n) + q (t / 2 ^ n))
    rw [mod_or, mod_and, div_or, div_and]
    omega
/-- A set is independent in the sum just if both its parts are. -/
theorem sum_ind {n k s : Nat} {r q : Nat → Nat} (hnk : n + k ≤ 8) (hr : RkOn n r) (hq : RkOn k q) (hs : s < 2 ^ (n + k)) : sumR n r q s = pop s ↔ r (s % 2 ^ n) = pop (s % 2 ^ n) ∧ q (s / 2 ^ n) = pop (s / 2 ^ n) := by
  have h1 := hr.le _ (mod_ltn n s)
  have h2 := hq.le _ (div_ltn hs)
  have h3 := pop_two n (by omega) s (lt256 hnk hs)
  unfold sumR
  omega
def sumL (n : Nat) (l : List Nat) (k : Nat) (l' : List Nat) : List Nat := basR (n + k) (sumR n (rk l) (rk l'))
theorem sum_fam (n : Nat) (l : List Nat) (k : Nat) (l' : List Nat) : Fam (n + k) (sumL n l k l') := basR_fam _ _
theorem sum_bas {n k : Nat} {l l' : List Nat} (hnk : n + k ≤ 8) (hb : Bas l) (hb' : Bas l') : Bas (sumL n l k l') := (sum_rkOn hnk (hb.rkOn n) (hb'.rkOn k)).bas hnk
theorem sum_rk {n k s : Nat} {l l' : List Nat} (hnk : n + k ≤ 8) (hb : Bas l) (hb' : Bas l') (hs : s < 2 ^ (n + k)) : rk (sumL n l k l') s = sumR n (rk l) (rk l') s := (sum_rkOn hnk (hb.rkOn n) (hb'.rkOn k)).rk_eq hnk hs
theorem rm_ltN {n s i : Nat} (hs : s < 2 ^ n) : rm s i < 2 ^ n := sub_lt (subB_iff.2 fun j hj => by rw [rm_bit, Bool.and_eq_true] at hj; exact hj.1) hs
/-- Its circuits are both ones'. -/
theorem sum_cir {n k c : Nat} {l l' : List Nat} (hnk : n + k ≤ 8) (hb : Bas l) (hb' : Bas l') (hc : c < 2 ^ (n + k)) : cirB (rk (sumL n l k l')) c = true ↔ (c / 2 ^ n = 0 ∧ cirB (rk l) (c % 2 ^ n) = true) ∨ (c % 2 ^ n = 0 ∧ cirB (rk l') (c / 2 ^ n) = true) := by
  have hr := hb.rkOn n
  have hq := hb'.rkOn k
  have c8 := lt256 hnk hc
  have m8 : c % 2 ^ n < 256 := lt256 (by omega) (mod_ltn n c)
  have d8 : c / 2 ^ n < 256 := lt256 (by omega) (div_ltn hc)
  have ind : ∀ s, s < 2 ^ (n + k) → (rk (sumL n l k l') s = pop s ↔ rk l (s % 2 ^ n) = pop (s % 2 ^ n) ∧ rk l' (s / 2 ^ n) = pop (s / 2 ^ n)) := fun s hs => by rw [sum_rk hnk hb hb' hs, sum_ind hnk hr hq hs]
  have zero : ∀ {L : List Nat}, Bas L → rk L 0 = pop 0 := fun hL => by
    have h1 := hL.rk.le 0
    have e : pop 0 = 0 := by decide
    omega
  have bitm : ∀ i, i < n → (c % 2 ^ n).testBit i = c.testBit i := fun i hi => by rw [Nat.testBit_mod_two_pow, decide_eq_true hi, Bool.true_and]
  have bitd : ∀ i, (c / 2 ^ n).testBit i = c.testBit (n + i) := fun i => by rw [Nat.testBit_div_two_pow, Nat.add_comm]
  rw [cir_iff c8, cir_iff m8, cir_iff d8]
  constructor
  · rintro ⟨h1, h2⟩
    rw [Ne, ind c hc] at h2
    by_cases hm : rk l (c % 2 ^ n) = pop (c % 2 ^ n)
    · have hd : rk l' (c / 2 ^ n) ≠ pop (c / 2 ^ n) := fun e => h2 ⟨hm, e⟩
      refine .inr ⟨Classical.byContradiction fun h0 => ?_, fun i hi => ?_, hd⟩
      · obtain ⟨i, hi⟩ := exists_bit h0
        have hin : i < n := bit_lt (mod_ltn n c) hi
        have h3 := h1 i (by rw [← bitm i hin]; exact hi)
        rw [ind _ (rm_ltN hc), rm_div hin] at h3
        exact hd h3.2
      · have h3 := h1 (n + i) (by rw [← bitd]; exact hi)
        rw [ind _ (rm_ltN hc), rm_div'] at h3
        exact h3.2
    · refine .inl ⟨Classical.byContradiction fun h0 => ?_, fun i hi => ?_, hm⟩
      · obtain ⟨i, hi⟩ := exists_bit h0
        have h3 := h1 (n + i) (by rw [← bitd]; exact hi)
        rw [ind _ (rm_ltN hc), rm_mod'] at h3
        exact hm h3.1
      · have hin : i < n := bit_lt (mod_ltn n c) hi
        have h3 := h1 i (by rw [← bitm i hin]; exact hi)
        rw [ind _ (rm_ltN hc), rm_mod] at h3
        exact h3.1
  · rintro (⟨h0, h1, h2⟩ | ⟨h0, h1, h2⟩)
    · refine ⟨fun i hi => ?_, fun e => h2 ((ind c hc).1 e).1⟩
      have hin : i < n := Classical.byContradiction fun hn' => by
        have : (c / 2 ^ n).testBit (i - n) = true := by rw [bitd, show n + (i - n) = i by omega]; exact hi
        rw [h0, Nat.zero_testBit] at this
        cases this
      rw [ind _ (rm_ltN hc), rm_mod, rm_div hin, h0]
      exact ⟨h1 i (by rw [bitm i hin]; exact hi), zero hb'⟩
    · refine ⟨fun i hi => ?_, fun e => h2 ((ind c hc).1 e).2⟩
      have hin : ¬ i < n := fun hin => by
        have : (c % 2 ^ n).testBit i = true := by rw [bitm i hin]; exact hi
        rw [h0, Nat.zero_testBit] at this
        cases this
      obtain ⟨j, rfl⟩ : ∃ j, i = n + j := ⟨i - n, by omega⟩
      rw [ind _ (rm_ltN hc), rm_mod', rm_div', h0]
      exact ⟨zero hb, h1 j (by rw [bitd]; exact hi)⟩
/-- The sum's classes: those of the one, and those of the other one, behind it. -/
theorem sum_tg {n k i j : Nat} {l l' : List Nat} (hnk : n + k ≤ 8) (hb : Bas l) (hb' : Bas l') : tg (cirL (n + k) (sumL n l k l')) i j = true ↔ (i < n ∧ j < n ∧ tg (cirL n l) i j = true) ∨ (n ≤ i ∧ n ≤ j ∧ tg (cirL k l') (i - n) (j - n) = true) := by
  rw [tg_iff, tg_iff, tg_iff]
  constructor
  · rintro ⟨c, c1, c2, c3, c4⟩
    rcases (sum_cir hnk hb hb' c1).1 c2 with ⟨h0, h1⟩ | ⟨h0, h1⟩
    · have hc : c = c % 2 ^ n := by
        have := Nat.div_add_mod c (2 ^ n)
        rw [h0, Nat.mul_zero, Nat.zero_add] at this
        exact this.symm
      have hlt := mod_ltn n c
      rw [← hc] at h1 hlt
      exact .inl ⟨bit_lt hlt c3, bit_lt hlt c4, c, hlt, h1, c3, c4⟩
    · have hge : ∀ x, c.testBit x = true → n ≤ x := fun x hx => Classical.byContradiction fun hn' => by
        have : (c % 2 ^ n).testBit x = true := by rw [Nat.testBit_mod_two_pow, hx, decide_eq_true (by omega)]; rfl
        rw [h0, Nat.zero_testBit] at this
        cases this
      have g3 := hge i c3
      have g4 := hge j c4
      exact .inr ⟨g3, g4, c / 2 ^ n, div_ltn c1, h1, by rw [Nat.testBit_div_two_pow, show (i - n) + n = i by omega]; exact c3, by rw [Nat.testBit_div_two_pow, show (j - n) + n = j by omega]; exact c4⟩
  · rintro (⟨_, _, c, c1, c2, c3, c4⟩ | ⟨g3, g4, c, c1, c2, c3, c4⟩)
    · have hlt : c < 2 ^ (n + k) := Nat.lt_of_lt_of_le c1 (Nat.pow_le_pow_right (by decide) (by omega))
      exact ⟨c, hlt, (sum_cir hnk hb hb' hlt).2 (.inl ⟨Nat.div_eq_of_lt c1, by rw [Nat.mod_eq_of_lt c1]; exact c2⟩), c3, c4⟩
    · have hlt : c * 2 ^ n < 2 ^ (n + k) := by rw [Nat.pow_add, Nat.mul_comm]; exact Nat.mul_lt_mul_of_pos_left c1 (Nat.two_pow_pos n)
      have hd : c * 2 ^ n / 2 ^ n = c := Nat.mul_div_cancel _ (Nat.two_pow_pos n)
      have hbit : ∀ x, n ≤ x → (c * 2 ^ n).testBit x = c.testBit (x - n) := fun x hx => by
        have h1 : (c * 2 ^ n / 2 ^ n).testBit (x - n) = (c * 2 ^ n).testBit ((x - n) + n) := Nat.testBit_div_two_pow ..
        rw [hd, show (x - n) + n = x by omega] at h1
        exact h1.symm
      exact ⟨c * 2 ^ n, hlt, (sum_cir hnk hb hb' hlt).2 (.inr ⟨Nat.mul_mod_left _ _, by rw [hd]; exact c2⟩), by rw [hbit i g3]; exact c3, by rw [hbit j g4]; exact c4⟩
theorem sum_cls_low {n k i : Nat} {l l' : List Nat} (hnk : n + k ≤ 8) (hb : Bas l) (hb' : Bas l') (hi : i < n) : cls (cirL (n + k) (sumL n l k l')) (n + k) i = cls (cirL n l) n i := Nat.eq_of_testBit_eq fun j => by
  rw [cls_bit, cls_bit, Bool.eq_iff_iff, Bool.and_eq_true, Bool.and_eq_true, decide_eq_true_iff, decide_eq_true_iff, decide_eq_true_iff, decide_eq_true_iff, sum_tg hnk hb hb']
  constructor
  · rintro ⟨h1, rfl | ⟨_, h2, h3⟩ | ⟨h2, _⟩⟩
    · exact ⟨hi, .inl rfl⟩
    · exact ⟨h2, .inr h3⟩
    · omega
  · rintro ⟨h1, rfl | h2⟩
    · exact ⟨by omega, .inl rfl⟩
    · exact ⟨by omega, .inr (.inl ⟨hi, h1, h2⟩)⟩
theorem sum_cls_high {n k i : Nat} {l l' : List Nat} (hnk : n + k ≤ 8) (hb : Bas l) (hb' : Bas l') (hi : i < k) : cls (cirL (n + k) (sumL n l k l')) (n + k) (n + i) = cls (cirL k l') k i * 2 ^ n := Nat.eq_of_testBit_eq fun j => by
  have hbit : (cls (cirL k l') k i * 2 ^ n).testBit j = (decide (n ≤ j) && (cls (cirL k l') k i).testBit (j - n)) := by
    rw [Nat.testBit_mul_two_pow]
  rw [hbit, cls_bit, cls_bit, Bool.eq_iff_iff]
  simp only [Bool.and_eq_true, decide_eq_true_iff]
  rw [sum_tg hnk hb hb']
  constructor
  · rintro ⟨h1, rfl | ⟨h2, _⟩ | ⟨_, h2, h3⟩⟩
    · exact ⟨by omega, by omega, .inl (by omega)⟩
    · omega
    · rw [show n + i - n = i by omega] at h3
      exact ⟨h2, by omega, .inr h3⟩
  · rintro ⟨h1, h2, h3 | h3⟩
    · exact ⟨by omega, .inl (by omega)⟩
    · exact ⟨by omega, .inr (.inr ⟨by omega, h1, by rw [show n + i - n = i by omega]; exact h3⟩)⟩
/-- Both ones' components, put in order, are the sum's. -/
theorem sum_comps {n k : Nat} {l l' L : List Nat} (hnk : n + k ≤ 8) (hb : Bas l) (hb' : Bas l') (h1 : L.Perm (eqL n (cls (cirL n l) n) ++ (eqL k (cls (cirL k l') k)).map (· * 2 ^ n))) (h2 : L.Pairwise (· ≤ ·)) : L = eqL (n + k) (cls (cirL (n + k) (sumL n l k l')) (n + k)) := by
  have hE := cls_eqv (n := n) (by omega) hb
  have hE' := cls_eqv (n := k) (by omega) hb'
  have hS := cls_eqv (n := n + k) hnk (sum_bas hnk hb hb')
  have nd1 : (eqL n (cls (cirL n l) n)).Nodup := (eq_fam n _).up.imp (fun h => Nat.ne_of_lt h)
  have nd2 : ((eqL k (cls (cirL k l') k)).map (· * 2 ^ n)).Nodup := List.pairwise_map.2 ((eq_fam k _).up.imp fun h e => by
    have := Nat.eq_of_mul_eq_mul_right (Nat.two_pow_pos n) e
    omega)
  have nd : (eqL n (cls (cirL n l) n) ++ (eqL k (cls (cirL k l') k)).map (· * 2 ^ n)).Nodup := by
    rw [List.nodup_append]
    refine ⟨nd1, nd2, fun a ha b hbm e => ?_⟩
    obtain ⟨i, hi, rfl⟩ := (mem_eqL hE).1 ha
    obtain ⟨c, hc, rfl⟩ := List.mem_map.1 hbm
    obtain ⟨j, hj, rfl⟩ := (mem_eqL hE').1 hc
    have h3 := hE.self i hi
    rw [e, Nat.testBit_mul_two_pow] at h3
    have : ¬ n ≤ i := by omega
    simp [this] at h3
  have hL : L.Nodup := h1.nodup_iff.2 nd
  have h3 : L.Pairwise (· < ·) := List.Pairwise.imp₂ (fun a b h4 h5 => Nat.lt_of_le_of_ne h4 h5) h2 hL
  refine sorted_ext h3 (eq_fam _ _).up fun x => ?_
  rw [h1.mem_iff, List.mem_append, List.mem_map, mem_eqL hE, mem_eqL hS]
  constructor
  · rintro (⟨i, hi, rfl⟩ | ⟨c, hc, rfl⟩)
    · exact ⟨i, by omega, sum_cls_low hnk hb hb' hi⟩
    · obtain ⟨j, hj, rfl⟩ := (mem_eqL hE').1 hc
      exact ⟨n + j, by omega, sum_cls_high hnk hb hb' hj⟩
  · rintro ⟨i, hi, rfl⟩
    by_cases hin : i < n
    · exact .inl ⟨i, hin, (sum_cls_low hnk hb hb' hin).symm⟩
    · obtain ⟨j, rfl⟩ : ∃ j, i = n + j := ⟨i - n, by omega⟩
      have hj : j < k := by omega
      exact .inr ⟨_, (mem_eqL hE').2 ⟨j, hj, rfl⟩, (sum_cls_high hnk hb hb' hj).symm⟩
end Go.Proofs.YtdabkgbbalooiaaDoor

namespace Go.Proofs.YtdabkgbbalooiaaDoor

theorem flip_cpl {n b e i : Nat} (hb : b < 2 ^ n) (he : e < n) (hi : i < n) : (2 ^ n - 1 - b) ^^^ 2 ^ e ^^^ 2 ^ i = 2 ^ n - 1 - (b ^^^ 2 ^ e ^^^ 2 ^ i) := Nat.eq_of_testBit_eq fun j => by
  rw [flip_bit, flip_bit, cpl_bit hb, cpl_bit (flip_lt (flip_lt hb he) hi), flip_bit, flip_bit]
  by_cases hj : j < n
  · simp [hj]
  · have h1 : e ≠ j := by omega
    have h2 : i ≠ j := by omega
    simp [hj, h1, h2]
theorem act_cmp {n : Nat} {l : List Nat} {b e : Nat} (hf : ∀ s ∈ l, s < 2 ^ n) (hb : b < 2 ^ n) (he : e < n) : actB (cmp n l) (2 ^ n - 1 - b) e = actB l b e := by
  rw [Bool.eq_iff_iff, act_iff, act_iff]
  refine forall_congr' fun i => forall_congr' fun hi => not_congr ?_
  rw [flip_cpl hb he (by omega), mem_cmp hf, cpl_cpl (flip_lt (flip_lt hb he) (by omega))]
  simp [cpl_lt]
theorem actI_cmp {n : Nat} {l : List Nat} {b : Nat} (hf : ∀ s ∈ l, s < 2 ^ n) (hb : b < 2 ^ n) : actI (cmp n l) (2 ^ n - 1 - b) n = actO l b n := Nat.eq_of_testBit_eq fun j => by
  rw [actI_bit, actO_bit]
  by_cases h : j < n
  · rw [act_cmp hf hb h, cpl_bit hb]; simp [h]
  · simp [h]
theorem actO_cmp {n : Nat} {l : List Nat} {b : Nat} (hf : ∀ s ∈ l, s < 2 ^ n) (hb : b < 2 ^ n) : actO (cmp n l) (2 ^ n - 1 - b) n = actI l b n := Nat.eq_of_testBit_eq fun j => by
  rw [actI_bit, actO_bit]
  by_cases h : j < n
  · rw [act_cmp hf hb h, cpl_bit hb]; simp [h]
  · simp [h]
/-- the Dual's is turned over -/
theorem wt_cmp {n : Nat} {l : List Nat} (hf : ∀ s ∈ l, s < 2 ^ n) (g : Nat → Nat → Int) : wt n (cmp n l) g = wt n l fun i j => g j i := by
  have h1 : wt n (cmp n l) g = tal (fun b => g (pop (actI (cmp n l) (2 ^ n - 1 - b) n)) (pop (actO (cmp n l) (2 ^ n - 1 - b) n))) l.reverse := by
    unfold wt
    rw [show tal (fun b => g (pop (actI (cmp n l) b n)) (pop (actO (cmp n l) b n))) (cmp n l) = tal (fun b => g (pop (actI (cmp n l) b n)) (pop (actO (cmp n l) b n))) (l.reverse.map fun s => 2 ^ n - 1 - s) from rfl, tal_map]
  rw [h1, tal_perm _ (List.reverse_perm l)]
  unfold wt
  exact tal_congr fun b hb => by rw [actI_cmp hf (hf b hb), actO_cmp hf (hf b hb)]

theorem dz_mul (c : Int) : ∀ (a b : Nat) (g : Nat → Nat → Int), dz (fun i j => c * g i j) a b = c * dz g a b
  | 0, 0, g => by simp [dz]
  | 0, b + 1, g => by
    rw [dz.eq_2, dz.eq_2, dz_mul c 0 b (fun i j => g i (j + 1)), dz_mul c 0 b g, Int.mul_sub]
  | a + 1, b, g => by
    rw [dz.eq_3, dz.eq_3, dz_mul c a b (fun i j => g (i + 1) j), dz_mul c a b g, Int.mul_sub]
theorem dz_pow (x y : Int) : ∀ a b : Nat, dz (fun i j => x ^ i * y ^ j) a b = (x - 1) ^ a * (y - 1) ^ b
  | 0, 0 => by simp [dz]
  | 0, b + 1 => by
    have h : (fun i j => x ^ i * y ^ (j + 1)) = fun i j => y * (x ^ i * y ^ j) := by
      funext i j
      rw [Int.pow_succ, Int.mul_comm y, Int.mul_assoc]
    rw [dz.eq_2, h, dz_mul, dz_pow x y 0 b, Int.pow_succ (y - 1) b]
    simp only [Int.pow_zero, Int.one_mul]
    rw [Int.mul_sub, Int.mul_one, Int.mul_comm]
  | a + 1, b => by
    have h : (fun i j => x ^ (i + 1) * y ^ j) = fun i j => x * (x ^ i * y ^ j) := by
      funext i j
      rw [Int.pow_succ, Int.mul_comm (x ^ i) x, Int.mul_assoc]
    rw [dz.eq_3, h, dz_mul, dz_pow x y a b, Int.pow_succ (x - 1) a, Int.mul_comm ((x - 1) ^ a) (x - 1), Int.mul_assoc, Int.sub_mul, Int.one_mul]
/-- the value at a point -/
def pvZ (n : Nat) (l : List Nat) (x y : Int) : Int := wt n l fun i j => x ^ i * y ^ j
theorem pv_sum {n : Nat} {l : List Nat} (hn : n ≤ 8) (hf : Fam n l) (hb : Bas l) (x y : Int) : pvZ n l x y = tal (fun s => (x - 1) ^ (rk l (2 ^ n - 1) - rk l s) * (y - 1) ^ (pop s - rk l s)) (List.range (2 ^ n)) := by
  unfold pvZ
  rw [wt_cz n l hn hf hb]
  unfold cz
  exact tal_congr fun s _ => dz_pow x y _ _
theorem tal_cnt (p : Nat → Bool) : ∀ l : List Nat, tal (fun s => if p s = true then 1 else 0) l = ((l.filter p).length : Int)
  | [] => rfl
  | a :: l => by
    simp only [tal, tal_cnt p l, List.filter_cons]
    cases h : p a
    · simp
    · simp; omega
theorem pv_11 (n : Nat) (l : List Nat) : pvZ n l 1 1 = l.length := by
  unfold pvZ wt
  rw [tal_congr (G := fun _ => 1) (fun b _ => by show (1 : Int) ^ _ * 1 ^ _ = 1; rw [Int.one_pow, Int.one_pow]; rfl), tal_const, Int.one_mul]
theorem zero_pow' (k : Nat) : (0 : Int) ^ k = if k = 0 then 1 else 0 := by
  cases k with
  | zero => rfl
  | succ k => rw [Int.pow_succ, Int.mul_zero]; rfl
theorem pv_21 {n : Nat} {l : List Nat} (hn : n ≤ 8) (hf : Fam n l) (hb : Bas l) : pvZ n l 2 1 = (((List.range (2 ^ n)).filter fun s => rk l s == pop s).length : Int) := by
  rw [pv_sum hn hf hb, ← tal_cnt]
  refine tal_congr fun s _ => ?_
  have := hb.rk.le s
  rw [show (2 : Int) - 1 = 1 from rfl, show (1 : Int) - 1 = 0 from rfl, Int.one_pow, Int.one_mul, zero_pow']
  by_cases h : rk l s = pop s
  · rw [if_pos (by omega), if_pos (by simp [h])]
  · rw [if_neg (by omega), if_neg (by simp [h])]
theorem pv_12 {n : Nat} {l : List Nat} (hn : n ≤ 8) (hf : Fam n l) (hb : Bas l) : pvZ n l 1 2 = (((List.range (2 ^ n)).filter fun s => rk l s == rk l (2 ^ n - 1)).length : Int) := by
  rw [pv_sum hn hf hb, ← tal_cnt]
  refine tal_congr fun s hs => ?_
  have := hb.rk.mono s _ (full_sub (List.mem_range.1 hs))
  rw [show (2 : Int) - 1 = 1 from rfl, show (1 : Int) - 1 = 0 from rfl, Int.one_pow, Int.mul_one, zero_pow']
  by_cases h : rk l s = rk l (2 ^ n - 1)
  · rw [if_pos (by omega), if_pos (by simp [h])]
  · rw [if_neg (by omega), if_neg (by simp [h])]
theorem pv_22 {n : Nat} {l : List Nat} (hn : n ≤ 8) (hf : Fam n l) (hb : Bas l) : pvZ n l 2 2 = (2 ^ n : Nat) := by
  rw [pv_sum hn hf hb, tal_congr (G := fun _ => 1), tal_const]
  · simp
  · intro s _
    rw [show (2 : Int) - 1 = 1 from rfl, Int.one_pow, Int.one_pow]; rfl

/-- the sets without e, and with it -/
theorem shf_oldT {k c : Nat} (hc : c < 2 ^ pop k) : shf (els k) (old (els k) c) = c := Nat.eq_of_testBit_eq fun i => by
  rw [Bool.eq_iff_iff, shf_bit]
  constructor
  · rintro ⟨x, h1, h2⟩
    obtain ⟨j, h3, h4⟩ := old_bit.1 h2
    rw [up_inj (els_up k) h1 h3]; exact h4
  · intro h
    have hi := bit_n hc h
    rw [← els_len] at hi
    exact ⟨(els k)[i], List.getElem?_eq_getElem hi, old_bit.2 ⟨i, List.getElem?_eq_getElem hi, h⟩⟩
theorem keptE_pop {n e : Nat} (hn : n ≤ 8) (he : e < n) : pop (dif (2 ^ n - 1) (2 ^ e)) + 1 = n := by
  have h1 := pop_rm (2 ^ n - 1) (lt256 hn (full_lt n)) e (by omega) (by rw [full_bit]; simpa using he)
  have h2 := popB_full n hn
  rw [h2] at h1
  have h3 : dif (2 ^ n - 1) (2 ^ e) = rm (2 ^ n - 1) e := rfl
  rw [h3]
  omega
theorem old_noE {n e : Nat} (hn : n ≤ 8) (t : Nat) : (old (els (dif (2 ^ n - 1) (2 ^ e))) t).testBit e = false := by
  have h := old_sub (kept_lt hn (2 ^ e)) t
  cases hb : (old (els (dif (2 ^ n - 1) (2 ^ e))) t).testBit e
  · rfl
  · have := subB_iff.1 h e hb
    rw [dif_bit, Nat.testBit_two_pow] at this
    simp at this
theorem rangeE_at {n e : Nat} (hn : n ≤ 8) (he : e < n) : (List.range (2 ^ n)).Perm ((List.range (2 ^ (n - 1))).map (old (els (dif (2 ^ n - 1) (2 ^ e)))) ++ (List.range (2 ^ (n - 1))).map fun t => old (els (dif (2 ^ n - 1) (2 ^ e))) t ||| 2 ^ e) := by
  have hp := keptE_pop hn he
  have hp' : n - 1 = pop (dif (2 ^ n - 1) (2 ^ e)) := by omega
  rw [hp']
  have hk := kept_lt hn (2 ^ e)
  have inj : ∀ a, a < 2 ^ pop (dif (2 ^ n - 1) (2 ^ e)) → ∀ b, b < 2 ^ pop (dif (2 ^ n - 1) (2 ^ e)) → old (els (dif (2 ^ n - 1) (2 ^ e))) a = old (els (dif (2 ^ n - 1) (2 ^ e))) b → a = b := fun a ha b hb h => by
    rw [← shf_oldT ha, ← shf_oldT hb, h]
  refine (List.perm_ext_iff_of_nodup List.nodup_range ?_).2 fun s => ?_
  · rw [List.nodup_append]
    refine ⟨?_, ?_, ?_⟩
    · refine List.pairwise_map.2 (List.Pairwise.imp_of_mem (fun {q r} hq hr hqr e' => hqr ?_) List.nodup_range)
      exact inj q (List.mem_range.1 hq) r (List.mem_range.1 hr) e'
    · refine List.pairwise_map.2 (List.Pairwise.imp_of_mem (fun {q r} hq hr hqr e' => hqr ?_) List.nodup_range)
      refine inj q (List.mem_range.1 hq) r (List.mem_range.1 hr) (Nat.eq_of_testBit_eq fun j => ?_)
      have h1 := congrArg (fun x => x.testBit j) e'
      simp only [or_bit] at h1
      by_cases hj : e = j
      · subst hj
        rw [old_noE hn, old_noE hn]
      · simpa [hj] using h1
    · intro a ha b hb hab
      rw [List.mem_map] at ha hb
      obtain ⟨x, _, rfl⟩ := ha
      obtain ⟨y, _, rfl⟩ := hb
      have h1 := congrArg (fun x => x.testBit e) hab
      simp only [or_bit] at h1
      rw [old_noE hn] at h1
      simp at h1
  · rw [List.mem_range, List.mem_append, List.mem_map, List.mem_map]
    constructor
    · intro hs
      cases hb : s.testBit e
      · refine Or.inl ⟨shf (els (dif (2 ^ n - 1) (2 ^ e))) s, List.mem_range.2 (shf_lt s), ?_⟩
        rw [old_shf hk]
        refine Nat.eq_of_testBit_eq fun j => ?_
        rw [Nat.testBit_and, dif_bit, full_bit, Nat.testBit_two_pow]
        by_cases hj : e = j
        · subst hj; simp [hb]
        · cases hsj : s.testBit j
          · simp
          · simp [hj, bit_n hs hsj]
      · refine Or.inr ⟨shf (els (dif (2 ^ n - 1) (2 ^ e))) s, List.mem_range.2 (shf_lt s), ?_⟩
        rw [old_shf hk]
        refine Nat.eq_of_testBit_eq fun j => ?_
        rw [or_bit, Nat.testBit_and, dif_bit, full_bit, Nat.testBit_two_pow]
        by_cases hj : e = j
        · subst hj; simp [hb]
        · cases hsj : s.testBit j
          · simp [hj]
          · simp [hj, bit_n hs hsj]
    · rintro (⟨t, _, rfl⟩ | ⟨t, _, rfl⟩)
      · exact old_ltn hn _ t
      · exact ad_lt (old_ltn hn _ t) he
theorem cz_at {n e : Nat} (hn : n ≤ 8) (he : e < n) (r : Nat → Nat) (g : Nat → Nat → Int) :
    cz n r g = tal (fun t => dz g (r (2 ^ n - 1) - r (old (els (dif (2 ^ n - 1) (2 ^ e))) t)) (pop t - r (old (els (dif (2 ^ n - 1) (2 ^ e))) t)) + dz g (r (2 ^ n - 1) - r (old (els (dif (2 ^ n - 1) (2 ^ e))) t ||| 2 ^ e)) (pop t + 1 - r (old (els (dif (2 ^ n - 1) (2 ^ e))) t ||| 2 ^ e))) (List.range (2 ^ (n - 1))) := by
  have hp := keptE_pop hn he
  unfold cz
  rw [tal_perm _ (rangeE_at hn he), tal_append, tal_map, tal_map, tal_add]
  congr 1
  · refine tal_congr fun t ht => ?_
    have ht := List.mem_range.1 ht
    rw [els_pop (kept_lt hn _) (by rw [show pop (dif (2 ^ n - 1) (2 ^ e)) = n - 1 by omega]; exact ht)]
  · refine tal_congr fun t ht => ?_
    have ht := List.mem_range.1 ht
    rw [pop_ad _ (lt256 hn (old_ltn hn _ t)) e (by omega) (old_noE hn t), els_pop (kept_lt hn _) (by rw [show pop (dif (2 ^ n - 1) (2 ^ e)) = n - 1 by omega]; exact ht)]
theorem min_fam' {n e : Nat} (hn : n ≤ 8) (he : e < n) (l : List Nat) (b : Nat) : Fam (n - 1) (minL n l (2 ^ e) b) := by
  have h := min_fam n l (2 ^ e) b
  have hp := keptE_pop hn he
  rwa [show pop (dif (2 ^ n - 1) (2 ^ e)) = n - 1 by omega] at h
theorem min_rk' {n e : Nat} {l : List Nat} (hn : n ≤ 8) (he : e < n) (hb : Bas l) (b : Nat) {t : Nat} (ht : t < 2 ^ (n - 1)) : rk (minL n l (2 ^ e) b) t = rk l (old (els (dif (2 ^ n - 1) (2 ^ e))) t ||| b) - rk l b := by
  have hp := keptE_pop hn he
  rw [min_rk hn hb _ _ (by rw [show pop (dif (2 ^ n - 1) (2 ^ e)) = n - 1 by omega]; exact ht)]
  rfl
theorem old_fullE {n e : Nat} (hn : n ≤ 8) (he : e < n) : old (els (dif (2 ^ n - 1) (2 ^ e))) (2 ^ (n - 1) - 1) = dif (2 ^ n - 1) (2 ^ e) := by
  have hp := keptE_pop hn he
  have := old_full (kept_lt hn (2 ^ e))
  rwa [show pop (dif (2 ^ n - 1) (2 ^ e)) = n - 1 by omega] at this
theorem dif_ad {n e : Nat} (he : e < n) : dif (2 ^ n - 1) (2 ^ e) ||| 2 ^ e = 2 ^ n - 1 := by
  have : (2 ^ n - 1).testBit e = true := by rw [full_bit]; simpa using he
  exact ad_rm this
/-- a loop -/
theorem wt_del {n e : Nat} {l : List Nat} (hn : n ≤ 8) (he : e < n) (hf : Fam n l) (hb : Bas l) (h0 : rk l (2 ^ e) = 0) (g : Nat → Nat → Int) : wt n l g = wt (n - 1) (minL n l (2 ^ e) 0) fun i j => g i (j + 1) := by
  have hr := hb.rk
  have hz := hr.zero
  have hadd : ∀ s, rk l (s ||| 2 ^ e) = rk l s := fun s => hr.add (s := 0) (by unfold subB; simp) (by rw [Nat.zero_or, h0, hz])
  rw [wt_cz n l hn hf hb, wt_cz (n - 1) _ (by omega) (min_fam' hn he l 0) (min_bas hn hb _ _), cz_at hn he]
  unfold cz
  refine tal_congr fun t ht => ?_
  have ht := List.mem_range.1 ht
  rw [min_rk' hn he hb 0 ht, min_rk' hn he hb 0 (full_lt _), old_fullE hn he, hz, Nat.or_zero, Nat.or_zero, Nat.sub_zero, Nat.sub_zero, ← dz_out, hadd]
  have hk : rk l (dif (2 ^ n - 1) (2 ^ e)) = rk l (2 ^ n - 1) := by rw [← hadd, dif_ad he]
  have hle := hr.le (old (els (dif (2 ^ n - 1) (2 ^ e))) t)
  rw [els_pop (kept_lt hn _) (by have := keptE_pop hn he; rw [show pop (dif (2 ^ n - 1) (2 ^ e)) = n - 1 by omega]; exact ht)] at hle
  rw [hk, show pop t + 1 - rk l (old (els (dif (2 ^ n - 1) (2 ^ e))) t) = pop t - rk l (old (els (dif (2 ^ n - 1) (2 ^ e))) t) + 1 by omega]
/-- a bridge -/
theorem wt_con {n e : Nat} {l : List Nat} (hn : n ≤ 8) (he : e < n) (hf : Fam n l) (hb : Bas l) (h0 : rk l (dif (2 ^ n - 1) (2 ^ e)) < rk l (2 ^ n - 1)) (g : Nat → Nat → Int) : wt n l g = wt (n - 1) (minL n l (2 ^ e) (2 ^ e)) fun i j => g (i + 1) j := by
  have hr := hb.rk
  have hz := hr.zero
  have hadd : ∀ t, rk l (old (els (dif (2 ^ n - 1) (2 ^ e))) t ||| 2 ^ e) = rk l (old (els (dif (2 ^ n - 1) (2 ^ e))) t) + 1 := fun t => by
    have a1 := hr.step (old (els (dif (2 ^ n - 1) (2 ^ e))) t) e
    have a2 := hr.mono _ _ (sub_or (old (els (dif (2 ^ n - 1) (2 ^ e))) t) (2 ^ e))
    by_cases h : rk l (old (els (dif (2 ^ n - 1) (2 ^ e))) t ||| 2 ^ e) = rk l (old (els (dif (2 ^ n - 1) (2 ^ e))) t)
    · have := hr.add (old_sub (kept_lt hn (2 ^ e)) t) h
      rw [dif_ad he] at this
      omega
    · omega
  have h1 : rk l (2 ^ e) = 1 := by
    have := hadd 0
    rw [old_zero, Nat.zero_or, hz] at this
    exact this
  rw [wt_cz n l hn hf hb, wt_cz (n - 1) _ (by omega) (min_fam' hn he l _) (min_bas hn hb _ _), cz_at hn he]
  unfold cz
  refine tal_congr fun t ht => ?_
  have ht := List.mem_range.1 ht
  rw [min_rk' hn he hb _ ht, min_rk' hn he hb _ (full_lt _), old_fullE hn he, dif_ad he, h1, hadd, ← dz_in]
  have hm := hr.mono _ _ (old_sub (kept_lt hn (2 ^ e)) t)
  rw [Int.add_comm]
  congr 2 <;> omega
/-- neither -/
theorem wt_dc {n e : Nat} {l : List Nat} (hn : n ≤ 8) (he : e < n) (hf : Fam n l) (hb : Bas l) (h0 : rk l (2 ^ e) ≠ 0) (h1 : ¬ rk l (dif (2 ^ n - 1) (2 ^ e)) < rk l (2 ^ n - 1)) (g : Nat → Nat → Int) : wt n l g = wt (n - 1) (minL n l (2 ^ e) 0) g + wt (n - 1) (minL n l (2 ^ e) (2 ^ e)) g := by
  have hr := hb.rk
  have hz := hr.zero
  have h2 : rk l (2 ^ e) = 1 := by
    have := hr.step 0 e
    rw [Nat.zero_or, hz] at this
    omega
  have h3 : rk l (dif (2 ^ n - 1) (2 ^ e)) = rk l (2 ^ n - 1) := by
    have := hr.mono _ _ (full_sub (kept_ltn n (2 ^ e)))
    omega
  rw [wt_cz n l hn hf hb, wt_cz (n - 1) _ (by omega) (min_fam' hn he l _) (min_bas hn hb _ _), wt_cz (n - 1) _ (by omega) (min_fam' hn he l _) (min_bas hn hb _ _), cz_at hn he, tal_add]
  unfold cz
  congr 1
  · refine tal_congr fun t ht => ?_
    have ht := List.mem_range.1 ht
    rw [min_rk' hn he hb 0 ht, min_rk' hn he hb 0 (full_lt _), old_fullE hn he, hz, Nat.or_zero, Nat.or_zero, Nat.sub_zero, Nat.sub_zero, h3]
  · refine tal_congr fun t ht => ?_
    have ht := List.mem_range.1 ht
    have hg := min_ge hr (old (els (dif (2 ^ n - 1) (2 ^ e))) t) (2 ^ e)
    rw [min_rk' hn he hb _ ht, min_rk' hn he hb _ (full_lt _), old_fullE hn he, dif_ad he, h2]
    rw [h2] at hg
    congr 1 <;> omega

theorem dz_add : ∀ (a b : Nat) (g h : Nat → Nat → Int), dz (fun i j => g i j + h i j) a b = dz g a b + dz h a b
  | 0, 0, g, h => by simp [dz]
  | 0, b + 1, g, h => by
    rw [dz.eq_2, dz.eq_2, dz.eq_2, dz_add 0 b (fun i j => g i (j + 1)) (fun i j => h i (j + 1)), dz_add 0 b g h]; omega
  | a + 1, b, g, h => by
    rw [dz.eq_3, dz.eq_3, dz.eq_3, dz_add a b (fun i j => g (i + 1) j) (fun i j => h (i + 1) j), dz_add a b g h]; omega
theorem dz_none : ∀ (a b : Nat), dz (fun _ _ => 0) a b = 0
  | 0, 0 => by simp [dz]
  | 0, b + 1 => by rw [dz.eq_2, dz_none 0 b]; rfl
  | a + 1, b => by rw [dz.eq_3, dz_none a b]; rfl
theorem dz_tal (h : Nat → Nat → Nat → Int) (a b : Nat) : ∀ L : List Nat, dz (fun i j => tal (fun s => h s i j) L) a b = tal (fun s => dz (h s) a b) L
  | [] => dz_none a b
  | x :: L => by
    simp only [tal]
    rw [dz_add, dz_tal h a b L]
theorem dz_two : ∀ (a1 b1 a2 b2 : Nat) (g : Nat → Nat → Int), dz g (a1 + a2) (b1 + b2) = dz (fun i j => dz (fun i' j' => g (i + i') (j + j')) a2 b2) a1 b1
  | 0, 0, a2, b2, g => by simp [dz]
  | 0, b1 + 1, a2, b2, g => by
    have h1 := dz_out g (0 + a2) (b1 + b2)
    have h2 := dz_two 0 b1 a2 b2 (fun i j => g i (j + 1))
    have h3 := dz_two 0 b1 a2 b2 g
    rw [dz.eq_2]
    have h4 : (fun i j => dz (fun i' j' => g (i + i') (j + 1 + j')) a2 b2) = fun i j => dz (fun i' j' => g (i + i') (j + j' + 1)) a2 b2 := by
      funext i j
      congr 1
      funext i' j'
      rw [Nat.add_right_comm]
    rw [h4]
    have h2' : dz (fun i j => g i (j + 1)) (0 + a2) (b1 + b2) = dz (fun i j => dz (fun i' j' => g (i + i') (j + j' + 1)) a2 b2) 0 b1 := h2
    rw [show b1 + 1 + b2 = b1 + b2 + 1 by omega]
    omega
  | a1 + 1, b1, a2, b2, g => by
    have h2 := dz_two a1 b1 a2 b2 (fun i j => g (i + 1) j)
    have h3 := dz_two a1 b1 a2 b2 g
    rw [dz.eq_3, show a1 + 1 + a2 = a1 + a2 + 1 by omega, dz.eq_3]
    have h4 : (fun i j => dz (fun i' j' => g (i + 1 + i') (j + j')) a2 b2) = fun i j => dz (fun i' j' => g (i + i' + 1) (j + j')) a2 b2 := by
      funext i j
      congr 1
      funext i' j'
      rw [Nat.add_right_comm]
    rw [h4]
    have h2' : dz (fun i j => g (i + 1) j) (a1 + a2) (b1 + b2) = dz (fun i j => dz (fun i' j' => g (i + i' + 1) (j + j')) a2 b2) a1 b1 := h2
    omega
theorem tal_mulR (F : Nat → Int) (A : Nat) : ∀ B : Nat, tal F (List.range (A * B)) = tal (fun t => tal (fun s => F (A * t + s)) (List.range A)) (List.range B)
  | 0 => by simp [tal]
  | B + 1 => by
    have h1 : List.range (B + 1) = List.range B ++ [B] := List.range_succ
    rw [Nat.mul_succ, List.range_add, tal_append, tal_map, tal_mulR F A B, h1, tal_append]
    simp [tal]
theorem tal_swapT (H : Nat → Nat → Int) (L : List Nat) : ∀ l : List Nat, tal (fun f => tal (fun g => H f g) L) l = tal (fun g => tal (fun f => H f g) l) L
  | [] => by
    simp only [tal]
    induction L with
    | nil => rfl
    | cons a L ih => simp only [tal, ← ih]; rfl
  | x :: l => by
    simp only [tal]
    rw [tal_swapT H L l, ← tal_add]
/-- sums -/
theorem wt_sum {n k : Nat} {l l' : List Nat} (hnk : n + k ≤ 8) (hf : Fam n l) (hb : Bas l) (hf' : Fam k l') (hb' : Bas l') (g : Nat → Nat → Int) : wt (n + k) (sumL n l k l') g = wt n l fun i j => wt k l' fun i' j' => g (i + i') (j + j') := by
  have h1 := wt_cz (n + k) _ hnk (sum_fam n l k l') (sum_bas hnk hb hb') g
  have h2 : (fun i j => wt k l' fun i' j' => g (i + i') (j + j')) = fun i j => cz k (rk l') fun i' j' => g (i + i') (j + j') := by
    funext i j
    exact wt_cz k l' (by omega) hf' hb' _
  rw [h1, h2, wt_cz n l (by omega) hf hb]
  unfold cz
  rw [Nat.pow_add, tal_mulR, ← tal_swapT]
  refine tal_congr fun s hs => ?_
  rw [dz_tal]
  refine tal_congr fun t ht => ?_
  have hs := List.mem_range.1 hs
  have ht := List.mem_range.1 ht
  have hlt : 2 ^ n * t + s < 2 ^ (n + k) := by
    rw [Nat.pow_add]
    calc 2 ^ n * t + s < 2 ^ n * t + 2 ^ n := by omega
      _ = 2 ^ n * (t + 1) := by rw [Nat.mul_succ]
      _ ≤ 2 ^ n * 2 ^ k := Nat.mul_le_mul_left _ ht
  have em : (2 ^ n * t + s) % 2 ^ n = s := by rw [Nat.mul_add_mod]; exact Nat.mod_eq_of_lt hs
  have ed : (2 ^ n * t + s) / 2 ^ n = t := by rw [Nat.mul_add_div (Nat.two_pow_pos n), Nat.div_eq_of_lt hs, Nat.add_zero]
  have e1 : rk (sumL n l k l') (2 ^ n * t + s) = rk l s + rk l' t := by
    rw [sum_rk hnk hb hb' hlt]; unfold sumR; rw [em, ed]
  have fl := full_lt (n + k)
  have e2 : rk (sumL n l k l') (2 ^ n * 2 ^ k - 1) = rk l (2 ^ n - 1) + rk l' (2 ^ k - 1) := by
    rw [← Nat.pow_add, sum_rk hnk hb hb' fl]
    unfold sumR
    have hk0 := Nat.one_le_two_pow (n := k)
    have hn0 := Nat.one_le_two_pow (n := n)
    have e3 : 2 ^ (n + k) - 1 = 2 ^ n * (2 ^ k - 1) + (2 ^ n - 1) := by
      rw [Nat.pow_add, Nat.mul_sub, Nat.mul_one]
      have : 2 ^ n * 1 ≤ 2 ^ n * 2 ^ k := Nat.mul_le_mul_left _ hk0
      omega
    have f1 := full_lt n
    rw [e3, Nat.mul_add_mod, Nat.mod_eq_of_lt f1, Nat.mul_add_div (Nat.two_pow_pos n), Nat.div_eq_of_lt f1, Nat.add_zero]
  have e4 : pop (2 ^ n * t + s) = pop s + pop t := by
    rw [pop_two n (by omega) _ (lt256 hnk hlt), em, ed]
  have m1 := hb.rk.mono s _ (full_sub hs)
  have m2 := hb'.rk.mono t _ (full_sub ht)
  have p1 := hb.rk.le s
  have p2 := hb'.rk.le t
  rw [e1, e2, e4, ← dz_two]
  congr 1 <;> omega
end Go.Proofs.YtdabkgbbalooiaaDoor

namespace Go.Proofs.YtdabkgbbalooiaaDoor

def uniL (n k : Nat) : List Nat := (List.range (2 ^ n)).filter fun s => pop s == k
theorem pop_rkOn (n : Nat) : RkOn n pop := ⟨fun s _ => Nat.le_refl _, fun s t _ _ h => pop_sub h, fun s t _ _ => by have := pop_or_and s t; omega⟩
theorem pop_len {n s : Nat} (hn : n ≤ 8) (hs : s < 2 ^ n) : pop s ≤ n := by
  have := pop_cpl hs
  rw [pop_full n hn] at this
  omega
theorem uni_eq {n k : Nat} (hn : n ≤ 8) (hk : k ≤ n) : basR n (cutR pop k) = uniL n k := by
  unfold basR uniL
  refine List.filter_congr fun s hs => ?_
  have h1 := pop_len hn (List.mem_range.1 hs)
  unfold cutR
  rw [pop_full n hn, Bool.eq_iff_iff, Bool.and_eq_true, beq_iff_eq, beq_iff_eq, beq_iff_eq]
  omega
theorem uni_fam (n k : Nat) : Fam n (uniL n k) := Fam.range n _
theorem uni_bas {n k : Nat} (hn : n ≤ 8) (hk : k ≤ n) : Bas (uniL n k) := by
  rw [← uni_eq hn hk]
  exact (cut_rkOn (pop_rkOn n) k).bas hn
theorem uni_rk {n k s : Nat} (hn : n ≤ 8) (hk : k ≤ n) (hs : s < 2 ^ n) : rk (uniL n k) s = min (pop s) k := by
  rw [← uni_eq hn hk]
  exact (cut_rkOn (pop_rkOn n) k).rk_eq hn hs
theorem uni_top {n k : Nat} (hn : n ≤ 8) (hk : k ≤ n) : rk (uniL n k) (2 ^ n - 1) = k := by
  rw [uni_rk hn hk (full_lt n), pop_full n hn]
  omega
theorem uni_dual {n k : Nat} (hn : n ≤ 8) (hk : k ≤ n) : cmp n (uniL n k) = uniL n (n - k) := by
  rw [← basR_cmp hn (uni_fam n k) (uni_bas hn hk), ← uni_eq hn (by omega : n - k ≤ n)]
  refine basR_congr fun s hs => ?_
  unfold dualR
  rw [uni_top hn hk, uni_rk hn hk cpl_lt]
  have := pop_cpl hs
  rw [pop_full n hn] at this
  unfold cutR
  omega
theorem uni_cut {n k j : Nat} (hn : n ≤ 8) (hk : k ≤ n) (hj : j ≤ k) : cutL n (uniL n k) j = uniL n j := by
  rw [← uni_eq hn (by omega : j ≤ n)]
  refine basR_congr fun s hs => ?_
  unfold cutR
  rw [uni_rk hn hk hs]
  omega
theorem uni_free {n k : Nat} (hn : n < 8) (hk : k ≤ n) : feL n (uniL n k) = uniL (n + 1) k := by
  rw [← uni_eq (by omega) (by omega : k ≤ n + 1)]
  refine basR_congr fun s hs => ?_
  unfold freeR cutR
  rw [uni_top (by omega) hk]
  by_cases hb : s.testBit n = true
  · rw [if_pos hb, uni_rk (by omega) hk (rm_ltn hs)]
    have h1 := pop_rm' (lt256 (by omega) hs) hb
    omega
  · rw [if_neg hb, uni_rk (by omega) hk (lt_of_nbit hs (by simpa using hb))]
end Go.Proofs.YtdabkgbbalooiaaDoor

namespace Go.Proofs.YtdabkgbbalooiaaDoor

def lo (t k : Nat) : Nat := t &&& (2 ^ k - 1)
theorem lo_bit (t k j : Nat) : (lo t k).testBit j = (t.testBit j && decide (j < k)) := by unfold lo; rw [and_bit, full_bit]
theorem lo_hit {t k : Nat} (h : t.testBit k = true) : lo t (k + 1) = lo t k ||| 2 ^ k := Nat.eq_of_testBit_eq fun j => by
  rw [lo_bit, or_bit, lo_bit]
  by_cases e : k = j
  · subst e; simp [h]
  · have : decide (j < k + 1) = decide (j < k) := by rw [decide_eq_decide]; omega
    simp [e, this]
theorem lo_miss {t k : Nat} (h : t.testBit k = false) : lo t (k + 1) = lo t k := Nat.eq_of_testBit_eq fun j => by
  rw [lo_bit, lo_bit]
  by_cases e : k = j
  · subst e; simp [h]
  · have : decide (j < k + 1) = decide (j < k) := by rw [decide_eq_decide]; omega
    rw [this]
theorem lo_all {t n : Nat} (h : t < 2 ^ n) : lo t n = t := mask_in h
theorem lo_zero (t : Nat) : lo t 0 = 0 := by unfold lo; simp
theorem lo_ltn {t n : Nat} (h : t < 2 ^ n) (k : Nat) : lo t k < 2 ^ n := Nat.lt_of_le_of_lt Nat.and_le_left h
theorem lo_ad_le {t i k : Nat} (h : k ≤ i) : lo (t ||| 2 ^ i) k = lo t k := Nat.eq_of_testBit_eq fun j => by
  rw [lo_bit, lo_bit, or_bit]
  by_cases e : j < k
  · have : decide (i = j) = false := by simp; omega
    rw [this]; simp
  · simp [e]
theorem lo_ad_gt {t i k : Nat} (h : i < k) : lo (t ||| 2 ^ i) k = lo t k ||| 2 ^ i := Nat.eq_of_testBit_eq fun j => by
  rw [lo_bit, or_bit, or_bit, lo_bit]
  by_cases e : i = j
  · subst e; simp [h]
  · simp [e]
theorem lo_sub (t k : Nat) : subB (lo t k) t = true := subB_iff.2 fun j hj => by rw [lo_bit] at hj; simp at hj; exact hj.1
theorem lo_mono {s t : Nat} (h : subB s t = true) (k : Nat) : subB (lo s k) (lo t k) = true := subB_iff.2 fun j hj => by
  rw [lo_bit] at hj ⊢
  simp only [Bool.and_eq_true] at hj ⊢
  exact ⟨subB_iff.1 h j hj.1, hj.2⟩
theorem lo_le (t : Nat) {j k : Nat} (h : j ≤ k) : subB (lo t j) (lo t k) = true := subB_iff.2 fun i hi => by
  rw [lo_bit] at hi ⊢
  simp only [Bool.and_eq_true, decide_eq_true_eq] at hi ⊢
  exact ⟨hi.1, by omega⟩

/-- i hangs on s. -/
structure Dep (n : Nat) (D : Nat → Nat → Prop) : Prop where
  self : ∀ s i, s < 2 ^ n → i < n → s.testBit i = true → D s i
  mono : ∀ s t i, s < 2 ^ n → t < 2 ^ n → i < n → subB s t = true → D s i → D t i
  trans : ∀ s i j, s < 2 ^ n → i < n → j < n → D s j → D (s ||| 2 ^ j) i → D s i
  exch : ∀ s i j, s < 2 ^ n → i < n → j < n → ¬ D s j → D (s ||| 2 ^ i) j → D (s ||| 2 ^ j) i

section
open Classical
/-- How many of the elements below k hang not on those ahead. -/
noncomputable def depTo (D : Nat → Nat → Prop) (s : Nat) : Nat → Nat
  | 0 => 0
  | k + 1 => depTo D s k + if s.testBit k = true ∧ ¬ D (lo s k) k then 1 else 0
theorem depTo_le (D : Nat → Nat → Prop) (s : Nat) (hs : s < 256) : ∀ k, k ≤ 8 → depTo D s k ≤ pop (lo s k)
  | 0, _ => by unfold depTo; omega
  | k + 1, hk => by
    have ih := depTo_le D s hs k (by omega)
    unfold depTo
    by_cases h : s.testBit k = true
    · rw [lo_hit h, pop_ad _ (lo_ltn (n := 8) hs k) k (by omega) (by rw [lo_bit]; simp)]
      split <;> omega
    · have h' : s.testBit k = false := by simpa using h
      rw [lo_miss h', if_neg (fun c => h c.1)]
      exact ih
theorem depTo_all (D : Nat → Nat → Prop) (s : Nat) (hs : s < 256) : ∀ k, k ≤ 8 → (depTo D s k = pop (lo s k) ↔ ∀ i, i < k → s.testBit i = true → ¬ D (lo s i) i)
  | 0, _ => by unfold depTo; simp [lo_zero]; decide
  | k + 1, hk => by
    have ih := depTo_all D s hs k (by omega)
    have hle := depTo_le D s hs k (by omega)
    unfold depTo
    by_cases h : s.testBit k = true
    · rw [lo_hit h, pop_ad _ (lo_ltn (n := 8) hs k) k (by omega) (by rw [lo_bit]; simp)]
      by_cases hd : D (lo s k) k
      · rw [if_neg (fun c => c.2 hd)]
        exact ⟨fun e => absurd e (by omega), fun e => absurd hd (e k (by omega) h)⟩
      · rw [if_pos ⟨h, hd⟩]
        constructor
        · intro e i hi hb
          by_cases he : i = k
          · subst he; exact hd
          · exact ih.1 (by omega) i (by omega) hb
        · intro e
          have := ih.2 fun i hi hb => e i (by omega) hb
          omega
    · have h' : s.testBit k = false := by simpa using h
      rw [lo_miss h', if_neg (fun c => h c.1), Nat.add_zero, ih]
      constructor
      · intro e i hi hb
        by_cases he : i = k
        · subst he; exact absurd hb h
        · exact e i (by omega) hb
      · intro e i hi hb
        exact e i (by omega) hb
theorem depTo_same {D : Nat → Nat → Prop} {s i : Nat} : ∀ k, k ≤ i → depTo D (s ||| 2 ^ i) k = depTo D s k
  | 0, _ => rfl
  | k + 1, hk => by
    unfold depTo
    rw [depTo_same k (by omega), lo_ad_le (by omega : k ≤ i), or_bit]
    have : decide (i = k) = false := by simp; omega
    rw [this, Bool.or_false]
theorem Dep.stepTo {n : Nat} {D : Nat → Nat → Prop} (h : Dep n D) {s i : Nat} (hs : s < 2 ^ n) (hi : i < n) (hsi : s.testBit i = false) : ∀ k, i < k → k ≤ n → depTo D (s ||| 2 ^ i) k = depTo D s k + if D (lo s k) i then 0 else 1
  | 0, h0, _ => by omega
  | k + 1, hk, hkn => by
    have hlk := lo_ltn hs k
    by_cases e : k = i
    · subst e
      have h1 : depTo D (s ||| 2 ^ k) (k + 1) = depTo D (s ||| 2 ^ k) k + if (s ||| 2 ^ k).testBit k = true ∧ ¬ D (lo (s ||| 2 ^ k) k) k then 1 else 0 := rfl
      have h2 : depTo D s (k + 1) = depTo D s k + if s.testBit k = true ∧ ¬ D (lo s k) k then 1 else 0 := rfl
      rw [h1, h2, depTo_same k (Nat.le_refl _), lo_ad_le (Nat.le_refl k), or_bit, if_neg (show ¬ (s.testBit k = true ∧ ¬ D (lo s k) k) from fun c => by rw [hsi] at c; simp at c), lo_miss hsi]
      by_cases hd : D (lo s k) k
      · rw [if_pos hd, if_neg (fun c => c.2 hd)]
      · rw [if_neg hd, if_pos ⟨by simp, hd⟩]
    · have ih := h.stepTo hs hi hsi k (by omega) (by omega)
      have h1 : depTo D (s ||| 2 ^ i) (k + 1) = depTo D (s ||| 2 ^ i) k + if (s ||| 2 ^ i).testBit k = true ∧ ¬ D (lo (s ||| 2 ^ i) k) k then 1 else 0 := rfl
      have h2 : depTo D s (k + 1) = depTo D s k + if s.testBit k = true ∧ ¬ D (lo s k) k then 1 else 0 := rfl
      have hb : (s ||| 2 ^ i).testBit k = s.testBit k := by rw [or_bit]; have : decide (i = k) = false := by simp; omega
                                                            rw [this, Bool.or_false]
      rw [h1, h2, ih, hb, lo_ad_gt (by omega : i < k)]
      by_cases hk1 : s.testBit k = true
      · rw [lo_hit hk1]
        have hlk' : lo s k ||| 2 ^ k < 2 ^ n := ad_lt hlk (by omega)
        have hli : lo s k ||| 2 ^ i < 2 ^ n := ad_lt hlk hi
        simp only [hk1, true_and]
        by_cases hd : D (lo s k) i
        · have hd2 : D (lo s k ||| 2 ^ k) i := h.mono _ _ _ hlk hlk' hi (sub_or _ _) hd
          have hst : D (lo s k ||| 2 ^ i) k ↔ D (lo s k) k := ⟨fun c => h.trans _ _ _ hlk (by omega) hi hd c, fun c => h.mono _ _ _ hlk hli (by omega) (sub_or _ _) c⟩
          rw [if_pos hd, if_pos hd2]
          by_cases hkd : D (lo s k) k
          · rw [if_neg (fun c => c (hst.2 hkd)), if_neg (fun c => c hkd)]
          · rw [if_pos (fun c => hkd (hst.1 c)), if_pos hkd]
        · rw [if_neg hd]
          by_cases hd2 : D (lo s k ||| 2 ^ k) i
          · have g1 : ¬ D (lo s k) k := fun c => hd (h.trans _ _ _ hlk hi (by omega) c hd2)
            have g2 : D (lo s k ||| 2 ^ i) k := h.exch _ _ _ hlk (by omega) hi hd hd2
            rw [if_pos hd2, if_pos g1, if_neg (fun c => c g2)]
          · have hst : D (lo s k ||| 2 ^ i) k ↔ D (lo s k) k := ⟨fun c => byContradiction fun c2 => hd2 (h.exch _ _ _ hlk hi (by omega) c2 c), fun c => h.mono _ _ _ hlk hli (by omega) (sub_or _ _) c⟩
            rw [if_neg hd2]
            by_cases hkd : D (lo s k) k
            · rw [if_neg (fun c => c (hst.2 hkd)), if_neg (fun c => c hkd)]
            · rw [if_pos (fun c => hkd (hst.1 c)), if_pos hkd]
      · have hk2 : s.testBit k = false := by simpa using hk1
        have g1 : ¬ (s.testBit k = true ∧ ¬ D (lo s k ||| 2 ^ i) k) := fun c => hk1 c.1
        have g2 : ¬ (s.testBit k = true ∧ ¬ D (lo s k) k) := fun c => hk1 c.1
        rw [lo_miss hk2, if_neg g1, if_neg g2]
        omega
/-- The rank that what hangs on sets makes. -/
noncomputable def depR (n : Nat) (D : Nat → Nat → Prop) (s : Nat) : Nat := depTo D s n
theorem Dep.step {n : Nat} {D : Nat → Nat → Prop} (h : Dep n D) {s i : Nat} (hs : s < 2 ^ n) (hi : i < n) : depR n D (s ||| 2 ^ i) = depR n D s + if D s i then 0 else 1 := by
  unfold depR
  by_cases hb : s.testBit i = true
  · rw [ad_in hb, if_pos (h.self s i hs hi hb), Nat.add_zero]
  · have := h.stepTo hs hi (by simpa using hb) n hi (Nat.le_refl _)
    rw [lo_all hs] at this
    exact this
theorem Dep.grow {n : Nat} {D : Nat → Nat → Prop} (h : Dep n D) {a b t : Nat} (ha : a < 2 ^ n) (hb : b < 2 ^ n) (ht : t < 2 ^ n) (hab : subB a b = true) : ∀ k, k ≤ n → depR n D a ≤ depR n D (a ||| lo t k) ∧ depR n D (b ||| lo t k) + depR n D a ≤ depR n D (a ||| lo t k) + depR n D b
  | 0, _ => by rw [lo_zero, Nat.or_zero, Nat.or_zero]; omega
  | k + 1, hk => by
    have ih := h.grow ha hb ht hab k (by omega)
    have l1 : a ||| lo t k < 2 ^ n := Nat.or_lt_two_pow ha (lo_ltn ht k)
    have l2 : b ||| lo t k < 2 ^ n := Nat.or_lt_two_pow hb (lo_ltn ht k)
    by_cases hbt : t.testBit k = true
    · rw [lo_hit hbt, ← Nat.or_assoc, ← Nat.or_assoc, h.step l1 (by omega), h.step l2 (by omega)]
      have hm : D (a ||| lo t k) k → D (b ||| lo t k) k := h.mono _ _ _ l1 l2 (by omega) (subB_iff.2 fun j hj => by
        rw [Nat.testBit_or] at hj ⊢
        have := subB_iff.1 hab j
        cases h1 : a.testBit j <;> simp_all)
      by_cases c1 : D (a ||| lo t k) k
      · rw [if_pos c1, if_pos (hm c1)]; omega
      · rw [if_neg c1]; split <;> omega
    · rw [lo_miss (by simpa using hbt)]
      exact ih
theorem Dep.rkOn {n : Nat} (hn : n ≤ 8) {D : Nat → Nat → Prop} (h : Dep n D) : RkOn n (depR n D) where
  le := fun s hs => by
    have := depTo_le D s (lt256 hn hs) n hn
    rw [lo_all hs] at this
    exact this
  mono := fun s t hs ht hst => by
    have := (h.grow hs hs ht (subB_iff.2 fun _ hj => hj) n (Nat.le_refl _)).1
    rwa [lo_all ht, or_eq_of_sub hst] at this
  sub := fun s t hs ht => by
    have hst : s &&& t < 2 ^ n := and_ltn hs
    have := (h.grow hst hs ht (subB_iff.2 fun j hj => by rw [and_bit] at hj; simp at hj; exact hj.1) n (Nat.le_refl _)).2
    rw [lo_all ht, or_eq_of_sub (show subB (s &&& t) t = true from subB_iff.2 fun j hj => by rw [and_bit] at hj; simp at hj; exact hj.2)] at this
    omega
theorem Dep.ind {n : Nat} (hn : n ≤ 8) {D : Nat → Nat → Prop} {s : Nat} (hs : s < 2 ^ n) : depR n D s = pop s ↔ ∀ i, i < n → s.testBit i = true → ¬ D (lo s i) i := by
  have := depTo_all D s (lt256 hn hs) n hn
  rw [lo_all hs] at this
  exact this
end
end Go.Proofs.YtdabkgbbalooiaaDoor

namespace Go.Proofs.YtdabkgbbalooiaaDoor

def isP (p : Int) : Prop := p = 2 ∨ p = 3 ∨ p = 5 ∨ p = 7
/-- The same modulo p, at the first six places. -/
def Cg (p : Int) (v w : Nat → Int) : Prop := ∀ r, r < 6 → (v r - w r) % p = 0
theorem Cg.refl (p : Int) (v : Nat → Int) : Cg p v v := fun r _ => by simp
theorem emod_neg {p a : Int} (h : a % p = 0) : (-a) % p = 0 := Int.emod_eq_zero_of_dvd (Int.dvd_neg.2 (Int.dvd_of_emod_eq_zero h))
theorem emod_add {p a b : Int} (h : a % p = 0) (k : b % p = 0) : (a + b) % p = 0 := Int.emod_eq_zero_of_dvd (Int.dvd_add (Int.dvd_of_emod_eq_zero h) (Int.dvd_of_emod_eq_zero k))
theorem emod_mul {p a : Int} (h : a % p = 0) (k : Int) : (k * a) % p = 0 := Int.emod_eq_zero_of_dvd (Int.dvd_mul_of_dvd_right (Int.dvd_of_emod_eq_zero h))
theorem Cg.symm {p : Int} {v w : Nat → Int} (h : Cg p v w) : Cg p w v := fun r hr => by
  have := emod_neg (h r hr)
  rwa [Int.neg_sub] at this
theorem Cg.trans {p : Int} {v w x : Nat → Int} (h : Cg p v w) (k : Cg p w x) : Cg p v x := fun r hr => by
  have := emod_add (h r hr) (k r hr)
  rwa [show v r - w r + (w r - x r) = v r - x r by omega] at this
theorem Cg.lin {p : Int} {v w x y : Nat → Int} (h : Cg p v w) (k : Cg p x y) (m : Int) : Cg p (fun r => v r + m * x r) (fun r => w r + m * y r) := fun r hr => by
  have := emod_add (h r hr) (emod_mul (k r hr) m)
  rwa [show v r - w r + m * (x r - y r) = v r + m * x r - (w r + m * y r) by rw [Int.mul_sub]; omega] at this
/-- Modulo a prime all but 0 has something that makes it 1. -/
theorem unit_of {p c : Int} (hp : isP p) (h : c % p ≠ 0) : ∃ e : Int, (e * c - 1) % p = 0 := by
  rcases hp with rfl | rfl | rfl | rfl
  · exact ⟨1, by omega⟩
  · rcases (by omega : c % 3 = 1 ∨ c % 3 = 2) with g | g
    · exact ⟨1, by omega⟩
    · exact ⟨2, by omega⟩
  · rcases (by omega : c % 5 = 1 ∨ c % 5 = 2 ∨ c % 5 = 3 ∨ c % 5 = 4) with g | g | g | g
    · exact ⟨1, by omega⟩
    · exact ⟨3, by omega⟩
    · exact ⟨2, by omega⟩
    · exact ⟨4, by omega⟩
  · rcases (by omega : c % 7 = 1 ∨ c % 7 = 2 ∨ c % 7 = 3 ∨ c % 7 = 4 ∨ c % 7 = 5 ∨ c % 7 = 6) with g | g | g | g | g | g
    · exact ⟨1, by omega⟩
    · exact ⟨4, by omega⟩
    · exact ⟨5, by omega⟩
    · exact ⟨2, by omega⟩
    · exact ⟨3, by omega⟩
    · exact ⟨6, by omega⟩
/-- The sums of multiples of vectors of S. -/
inductive Span (p : Int) (S : (Nat → Int) → Prop) : (Nat → Int) → Prop
  | zero : Span p S fun _ => 0
  | add {v x : Nat → Int} (k : Int) (h : Span p S v) (hx : S x) : Span p S fun r => v r + k * x r
  | cg {v w : Nat → Int} (hc : Cg p v w) (h : Span p S v) : Span p S w
variable {p : Int} {S T : (Nat → Int) → Prop}
theorem Span.of {x : Nat → Int} (h : S x) : Span p S x := .cg (fun r _ => by simp) (Span.add 1 .zero h)
theorem Span.lin {v w : Nat → Int} (hv : Span p S v) (hw : Span p S w) (k : Int) : Span p S fun r => v r + k * w r := by
  induction hw with
  | zero => exact .cg (fun r _ => by simp) hv
  | add m _ hx ih =>
    refine .cg (fun r _ => ?_) (Span.add (k * m) ih hx)
    rw [Int.mul_add, Int.mul_assoc, Int.add_assoc]
    simp
  | cg hc _ ih => exact .cg ((Cg.refl p v).lin hc k) ih
theorem Span.smul {w : Nat → Int} (hw : Span p S w) (k : Int) : Span p S fun r => k * w r := .cg (fun r _ => by simp) (Span.zero.lin hw k)
theorem Span.sub {v : Nat → Int} (h : Span p S v) (hST : ∀ x, S x → Span p T x) : Span p T v := by
  induction h with
  | zero => exact .zero
  | add k _ hx ih => exact ih.lin (hST _ hx) k
  | cg hc _ ih => exact .cg hc ih
theorem Span.mono {v : Nat → Int} (h : Span p S v) (hST : ∀ x, S x → T x) : Span p T v := h.sub fun x hx => .of (hST x hx)
theorem Span.one {v y : Nat → Int} (h : Span p (fun x => S x ∨ x = y) v) : ∃ k : Int, Span p S fun r => v r + k * y r := by
  induction h with
  | zero => exact ⟨0, .cg (fun r _ => by simp) .zero⟩
  | @add v x k _ hx ih =>
    obtain ⟨m, hm⟩ := ih
    rcases hx with hx | rfl
    · refine ⟨m, .cg (fun r _ => ?_) (Span.add k hm hx)⟩
      rw [show v r + m * y r + k * x r - (v r + k * x r + m * y r) = 0 by omega]
      simp
    · refine ⟨m - k, .cg (fun r _ => ?_) hm⟩
      rw [show v r + m * x r - (v r + k * x r + (m - k) * x r) = 0 by rw [Int.sub_mul]; omega]
      simp
  | cg hc _ ih =>
    obtain ⟨m, hm⟩ := ih
    exact ⟨m, .cg (hc.lin (Cg.refl p y) m) hm⟩
/-- Of what a multiple that can be turned back is a sum, it is one itself. -/
theorem Span.unit (hp : isP p) {w : Nat → Int} {c : Int} (hc : c % p ≠ 0) (h : Span p S fun r => c * w r) : Span p S w := by
  obtain ⟨e, he⟩ := unit_of hp hc
  refine .cg (fun r _ => ?_) (h.smul e)
  have := emod_mul he (w r)
  rwa [show w r * (e * c - 1) = e * (c * w r) - w r by rw [Int.mul_sub, Int.mul_one, Int.mul_comm, Int.mul_assoc]] at this
theorem Span.exch (hp : isP p) {v y : Nat → Int} (h : Span p (fun x => S x ∨ x = y) v) (hn : ¬ Span p S v) : Span p (fun x => S x ∨ x = v) y := by
  obtain ⟨k, hk⟩ := h.one
  have hk0 : k % p ≠ 0 := fun e => hn (.cg (fun r _ => by
    have := emod_mul e (y r)
    rwa [show y r * k = v r + k * y r - v r by rw [Int.mul_comm]; omega] at this) hk)
  refine Span.unit hp hk0 (.cg (fun r _ => ?_) ((hk.mono fun _ h => .inl h).lin (Span.of (S := fun x => S x ∨ x = v) (.inr rfl)) (-1)))
  rw [show v r + k * y r + -1 * v r - k * y r = 0 by omega]
  simp

/-- Column i hangs on those of s. -/
def depC (p : Int) (col : Nat → Nat → Int) (s i : Nat) : Prop := Span p (fun x => ∃ j, s.testBit j = true ∧ x = col j) (col i)
theorem depC_dep (hp : isP p) (col : Nat → Nat → Int) (n : Nat) : Dep n (depC p col) where
  self := fun s i _ _ h => .of ⟨i, h, rfl⟩
  mono := fun s t i _ _ _ hst h => h.mono fun x ⟨j, hj, e⟩ => ⟨j, subB_iff.1 hst j hj, e⟩
  trans := fun s i j _ _ _ h1 h2 => h2.sub fun x ⟨k, hk, e⟩ => by
    rw [or_bit] at hk
    by_cases hs : s.testBit k = true
    · exact .of ⟨k, hs, e⟩
    · have e2 : j = k := by simpa [Bool.eq_false_iff.2 hs] using hk
      subst e2
      rw [e]
      exact h1
  exch := fun s i j _ _ _ h1 h2 => by
    have h3 : Span p (fun x => (∃ k, s.testBit k = true ∧ x = col k) ∨ x = col i) (col j) := h2.mono fun x ⟨k, hk, e⟩ => by
      rw [or_bit] at hk
      by_cases hs : s.testBit k = true
      · exact .inl ⟨k, hs, e⟩
      · have e2 : i = k := by simpa [Bool.eq_false_iff.2 hs] using hk
        subst e2
        exact .inr e
    exact (h3.exch hp h1).mono fun x hx => by
      rcases hx with ⟨k, hk, e⟩ | e
      · exact ⟨k, by rw [or_bit, hk]; rfl, e⟩
      · exact ⟨j, by rw [or_bit]; simp, e⟩
end Go.Proofs.YtdabkgbbalooiaaDoor

namespace Go.Proofs.YtdabkgbbalooiaaDoor

/-- A sum of S that is nought at all places of A is nought. -/
def Piv (p : Int) (S : (Nat → Int) → Prop) (A : List Nat) : Prop := ∀ v, Span p S v → (∀ a ∈ A, v a % p = 0) → Cg p v fun _ => 0
theorem Piv.nil {p : Int} {S : (Nat → Int) → Prop} (hS : ∀ x, ¬ S x) : Piv p S [] := fun v h _ => by
  induction h with
  | zero => exact Cg.refl _ _
  | add k _ hx ih => exact absurd hx (hS _)
  | cg hc _ ih => exact hc.symm.trans (ih fun a ha => by cases ha)
theorem mul_unit {p a b : Int} (hp : isP p) (h : (a * b) % p = 0) (hb : b % p ≠ 0) : a % p = 0 := by
  obtain ⟨e, he⟩ := unit_of hp hb
  have h1 := emod_mul h e
  have h2 := emod_mul he a
  have h3 := emod_add h1 (emod_neg h2)
  rwa [show e * (a * b) + -(a * (e * b - 1)) = a by rw [Int.mul_sub, Int.mul_one, Int.mul_left_comm]; omega] at h3
/-- y stands for x: but for sums of S it is a multiple of x that can be turned back, and it is nought at A. -/
structure Stands (p : Int) (S : (Nat → Int) → Prop) (A : List Nat) (x y : Nat → Int) : Prop where
  ex : ∃ u : Int, u % p ≠ 0 ∧ Span p S fun r => y r + -u * x r
  at_ : ∀ a ∈ A, y a % p = 0
theorem Piv.snoc {p : Int} (hp : isP p) {S : (Nat → Int) → Prop} {A : List Nat} {x y : Nat → Int} (h : Piv p S A) (hs : Stands p S A x y) {b : Nat} (hb6 : b < 6) (hb : y b % p ≠ 0) : Piv p (fun z => S z ∨ z = x) (A ++ [b]) := fun v hv h0 => by
  obtain ⟨⟨u, hu, hy⟩, hya⟩ := hs
  obtain ⟨k, hk⟩ := hv.one
  obtain ⟨e, he⟩ := unit_of hp hu
  -- v + (k e) y is a sum of S
  have h1 : Span p S fun r => v r + (k * e) * y r := by
    refine .cg (fun r _ => ?_) (hk.lin hy (k * e))
    have h2 := emod_mul he (-(k * x r))
    rwa [show -(k * x r) * (e * u - 1) = v r + k * x r + k * e * (y r + -u * x r) - (v r + k * e * y r) by
      rw [Int.mul_sub, Int.mul_one, Int.mul_add, Int.neg_mul, Int.neg_mul, Int.mul_neg]
      rw [show k * x r * (e * u) = k * e * (u * x r) by rw [Int.mul_assoc, Int.mul_assoc, Int.mul_left_comm (x r), Int.mul_comm (x r)]]
      omega] at h2
  have h2 := h _ h1 fun a ha => by
    have e1 := h0 a (List.mem_append_left _ ha)
    have e2 := emod_mul (hya a ha) (k * e)
    exact emod_add e1 e2
  have hm : (k * e) % p = 0 := by
    refine mul_unit hp (b := y b) ?_ hb
    have e1 := h2 b hb6
    have e2 := h0 b (List.mem_append_right _ (List.mem_singleton.2 rfl))
    have e3 := emod_add e1 (emod_neg e2)
    rwa [show v b + k * e * y b - 0 + -v b = k * e * y b by omega] at e3
  intro r hr
  have e1 := h2 r hr
  have e2 := emod_mul hm (y r)
  have e3 := emod_add e1 (emod_neg e2)
  rwa [show v r + k * e * y r - 0 + -(y r * (k * e)) = v r - 0 by rw [Int.mul_comm (y r)]; omega] at e3
theorem Piv.test {p : Int} (hp : isP p) {S : (Nat → Int) → Prop} {A : List Nat} {x y : Nat → Int} (h : Piv p S A) (hs : Stands p S A x y) : Span p S x ↔ Cg p y fun _ => 0 := by
  obtain ⟨⟨u, hu, hy⟩, hya⟩ := hs
  constructor
  · intro hx
    refine h _ ?_ hya
    refine .cg (fun r _ => ?_) (hy.lin hx u)
    rw [show y r + -u * x r + u * x r - y r = 0 by rw [Int.neg_mul]; omega]
    simp
  · intro hc
    refine Span.unit hp hu (.cg (fun r hr => ?_) (hy.smul (-1)))
    have e1 := emod_neg (hc r hr)
    rwa [show -(y r - 0) = -1 * (y r + -u * x r) - u * x r by rw [Int.neg_mul u]; omega] at e1
/-- The first place that is not nought. -/
def leadN (v : Nat → Int) : Nat := ((List.range 6).find? fun r => v r != 0).getD 6
theorem leadN_none {v : Nat → Int} (h : leadN v = 6) : ∀ r, r < 6 → v r = 0 := fun r hr => by
  unfold leadN at h
  cases e : (List.range 6).find? fun r => v r != 0 with
  | none =>
    have := List.find?_eq_none.1 e r (List.mem_range.2 hr)
    simpa using this
  | some x =>
    rw [e, Option.getD_some] at h
    have := List.mem_range.1 (List.mem_of_find?_eq_some e)
    omega
theorem leadN_some {v : Nat → Int} (h : leadN v ≠ 6) : leadN v < 6 ∧ v (leadN v) ≠ 0 := by
  unfold leadN at h ⊢
  cases e : (List.range 6).find? fun r => v r != 0 with
  | none => rw [e] at h; exact absurd rfl h
  | some x =>
    rw [Option.getD_some]
    refine ⟨List.mem_range.1 (List.mem_of_find?_eq_some e), ?_⟩
    have := List.find?_some e
    simpa using this
/-- c, with nought where by is not. -/
def clrF (p : Int) (c by_ : Nat → Int) (at_ : Nat) (r : Nat) : Int := (c r * by_ at_ + by_ r * (p - c at_)) % p
/-- The columns as they stand when i have been used. -/
def elimV (p : Int) (o : Nat → Nat → Int) : Nat → Nat → Nat → Int
  | 0, k => o k
  | i + 1, k => if i < k then clrF p (elimV p o i k) (elimV p o i i) (leadN (elimV p o i i)) else elimV p o i k
theorem isP.pos {p : Int} (h : isP p) : 0 < p ∧ p ≤ 7 := by
  unfold isP at h
  omega
theorem elimV_in {p : Int} (hp : isP p) {o : Nat → Nat → Int} (ho : ∀ k r, 0 ≤ o k r ∧ o k r < p) : ∀ i k r, 0 ≤ elimV p o i k r ∧ elimV p o i k r < p
  | 0, k, r => ho k r
  | i + 1, k, r => by
    unfold elimV
    split
    · unfold clrF
      have := hp.pos
      exact ⟨Int.emod_nonneg _ (by omega), Int.emod_lt_of_pos _ this.1⟩
    · exact elimV_in hp ho i k r
theorem small_mod {p a : Int} (h0 : 0 ≤ a) (h1 : a < p) : a % p = 0 ↔ a = 0 := by
  rw [Int.emod_eq_of_lt h0 h1]
/-- The sets of those ahead. -/
def Fore (o : Nat → Nat → Int) (i : Nat) (x : Nat → Int) : Prop := ∃ j, j < i ∧ x = o j
theorem fore_succ (o : Nat → Nat → Int) (i : Nat) : Fore o (i + 1) = fun x => Fore o i x ∨ x = o i := by
  funext x
  unfold Fore
  refine propext ⟨?_, ?_⟩
  · rintro ⟨j, h1, h2⟩
    by_cases e : j = i
    · subst e; exact .inr h2
    · exact .inl ⟨j, by omega, h2⟩
  · rintro (⟨j, h1, h2⟩ | h)
    · exact ⟨j, by omega, h2⟩
    · exact ⟨i, by omega, h⟩
def pivA (p : Int) (o : Nat → Nat → Int) (i : Nat) : List Nat := (List.range i).map fun j => leadN (elimV p o j j)
theorem pivA_succ (p : Int) (o : Nat → Nat → Int) (i : Nat) : pivA p o (i + 1) = pivA p o i ++ [leadN (elimV p o i i)] := by
  unfold pivA
  rw [List.range_succ, List.map_append]
  rfl
theorem elim_inv {p : Int} (hp : isP p) {o : Nat → Nat → Int} (ho : ∀ k r, 0 ≤ o k r ∧ o k r < p) : ∀ i, (∀ j, j < i → leadN (elimV p o j j) ≠ 6) → (Piv p (Fore o i) (pivA p o i) ∧ (∀ a ∈ pivA p o i, a < 6)) ∧ ∀ k, i ≤ k → Stands p (Fore o i) (pivA p o i) (o k) (elimV p o i k) := by
  intro i
  induction i with
  | zero =>
    intro _
    refine ⟨⟨Piv.nil (fun x ⟨j, h, _⟩ => absurd h (Nat.not_lt_zero j)), fun a ha => by cases ha⟩, fun k _ => ⟨⟨1, ?_, ?_⟩, fun a ha => by cases ha⟩⟩
    · rcases hp with rfl | rfl | rfl | rfl <;> decide
    · refine .cg (fun r _ => ?_) .zero
      show (0 - (o k r + -1 * o k r)) % p = 0
      rw [show 0 - (o k r + -1 * o k r) = 0 by omega]
      simp
  | succ i ih =>
    intro hl
    obtain ⟨⟨i1, i2⟩, i3⟩ := ih fun j hj => hl j (by omega)
    have hli := leadN_some (hl i (by omega))
    have hin := elimV_in hp ho i i
    have hst := i3 i (Nat.le_refl _)
    have hne : elimV p o i i (leadN (elimV p o i i)) % p ≠ 0 := fun h => hli.2 ((small_mod (hin _).1 (hin _).2).1 h)
    rw [fore_succ, pivA_succ]
    refine ⟨⟨i1.snoc hp hst hli.1 hne, fun a ha => ?_⟩, fun k hk => ?_⟩
    · rcases List.mem_append.1 ha with ha | ha
      · exact i2 a ha
      · rw [List.mem_singleton.1 ha]; exact hli.1
    · obtain ⟨⟨u, hu, hy⟩, hya⟩ := i3 k (by omega)
      obtain ⟨⟨u', hu', hy'⟩, hya'⟩ := hst
      have e : elimV p o (i + 1) k = clrF p (elimV p o i k) (elimV p o i i) (leadN (elimV p o i i)) := by
        show (if i < k then _ else _) = _
        rw [if_pos (by omega)]
      rw [e]
      generalize elimV p o i k = yk at *
      generalize hb : leadN (elimV p o i i) = b at *
      generalize elimV p o i i = yi at *
      refine ⟨⟨u * yi b, ?_, ?_⟩, fun a ha => ?_⟩
      · intro h
        rw [Int.mul_comm] at h
        exact hne (mul_unit hp h hu)
      · -- clr = yk * yi b + yi * (p - yk b), modulo p
        have s1 : Span p (fun z => Fore o i z ∨ z = o i) fun r => yk r + -u * o k r := hy.mono fun _ h => .inl h
        have s2 : Span p (fun z => Fore o i z ∨ z = o i) yi := by
          refine .cg (fun r _ => ?_) ((hy'.mono fun _ h => .inl h).lin (Span.of (S := fun z => Fore o i z ∨ z = o i) (.inr rfl)) u')
          rw [show yi r + -u' * o i r + u' * o i r - yi r = 0 by rw [Int.neg_mul]; omega]
          simp
        refine .cg (fun r _ => ?_) ((s1.smul (yi b)).lin s2 (p - yk b))
        unfold clrF
        have h1 : (yk r * yi b + yi r * (p - yk b) - (yk r * yi b + yi r * (p - yk b)) % p) % p = 0 := by
          rw [Int.sub_emod, Int.emod_emod_of_dvd _ (Int.dvd_refl p), Int.sub_self]
          simp
        rwa [show yk r * yi b + yi r * (p - yk b) - (yk r * yi b + yi r * (p - yk b)) % p = yi b * (yk r + -u * o k r) + (p - yk b) * yi r - ((yk r * yi b + yi r * (p - yk b)) % p + -(u * yi b) * o k r) by
          rw [Int.mul_add, Int.neg_mul, Int.neg_mul, Int.mul_neg, Int.mul_comm (yi b) (yk r), Int.mul_comm (p - yk b) (yi r), show yi b * (u * o k r) = u * yi b * o k r by rw [Int.mul_left_comm, Int.mul_assoc]]
          omega] at h1
      · unfold clrF
        rw [Int.emod_emod_of_dvd _ (Int.dvd_refl p)]
        rcases List.mem_append.1 ha with ha | ha
        · have e1 := emod_mul (hya a ha) (yi b)
          have e2 := emod_mul (hya' a ha) (p - yk b)
          have e3 := emod_add e1 e2
          rwa [Int.mul_comm (yi b), Int.mul_comm (p - yk b)] at e3
        · rw [List.mem_singleton.1 ha, show yk b * yi b + yi b * (p - yk b) = yi b * p by rw [Int.mul_sub, Int.mul_comm (yk b)]; omega]
          exact Int.mul_emod_left _ _
/-- No column is cleared to nought just if none hangs on those ahead. -/
theorem elim_free {p : Int} (hp : isP p) {o : Nat → Nat → Int} (ho : ∀ k r, 0 ≤ o k r ∧ o k r < p) (n : Nat) : (∀ i, i < n → leadN (elimV p o i i) ≠ 6) ↔ ∀ i, i < n → ¬ Span p (Fore o i) (o i) := by
  induction n with
  | zero => exact ⟨fun _ i h => absurd h (Nat.not_lt_zero i), fun _ i h => absurd h (Nat.not_lt_zero i)⟩
  | succ n ih =>
    have key : (∀ i, i < n → leadN (elimV p o i i) ≠ 6) → (leadN (elimV p o n n) ≠ 6 ↔ ¬ Span p (Fore o n) (o n)) := fun h => by
      obtain ⟨⟨i1, i2⟩, i3⟩ := elim_inv hp ho n h
      rw [i1.test hp (i3 n (Nat.le_refl _))]
      have hin := elimV_in hp ho n n
      constructor
      · intro h1 h2
        have h3 := leadN_some h1
        have h4 := h2 _ h3.1
        rw [Int.sub_zero] at h4
        exact h3.2 ((small_mod (hin _).1 (hin _).2).1 h4)
      · intro h1 h2
        exact h1 fun r hr => by rw [leadN_none h2 r hr]; simp
    constructor
    · intro h i hi
      have h1 := ih.1 fun i hi => h i (by omega)
      by_cases e : i = n
      · subst e
        exact (key fun i hi => h i (by omega)).1 (h i hi)
      · exact h1 i (by omega)
    · intro h i hi
      have h1 := ih.2 fun i hi => h i (by omega)
      by_cases e : i = n
      · subst e
        exact (key h1).2 (h i hi)
      · exact h1 i (by omega)
end Go.Proofs.YtdabkgbbalooiaaDoor

namespace Go.Proofs.YtdabkgbbalooiaaDoor

/-- The sum of the first n. -/
def sm : Nat → (Nat → Int) → Int
  | 0, _ => 0
  | n + 1, t => sm n t + t n
theorem sm_congr {s t : Nat → Int} : ∀ {n : Nat}, (∀ i, i < n → s i = t i) → sm n s = sm n t
  | 0, _ => rfl
  | n + 1, h => by
    show sm n s + s n = sm n t + t n
    rw [sm_congr (n := n) fun i hi => h i (by omega), h n (by omega)]
theorem sm_add (s t : Nat → Int) : ∀ n, sm n (fun i => s i + t i) = sm n s + sm n t
  | 0 => rfl
  | n + 1 => by
    show sm n _ + (s n + t n) = sm n s + s n + (sm n t + t n)
    rw [sm_add s t n]; omega
theorem sm_mul (k : Int) (t : Nat → Int) : ∀ n, sm n (fun i => k * t i) = k * sm n t
  | 0 => by show (0 : Int) = k * 0; simp
  | n + 1 => by
    show sm n _ + k * t n = k * (sm n t + t n)
    rw [sm_mul k t n, Int.mul_add]
theorem sm_zero : ∀ n, sm n (fun _ => 0) = 0
  | 0 => rfl
  | n + 1 => by show sm n _ + 0 = 0; rw [sm_zero n]; rfl
theorem sm_swap (t : Nat → Nat → Int) (m : Nat) : ∀ n, sm n (fun i => sm m (t i)) = sm m fun j => sm n fun i => t i j
  | 0 => by show (0 : Int) = sm m fun _ => 0; rw [sm_zero]
  | n + 1 => by
    show sm n _ + sm m (t n) = sm m fun j => (sm n fun i => t i j) + t n j
    rw [sm_swap t m n, ← sm_add]
theorem sm_put (t : Nat → Int) (a : Int) {i : Nat} : ∀ {n : Nat}, i < n → sm n (fun j => if j = i then a else t j) = sm n t + a - t i
  | 0, h => by omega
  | n + 1, h => by
    show sm n _ + (if n = i then a else t n) = sm n t + t n + a - t i
    by_cases e : n = i
    · subst e
      rw [if_pos rfl, sm_congr (t := t) fun j hj => by rw [if_neg (by omega)]]; omega
    · rw [if_neg e, sm_put t a (n := n) (by omega)]; omega
theorem sm_one (a : Int) {i n : Nat} (h : i < n) : sm n (fun j => if j = i then a else 0) = a := by
  rw [sm_put (fun _ => 0) a h, sm_zero]; omega
/-- The same modulo p. -/
def Em (p a b : Int) : Prop := p ∣ a - b
variable {p : Int}
theorem Em.refl (a : Int) : Em p a a := by unfold Em; rw [Int.sub_self]; exact Int.dvd_zero p
theorem Em.of {a b : Int} (h : a = b) : Em p a b := h ▸ Em.refl a
theorem Em.symm {a b : Int} (h : Em p a b) : Em p b a := by
  have := Int.dvd_neg.2 h
  rwa [Int.neg_sub] at this
theorem Em.trans {a b c : Int} (h : Em p a b) (k : Em p b c) : Em p a c := by
  have := Int.dvd_add h k
  unfold Em
  rwa [show a - b + (b - c) = a - c by omega] at this
theorem Em.add {a b c d : Int} (h : Em p a b) (k : Em p c d) : Em p (a + c) (b + d) := by
  have := Int.dvd_add h k
  unfold Em
  rwa [show a - b + (c - d) = a + c - (b + d) by omega] at this
theorem Em.neg {a b : Int} (h : Em p a b) : Em p (-a) (-b) := by
  have := Int.dvd_neg.2 h
  unfold Em
  rwa [show -(a - b) = -a - -b by omega] at this
theorem Em.sub {a b c d : Int} (h : Em p a b) (k : Em p c d) : Em p (a - c) (b - d) := by
  have := h.add k.neg
  rwa [← Int.sub_eq_add_neg, ← Int.sub_eq_add_neg] at this
theorem Em.mul {a b c d : Int} (h : Em p a b) (k : Em p c d) : Em p (a * c) (b * d) := by
  have := Int.dvd_add (Int.dvd_mul_of_dvd_right (a := p) (b := c) (c := a - b) h |> fun x => by rwa [Int.mul_comm] at x) (Int.dvd_mul_of_dvd_right (a := p) (b := b) (c := c - d) k)
  unfold Em
  rwa [show (a - b) * c + b * (c - d) = a * c - b * d by rw [Int.sub_mul, Int.mul_sub]; omega] at this
theorem Em.sm {s t : Nat → Int} : ∀ {n : Nat}, (∀ i, i < n → Em p (s i) (t i)) → Em p (sm n s) (sm n t)
  | 0, _ => Em.refl _
  | n + 1, h => (Em.sm (n := n) fun i hi => h i (by omega)).add (h n (by omega))
theorem Em.mod (a : Int) : Em p (a % p) a := by
  have := Int.mul_ediv_add_emod a p
  exact ⟨-(a / p), by rw [Int.mul_neg]; omega⟩
theorem Em.zero {a : Int} : Em p a 0 ↔ a % p = 0 := by
  unfold Em
  rw [Int.sub_zero]
  exact ⟨Int.emod_eq_zero_of_dvd, Int.dvd_of_emod_eq_zero⟩
theorem Em.eq {a b : Int} (h : Em p a b) (ha : 0 ≤ a ∧ a < p) (hb : 0 ≤ b ∧ b < p) : a = b := by
  have h1 := Int.emod_emod_of_dvd a (Int.dvd_refl p)
  have h2 : (a - b) % p = 0 := Int.emod_eq_zero_of_dvd h
  have h3 := Int.emod_eq_emod_iff_emod_sub_eq_zero.2 h2
  rwa [Int.emod_eq_of_lt ha.1 ha.2, Int.emod_eq_of_lt hb.1 hb.2] at h3
theorem Em.inv (hp : isP p) {c : Int} (h : ¬ Em p c 0) : ∃ e : Int, Em p (e * c) 1 := by
  obtain ⟨e, he⟩ := unit_of hp (fun k => h (Em.zero.2 k))
  exact ⟨e, Int.dvd_of_emod_eq_zero he⟩
theorem Em.mul0 {a b : Int} (h : Em p a 0) : Em p (a * b) 0 := by
  have := h.mul (Em.refl (p := p) b)
  rwa [Int.zero_mul] at this
theorem Em.mul0' {a b : Int} (h : Em p b 0) : Em p (a * b) 0 := by
  have := (Em.refl (p := p) a).mul h
  rwa [Int.mul_zero] at this
theorem Em.sm0 {s : Nat → Int} {n : Nat} (h : ∀ i, i < n → Em p (s i) 0) : Em p (Proofs.YtdabkgbbalooiaaDoor.sm n s) 0 := by
  have := Em.sm (t := fun _ => 0) h
  rwa [sm_zero] at this
/-- More unknowns than equations. -/
theorem hom_sol (hp : isP p) : ∀ (n k : Nat) (A : Nat → Nat → Int), n < k → ∃ x : Nat → Int, (∃ i, i < k ∧ ¬ Em p (x i) 0) ∧ ∀ j, j < n → Em p (sm k fun i => A j i * x i) 0
  | 0, k, A, h => ⟨fun _ => 1, ⟨0, h, fun e => by
      have := Em.zero.1 e
      rcases hp with rfl | rfl | rfl | rfl <;> exact absurd this (by decide)⟩, fun j hj => by omega⟩
  | n + 1, 0, A, h => by omega
  | n + 1, k + 1, A, h => by
    by_cases h0 : ∀ i, i < k + 1 → Em p (A n i) 0
    · obtain ⟨x, h1, h2⟩ := hom_sol hp n (k + 1) A (by omega)
      refine ⟨x, h1, fun j hj => ?_⟩
      by_cases e : j = n
      · subst e
        exact Em.sm0 fun i hi => (h0 i hi).mul0
      · exact h2 j (by omega)
    · obtain ⟨i0, h1⟩ := Classical.not_forall.1 h0
      obtain ⟨hi0, h2⟩ := Classical.not_imp.1 h1
      obtain ⟨e, he⟩ := Em.inv hp h2
      -- the unknown i0 changes places with the last one
      let s := fun i => if i = i0 then k else i
      obtain ⟨x, ⟨i1, hi1, h3⟩, h4⟩ := hom_sol hp n k (fun j i => A j (s i) - A j i0 * e * A n (s i)) (by omega)
      let t := fun _ : Nat => -(e * sm k fun i => A n (s i) * x i)
      let y := fun i => if i = i0 then t 0 else if i = k then x i0 else x i
      have hs : ∀ i, i < k → y (s i) = x i := fun i hi => by
        show (if (if i = i0 then k else i) = i0 then t 0 else if (if i = i0 then k else i) = k then x i0 else x (if i = i0 then k else i)) = x i
        by_cases e1 : i = i0
        · subst e1
          rw [if_pos rfl, if_neg (by omega), if_pos rfl]
        · rw [if_neg e1, if_neg e1, if_neg (by omega)]
      have hy0 : y i0 = t 0 := if_pos rfl
      have hsum : ∀ B : Nat → Int, sm (k + 1) (fun i => B i * y i) = sm k (fun i => B (s i) * x i) + B i0 * t 0 := fun B => by
        by_cases e1 : i0 = k
        · show sm k (fun i => B i * y i) + B k * y k = _
          rw [← e1, hy0, sm_congr fun i hi => ?_]
          have e2 : s i = i := if_neg (by omega)
          have := hs i (by omega)
          rw [e2] at this
          rw [e2, this]
        · have e2 : sm k (fun i => B (s i) * x i) = sm k (fun i => if i = i0 then B k * y k else B i * y i) := sm_congr fun i hi => by
            have := hs i hi
            by_cases e3 : i = i0
            · have e4 : s i = k := if_pos e3
              rw [e4] at this
              rw [e4, if_pos e3, this]
            · have e4 : s i = i := if_neg e3
              rw [e4] at this
              rw [e4, if_neg e3, this]
          rw [e2, sm_put _ _ (by omega), hy0]
          show sm k (fun i => B i * y i) + B k * y k = _
          omega
      refine ⟨y, ⟨s i1, ?_, by rw [hs i1 hi1]; exact h3⟩, fun j hj => ?_⟩
      · show (if i1 = i0 then k else i1) < k + 1
        split <;> omega
      · rw [hsum]
        by_cases e1 : j = n
        · subst e1
          have h5 : Em p (A j i0 * t 0) (-(sm k fun i => A j (s i) * x i)) := by
            show Em p (A j i0 * -(e * _)) _
            rw [Int.mul_neg, ← Int.mul_assoc, Int.mul_comm (A j i0)]
            have := (he.mul (Em.refl (p := p) (sm k fun i => A j (s i) * x i))).neg
            rwa [Int.one_mul] at this
          have := (Em.refl (p := p) (sm k fun i => A j (s i) * x i)).add h5
          rwa [← Int.sub_eq_add_neg, Int.sub_self] at this
        · have h5 := h4 j (by omega)
          rw [sm_congr (t := fun i => A j (s i) * x i + -(A j i0 * e) * (A n (s i) * x i)) fun i _ => by
            rw [Int.sub_mul, Int.neg_mul, Int.mul_assoc (A j i0 * e)]; omega] at h5
          rw [sm_add, sm_mul] at h5
          have e2 : A j i0 * t 0 = -(A j i0 * e) * sm k fun i => A n (s i) * x i := by
            show A j i0 * -(e * _) = _
            rw [Int.mul_neg, Int.neg_mul, Int.mul_assoc]
          rw [e2]
          exact h5
/-- v is, at the first m places, a sum of multiples of the first n of g. -/
def InS (p : Int) (m n : Nat) (g : Nat → Nat → Int) (v : Nat → Int) : Prop := ∃ c : Nat → Int, ∀ r, r < m → Em p (v r) (sm n fun j => c j * g j r)
variable {m n k : Nat} {f g h : Nat → Nat → Int} {v w : Nat → Int}
theorem InS.of {i : Nat} (hi : i < n) : InS p m n g (g i) := ⟨fun j => if j = i then 1 else 0, fun r _ => Em.of (by
  rw [sm_congr (t := fun j => if j = i then g i r else 0) fun j _ => by
    by_cases e : j = i
    · subst e; simp
    · simp [e]]
  exact (sm_one _ hi).symm)⟩
theorem InS.zero : InS p m n g fun _ => 0 := ⟨fun _ => 0, fun r _ => Em.of (by simp only [Int.zero_mul]; exact (sm_zero n).symm)⟩
theorem InS.lin (hv : InS p m n g v) (hw : InS p m n g w) (k : Int) : InS p m n g fun r => v r + k * w r := by
  obtain ⟨c, hc⟩ := hv
  obtain ⟨d, hd⟩ := hw
  refine ⟨fun j => c j + k * d j, fun r hr => ?_⟩
  have := (hc r hr).add ((Em.refl (p := p) k).mul (hd r hr))
  rw [← sm_mul, ← sm_add] at this
  refine this.trans (Em.of (sm_congr fun j _ => ?_))
  rw [Int.add_mul, Int.mul_assoc]
theorem InS.cg (hv : InS p m n g v) (hc : ∀ r, r < m → Em p (w r) (v r)) : InS p m n g w := by
  obtain ⟨c, h⟩ := hv
  exact ⟨c, fun r hr => (hc r hr).trans (h r hr)⟩
theorem InS.sum {f : Nat → Nat → Int} (c : Nat → Int) : ∀ {k : Nat}, (∀ i, i < k → InS p m n g (f i)) → InS p m n g fun r => sm k fun i => c i * f i r
  | 0, _ => InS.zero
  | k + 1, h => (InS.sum c (k := k) fun i hi => h i (by omega)).lin (h k (by omega)) (c k)
theorem InS.trans (hv : InS p m k f v) (h : ∀ i, i < k → InS p m n g (f i)) : InS p m n g v := by
  obtain ⟨c, hc⟩ := hv
  exact (InS.sum c h).cg hc
/-- No sum of multiples of these is nought, but that of noughts. -/
def FreeM (p : Int) (m k : Nat) (f : Nat → Nat → Int) : Prop := ∀ x : Nat → Int, (∀ r, r < m → Em p (sm k fun i => x i * f i r) 0) → ∀ i, i < k → Em p (x i) 0
theorem free_le (hp : isP p) (hf : FreeM p m k f) (hg : ∀ i, i < k → InS p m n g (f i)) : k ≤ n := by
  apply Classical.byContradiction
  intro hn
  have hc : ∀ i, ∃ c : Nat → Int, i < k → ∀ r, r < m → Em p (f i r) (sm n fun j => c j * g j r) := fun i => by
    by_cases hi : i < k
    · obtain ⟨c, h⟩ := hg i hi
      exact ⟨c, fun _ => h⟩
    · exact ⟨fun _ => 0, fun h => absurd h hi⟩
  obtain ⟨C, hC⟩ := Classical.axiomOfChoice hc
  obtain ⟨x, ⟨i, hi, h1⟩, h2⟩ := hom_sol hp n k (fun j i => C i j) (by omega)
  refine h1 (hf x (fun r hr => ?_) i hi)
  have h3 : Em p (sm k fun i => x i * f i r) (sm k fun i => sm n fun j => x i * (C i j * g j r)) := Em.sm fun i hi => by
    have := (Em.refl (p := p) (x i)).mul (hC i hi r hr)
    rwa [← sm_mul] at this
  refine h3.trans ?_
  rw [sm_swap]
  refine Em.sm0 fun j hj => ?_
  have := (h2 j hj).mul0 (b := g j r)
  rw [Int.mul_comm, ← sm_mul] at this
  rwa [sm_congr fun i _ => show g j r * (C i j * x i) = x i * (C i j * g j r) by rw [Int.mul_comm, Int.mul_comm (C i j), Int.mul_assoc]] at this
/-- Reduced rows: row i begins, with 1, at place b i, where all others are nought. -/
structure Rref (p : Int) (m k : Nat) (f : Nat → Nat → Int) (b : Nat → Nat) : Prop where
  lt : ∀ i, i < k → b i < m
  mono : ∀ i j, i < j → j < k → b i < b j
  one : ∀ i, i < k → f i (b i) = 1
  oth : ∀ i, i < k → ∀ j, j < k → j ≠ i → f j (b i) = 0
  fst : ∀ i, i < k → ∀ r, r < b i → f i r = 0
  rng : ∀ i, i < k → ∀ r, r < m → 0 ≤ f i r ∧ f i r < p
variable {b : Nat → Nat}
theorem Rref.at_ (h : Rref p m k f b) (c : Nat → Int) {i : Nat} (hi : i < k) : (sm k fun j => c j * f j (b i)) = c i := by
  rw [sm_congr (t := fun j => if j = i then c i else 0) fun j hj => ?_]
  · exact sm_one _ hi
  · by_cases e : j = i
    · subst e
      rw [if_pos rfl, h.one j hj, Int.mul_one]
    · rw [if_neg e, h.oth i hi j hj e, Int.mul_zero]
theorem Rref.coef (h : Rref p m k f b) (hv : InS p m k f v) : ∀ r, r < m → Em p (v r) (sm k fun i => v (b i) * f i r) := by
  obtain ⟨c, hc⟩ := hv
  intro r hr
  refine (hc r hr).trans (Em.sm fun i hi => Em.mul ?_ (Em.refl _))
  have := hc (b i) (h.lt i hi)
  rw [h.at_ c hi] at this
  exact this.symm
theorem Rref.free (h : Rref p m k f b) : FreeM p m k f := fun x hx i hi => by
  have := hx (b i) (h.lt i hi)
  rwa [h.at_ x hi] at this
/-- Where a sum of reduced rows begins, one of them begins. -/
theorem Rref.begin (h : Rref p m k f b) (hv : InS p m k f v) {a : Nat} (ha : a < m) (h0 : ∀ r, r < a → Em p (v r) 0) (h1 : ¬ Em p (v a) 0) : ∃ i, i < k ∧ b i = a := by
  apply Classical.byContradiction
  intro hn
  refine h1 ((h.coef hv a ha).trans (Em.sm0 fun i hi => ?_))
  have hne : b i ≠ a := fun e => hn ⟨i, hi, e⟩
  by_cases hl : b i < a
  · exact (h0 _ hl).mul0
  · rw [h.fst i hi a (by omega)]
    exact Em.mul0' (Em.refl _)
theorem one_ne (hp : isP p) : ¬ Em p 1 0 := fun e => by
  have := Em.zero.1 e
  rcases hp with rfl | rfl | rfl | rfl <;> exact absurd this (by decide)
theorem Rref.begins (hp : isP p) (h : Rref p m k f b) {k' : Nat} {f' : Nat → Nat → Int} {b' : Nat → Nat} (h' : Rref p m k' f' b') (hs : ∀ i, i < k' → InS p m k f (f' i)) (i : Nat) (hi : i < k') : ∃ j, j < k ∧ b j = b' i :=
  h.begin (hs i hi) (h'.lt i hi) (fun r hr => Em.of (h'.fst i hi r hr)) (by rw [h'.one i hi]; exact one_ne hp)
/-- There are no other reduced rows with the same sums. -/
theorem Rref.uniq (hp : isP p) (h : Rref p m k f b) {k' : Nat} {f' : Nat → Nat → Int} {b' : Nat → Nat} (h' : Rref p m k' f' b') (hs : ∀ i, i < k' → InS p m k f (f' i)) (hs' : ∀ i, i < k → InS p m k' f' (f i)) : k = k' ∧ (∀ i, i < k → b i = b' i) ∧ ∀ i, i < k → ∀ r, r < m → f i r = f' i r := by
  have hk : k = k' := Nat.le_antisymm (free_le hp h.free hs') (free_le hp h'.free hs)
  subst hk
  have hb : ∀ i, i < k → b i = b' i := by
    intro i
    induction i using Nat.strongRecOn with
    | ind i ih =>
      intro hi
      obtain ⟨j, hj, e⟩ := h.begins hp h' hs i hi
      obtain ⟨j', hj', e'⟩ := h'.begins hp h hs' i hi
      have h1 : i ≤ j := by
        apply Classical.byContradiction
        intro hn
        have := ih j (by omega) hj
        have := h'.mono j i (by omega) hi
        omega
      have h2 : i ≤ j' := by
        apply Classical.byContradiction
        intro hn
        have := ih j' (by omega) hj'
        have := h.mono j' i (by omega) hi
        omega
      have h3 : b i ≤ b j := by
        rcases Nat.lt_or_ge i j with hl | hl
        · exact Nat.le_of_lt (h.mono i j hl hj)
        · have : i = j := by omega
          subst this; exact Nat.le_refl _
      have h4 : b' i ≤ b' j' := by
        rcases Nat.lt_or_ge i j' with hl | hl
        · exact Nat.le_of_lt (h'.mono i j' hl hj')
        · have : i = j' := by omega
          subst this; exact Nat.le_refl _
      omega
  refine ⟨rfl, hb, fun i hi r hr => Em.eq (p := p) ?_ (h.rng i hi r hr) (h'.rng i hi r hr)⟩
  refine (h'.coef (hs' i hi) r hr).trans (Em.of ?_)
  rw [sm_congr (t := fun j => if j = i then f' i r else 0) fun j hj => ?_]
  · exact sm_one _ hi
  · rw [← hb j hj]
    by_cases e : j = i
    · subst e
      rw [if_pos rfl, h.one j hj, Int.one_mul]
    · rw [if_neg e, h.oth j hj i hi (fun e2 => e e2.symm), Int.zero_mul]
end Go.Proofs.YtdabkgbbalooiaaDoor

namespace Go.Proofs.YtdabkgbbalooiaaDoor

/-- The least number by which v comes to 1. -/
def invN (p v : Int) : Nat := ((List.range 8).find? fun w : Nat => (w != 0) && (v * (w : Int)) % p == 1).getD 1
theorem invN_spec {p v : Int} (hp : isP p) (h0 : 0 < v) (h1 : v < p) : 1 ≤ invN p v ∧ invN p v < 7 ∧ (v * (invN p v : Nat)) % p = 1 ∧ ∀ w : Nat, w < invN p v → 1 ≤ w → (v * (w : Int)) % p ≠ 1 := by
  rcases hp with rfl | rfl | rfl | rfl
  · have : v = 1 := by omega
    subst this; decide
  · have : v = 1 ∨ v = 2 := by omega
    rcases this with rfl | rfl <;> decide
  · have : v = 1 ∨ v = 2 ∨ v = 3 ∨ v = 4 := by omega
    rcases this with rfl | rfl | rfl | rfl <;> decide
  · have : v = 1 ∨ v = 2 ∨ v = 3 ∨ v = 4 ∨ v = 5 ∨ v = 6 := by omega
    rcases this with rfl | rfl | rfl | rfl | rfl | rfl <;> decide
theorem isP_pos {p : Int} (hp : isP p) : 2 ≤ p ∧ p ≤ 7 := by rcases hp with rfl | rfl | rfl | rfl <;> decide
/-- Row by, times what makes it 1 at a place. -/
def onesM (p : Int) (by_ at_ : Nat) (f : Nat → Nat → Int) (r : Nat) : Int := (f by_ r * (invN p (f by_ at_) : Nat)) % p
/-- All rows, when that column is cleared. -/
def clrM (p : Int) (by_ at_ : Nat) (f : Nat → Nat → Int) (i r : Nat) : Int := if i = by_ then onesM p by_ at_ f r else (f i r + (p - f i at_) * onesM p by_ at_ f r) % p
theorem onesM_in {p : Int} (hp : isP p) (by_ at_ : Nat) (f : Nat → Nat → Int) (r : Nat) : 0 ≤ onesM p by_ at_ f r ∧ onesM p by_ at_ f r < p := by
  have := isP_pos hp
  exact ⟨Int.emod_nonneg _ (by omega), Int.emod_lt_of_pos _ (by omega)⟩
theorem clrM_in {p : Int} (hp : isP p) (by_ at_ : Nat) (f : Nat → Nat → Int) (i r : Nat) : 0 ≤ clrM p by_ at_ f i r ∧ clrM p by_ at_ f i r < p := by
  have := isP_pos hp
  unfold clrM
  split
  · exact onesM_in hp _ _ _ _
  · exact ⟨Int.emod_nonneg _ (by omega), Int.emod_lt_of_pos _ (by omega)⟩
/-- Two rows change places. -/
def swpM (i j : Nat) (f : Nat → Nat → Int) (k : Nat) : Nat → Int := if k = i then f j else if k = j then f i else f k
/-- The first row from d on that is not nought in column a. -/
def nxtM (f : Nat → Nat → Int) (a d N : Nat) : Option Nat := (List.range (N - d)).find? fun i => f (d + i) a != 0
def gauS (p : Int) (N a : Nat) (s : Nat × (Nat → Nat → Int)) : Nat × (Nat → Nat → Int) :=
  match nxtM s.2 a s.1 N with
  | none => s
  | some i => (s.1 + 1, clrM p s.1 a (swpM s.1 (s.1 + i) s.2))
/-- The rows when a columns are done. -/
def gau (p : Int) (N : Nat) (f : Nat → Nat → Int) : Nat → Nat × (Nat → Nat → Int)
  | 0 => (0, f)
  | a + 1 => gauS p N a (gau p N f a)
variable {p : Int} {m N : Nat} {f0 : Nat → Nat → Int}
structure Gs (p : Int) (m N : Nat) (f0 : Nat → Nat → Int) (a d : Nat) (f : Nat → Nat → Int) (b : Nat → Nat) : Prop where
  dn : d ≤ N
  lt : ∀ i, i < d → b i < a
  mono : ∀ i j, i < j → j < d → b i < b j
  one : ∀ i, i < d → f i (b i) = 1
  oth : ∀ i, i < d → ∀ j, j < N → j ≠ i → f j (b i) = 0
  fst : ∀ i, i < d → ∀ r, r < b i → f i r = 0
  low : ∀ i, d ≤ i → i < N → ∀ r, r < a → f i r = 0
  rng : ∀ i, i < N → ∀ r, r < m → 0 ≤ f i r ∧ f i r < p
  to : ∀ i, i < N → InS p m N f0 (f i)
  fro : ∀ i, i < N → InS p m N f (f0 i)
theorem zero_mod {p : Int} (hp : isP p) : (0 : Int) % p = 0 := by rcases hp with rfl | rfl | rfl | rfl <;> decide
theorem swp_in {d i : Nat} (hd : d < N) (hi : i < N) {f : Nat → Nat → Int} : (∀ k, k < N → InS p m N f (swpM d i f k)) ∧ ∀ k, k < N → InS p m N (swpM d i f) (f k) := by
  constructor
  · intro k hk
    unfold swpM
    split
    · exact InS.of hi
    · split
      · exact InS.of hd
      · exact InS.of hk
  · intro k hk
    by_cases e : k = i
    · subst e
      have := InS.of (p := p) (m := m) (g := swpM d k f) hd
      rwa [show swpM d k f d = f k from if_pos rfl] at this
    · by_cases e2 : k = d
      · subst e2
        have := InS.of (p := p) (m := m) (g := swpM k i f) hi
        rwa [show swpM k i f i = f k from (by unfold swpM; rw [if_neg (fun h => e h.symm), if_pos rfl])] at this
      · have := InS.of (p := p) (m := m) (g := swpM d i f) hk
        rwa [show swpM d i f k = f k from (by unfold swpM; rw [if_neg e2, if_neg e])] at this
theorem clr_in (hp : isP p) {d a : Nat} (hd : d < N) (_ha : a < m) {f : Nat → Nat → Int} (h0 : 0 < f d a) (h1 : f d a < p) : (∀ k, k < N → InS p m N f (clrM p d a f k)) ∧ ∀ k, k < N → InS p m N (clrM p d a f) (f k) := by
  obtain ⟨-, -, h3, -⟩ := invN_spec hp h0 h1
  obtain ⟨t, ht⟩ : ∃ t : Int, (invN p (f d a) : Int) = t := ⟨_, rfl⟩
  have hones : ∀ r, Em p (onesM p d a f r) (t * f d r) := fun r => by
    unfold onesM
    rw [ht, Int.mul_comm t]
    exact Em.mod _
  rw [ht] at h3
  have hu : Em p (f d a * t) 1 := by
    have := (Em.mod (p := p) (f d a * t)).symm
    rw [h3] at this
    exact this
  have ho : InS p m N f (onesM p d a f) := ((InS.zero).lin (InS.of hd) t).cg fun r _ => (hones r).trans (Em.of (by simp))
  constructor
  · intro k hk
    by_cases e : k = d
    · subst e
      exact ho.cg fun r _ => Em.of (by show clrM p k a f k r = _; unfold clrM; rw [if_pos rfl])
    · refine ((InS.of hk).lin ho (p - f k a)).cg fun r _ => ?_
      show Em p (clrM p d a f k r) _
      unfold clrM
      rw [if_neg e]
      exact Em.mod _
  · have hD : InS p m N (clrM p d a f) (onesM p d a f) := (InS.of hd).cg fun r _ => Em.of (by unfold clrM; rw [if_pos rfl])
    intro k hk
    by_cases e : k = d
    · subst e
      refine ((InS.zero).lin hD (f k a)).cg fun r _ => ?_
      have h5 := (hu.mul (Em.refl (p := p) (f k r))).symm
      rw [Int.one_mul] at h5
      refine h5.trans ?_
      have h6 := ((Em.refl (p := p) (f k a)).mul (hones r)).symm
      rw [← Int.mul_assoc] at h6
      exact h6.trans (Em.of (by simp))
    · refine ((InS.of hk).lin hD (-(p - f k a))).cg fun r _ => ?_
      show Em p (f k r) (clrM p d a f k r + -(p - f k a) * onesM p d a f r)
      have h5 : Em p (clrM p d a f k r) (f k r + (p - f k a) * onesM p d a f r) := by
        unfold clrM
        rw [if_neg e]
        exact Em.mod _
      have h6 := (h5.add (Em.refl (-(p - f k a) * onesM p d a f r))).symm
      refine (Em.of ?_).trans h6
      rw [Int.neg_mul]; omega
theorem Gs.skip {a d : Nat} {f : Nat → Nat → Int} {b : Nat → Nat} (h : Gs p m N f0 a d f b) (h0 : ∀ i, d ≤ i → i < N → f i a = 0) : Gs p m N f0 (a + 1) d f b :=
  ⟨h.dn, fun i hi => by have := h.lt i hi; omega, h.mono, h.one, h.oth, h.fst, fun i h1 h2 r hr => by
    by_cases e : r = a
    · subst e; exact h0 i h1 h2
    · exact h.low i h1 h2 r (by omega), h.rng, h.to, h.fro⟩
theorem Gs.step (hp : isP p) {a d i : Nat} {f : Nat → Nat → Int} {b : Nat → Nat} (h : Gs p m N f0 a d f b) (ha : a < m) (h1 : d ≤ i) (h2 : i < N) (h0 : f i a ≠ 0) : Gs p m N f0 (a + 1) (d + 1) (clrM p d a (swpM d i f)) (fun k => if k = d then a else b k) := by
  have hd : d < N := by omega
  have hfi := h.rng i h2 a ha
  have hsd : swpM d i f d = f i := if_pos rfl
  obtain ⟨s1, s2⟩ := swp_in (p := p) (m := m) hd h2 (f := f)
  obtain ⟨c1, c2⟩ := clr_in (m := m) hp hd ha (f := swpM d i f) (by rw [hsd]; omega) (by rw [hsd]; exact hfi.2)
  obtain ⟨-, -, h3, -⟩ := invN_spec hp (show 0 < f i a by omega) hfi.2
  -- row d, made 1 at a
  have hO : ∀ r, onesM p d a (swpM d i f) r = (f i r * (invN p (f i a) : Nat)) % p := fun r => by unfold onesM; rw [hsd]
  have hO1 : onesM p d a (swpM d i f) a = 1 := by rw [hO]; exact h3
  have hO0 : ∀ r, r < a → onesM p d a (swpM d i f) r = 0 := fun r hr => by rw [hO, h.low i h1 h2 r hr, Int.zero_mul]; exact zero_mod hp
  have hsw : ∀ k, k < N → k ≠ d → ∃ k', k' < N ∧ swpM d i f k = f k' ∧ (k < d → k' = k) ∧ (d < k → d ≤ k') := fun k hk hkd => by
    unfold swpM
    rw [if_neg hkd]
    by_cases e : k = i
    · rw [if_pos e]
      exact ⟨d, hd, rfl, fun h => by omega, fun _ => Nat.le_refl _⟩
    · rw [if_neg e]
      exact ⟨k, hk, rfl, fun _ => rfl, fun h => by omega⟩
  have hsr : ∀ k, k < N → ∀ r, r < m → 0 ≤ swpM d i f k r ∧ swpM d i f k r < p := fun k hk r hr => by
    by_cases e : k = d
    · subst e; rw [hsd]; exact h.rng i h2 r hr
    · obtain ⟨k', hk', e2, -⟩ := hsw k hk e
      rw [e2]; exact h.rng k' hk' r hr
  have hC : ∀ k r, k ≠ d → onesM p d a (swpM d i f) r = 0 → 0 ≤ swpM d i f k r → swpM d i f k r < p → clrM p d a (swpM d i f) k r = swpM d i f k r := fun k r hk e h5 h6 => by
    unfold clrM
    rw [if_neg hk, e, Int.mul_zero, Int.add_zero]
    exact Int.emod_eq_of_lt h5 h6
  have hCd : ∀ r, clrM p d a (swpM d i f) d r = onesM p d a (swpM d i f) r := fun r => by unfold clrM; rw [if_pos rfl]
  have hCa : ∀ k, k < N → k ≠ d → clrM p d a (swpM d i f) k a = 0 := fun k hk hkd => by
    unfold clrM
    rw [if_neg hkd, hO1, Int.mul_one]
    rw [show swpM d i f k a + (p - swpM d i f k a) = p by omega]
    exact Int.emod_self
  refine ⟨by omega, fun k hk => ?_, fun k j hkj hj => ?_, fun k hk => ?_, fun k hk j hj hjk => ?_, fun k hk r hr => ?_, fun k hk1 hk2 r hr => ?_, fun k _ r _ => clrM_in hp _ _ _ _ _, fun k hk => (c1 k hk).trans fun j hj => (s1 j hj).trans h.to, fun k hk => (h.fro k hk).trans fun j hj => (s2 j hj).trans c2⟩
  · show (if k = d then a else b k) < a + 1
    split
    · omega
    · have := h.lt k (by omega); omega
  · show (if k = d then a else b k) < (if j = d then a else b j)
    rw [if_neg (by omega : ¬ k = d)]
    split
    · exact h.lt k (by omega)
    · exact h.mono k j hkj (by omega)
  · show clrM p d a (swpM d i f) k (if k = d then a else b k) = 1
    by_cases e : k = d
    · subst e
      rw [if_pos rfl, hCd, hO1]
    · rw [if_neg e]
      have hk2 : k < d := by omega
      have hlt := h.lt k hk2
      obtain ⟨k', hk', e2, e3, -⟩ := hsw k (by omega) e
      have e4 := e3 hk2
      subst e4
      rw [hC k' _ e (hO0 _ hlt) (by rw [e2, h.one k' hk2]; omega) (by rw [e2, h.one k' hk2]; have := isP_pos hp; omega), e2, h.one k' hk2]
  · show clrM p d a (swpM d i f) j (if k = d then a else b k) = 0
    by_cases e : k = d
    · rw [if_pos e]
      exact hCa j hj (by omega)
    · rw [if_neg e]
      have hk2 : k < d := by omega
      have hlt := h.lt k hk2
      by_cases e5 : j = d
      · subst e5
        rw [hCd, hO0 _ hlt]
      · obtain ⟨j', hj', e2, e3, e4⟩ := hsw j hj e5
        have hne : j' ≠ k := by
          intro e6
          rcases Nat.lt_or_ge j d with hl | hl
          · have := e3 hl; omega
          · have := e4 (by omega); omega
        have hz : swpM d i f j (b k) = 0 := by rw [e2]; exact h.oth k hk2 j' hj' hne
        rw [hC j _ e5 (hO0 _ hlt) (by rw [hz]; omega) (by rw [hz]; have := isP_pos hp; omega), hz]
  · have hr' : r < (if k = d then a else b k) := hr
    show clrM p d a (swpM d i f) k r = 0
    by_cases e : k = d
    · subst e
      rw [if_pos rfl] at hr'
      rw [hCd, hO0 _ hr']
    · rw [if_neg e] at hr'
      have hk2 : k < d := by omega
      have hlt := h.lt k hk2
      obtain ⟨k', hk', e2, e3, -⟩ := hsw k (by omega) e
      have e4 := e3 hk2
      subst e4
      have hz : swpM d i f k' r = 0 := by rw [e2]; exact h.fst k' hk2 r hr'
      rw [hC k' _ e (hO0 _ (by omega)) (by rw [hz]; omega) (by rw [hz]; have := isP_pos hp; omega), hz]
  · have hkd : k ≠ d := by omega
    by_cases e : r = a
    · subst e; exact hCa k hk2 hkd
    · obtain ⟨k', hk', e2, -, e4⟩ := hsw k hk2 hkd
      have hz : swpM d i f k r = 0 := by rw [e2]; exact h.low k' (e4 (by omega)) hk' r (by omega)
      rw [hC k _ hkd (hO0 _ (by omega)) (by rw [hz]; omega) (by rw [hz]; have := isP_pos hp; omega), hz]
theorem nxt_none {f : Nat → Nat → Int} {a d : Nat} (h : nxtM f a d N = none) : ∀ i, d ≤ i → i < N → f i a = 0 := fun i h1 h2 => by
  have := List.find?_eq_none.1 h (i - d) (List.mem_range.2 (by omega))
  rw [show d + (i - d) = i by omega] at this
  simpa using this
theorem nxt_some {f : Nat → Nat → Int} {a d i : Nat} (h : nxtM f a d N = some i) : d + i < N ∧ f (d + i) a ≠ 0 := by
  have h1 := List.mem_range.1 (List.mem_of_find?_eq_some h)
  have h2 := List.find?_some h
  exact ⟨by omega, by simpa using h2⟩
theorem gau_gs (hp : isP p) (h0 : ∀ i, i < N → ∀ r, r < m → 0 ≤ f0 i r ∧ f0 i r < p) : ∀ a, a ≤ m → ∃ b, Gs p m N f0 a (gau p N f0 a).1 (gau p N f0 a).2 b
  | 0, _ => ⟨fun _ => 0, Nat.zero_le _, fun i hi => absurd hi (Nat.not_lt_zero _), fun i j _ hj => absurd hj (Nat.not_lt_zero _), fun i hi => absurd hi (Nat.not_lt_zero _), fun i hi => absurd hi (Nat.not_lt_zero _), fun i hi => absurd hi (Nat.not_lt_zero _), fun i _ _ r hr => absurd hr (Nat.not_lt_zero _), h0, fun i hi => InS.of hi, fun i hi => InS.of hi⟩
  | a + 1, ha => by
    obtain ⟨b, h⟩ := gau_gs hp h0 a (by omega)
    show ∃ b, Gs p m N f0 (a + 1) (gauS p N a (gau p N f0 a)).1 (gauS p N a (gau p N f0 a)).2 b
    unfold gauS
    split
    · rename_i e
      exact ⟨b, h.skip (nxt_none e)⟩
    · rename_i i e
      obtain ⟨h1, h2⟩ := nxt_some e
      exact ⟨_, h.step hp (by omega) (by omega) h1 h2⟩
/-- What is reduced: how many rows, and they. -/
def redN (p : Int) (m N : Nat) (f : Nat → Nat → Int) : Nat := (gau p N f m).1
def redF (p : Int) (m N : Nat) (f : Nat → Nat → Int) : Nat → Nat → Int := (gau p N f m).2
theorem red_ok (hp : isP p) (h0 : ∀ i, i < N → ∀ r, r < m → 0 ≤ f0 i r ∧ f0 i r < p) : redN p m N f0 ≤ N ∧ ∃ b, Rref p m (redN p m N f0) (redF p m N f0) b ∧ (∀ i, i < redN p m N f0 → InS p m N f0 (redF p m N f0 i)) ∧ ∀ i, i < N → InS p m (redN p m N f0) (redF p m N f0) (f0 i) := by
  obtain ⟨b, h⟩ := gau_gs hp h0 m (Nat.le_refl _)
  unfold redN redF
  generalize gau p N f0 m = s at *
  refine ⟨h.dn, b, ⟨h.lt, h.mono, h.one, fun i hi j hj => h.oth i hi j (by have := h.dn; omega), h.fst, fun i hi => h.rng i (by have := h.dn; omega)⟩, fun i hi => h.to i (by have := h.dn; omega), fun i hi => (h.fro i hi).trans fun j hj => ?_⟩
  by_cases e : j < s.1
  · exact InS.of e
  · exact InS.zero.cg fun r hr => Em.of (h.low j (by omega) hj r hr)
/-- What is reduced is known by its sums. -/
theorem red_uniq (hp : isP p) {N' : Nat} {g : Nat → Nat → Int} (h0 : ∀ i, i < N → ∀ r, r < m → 0 ≤ f0 i r ∧ f0 i r < p) (h1 : ∀ i, i < N' → ∀ r, r < m → 0 ≤ g i r ∧ g i r < p) (hs : ∀ i, i < N → InS p m N' g (f0 i)) (hs' : ∀ i, i < N' → InS p m N f0 (g i)) : redN p m N f0 = redN p m N' g ∧ ∀ i, i < redN p m N f0 → ∀ r, r < m → redF p m N f0 i r = redF p m N' g i r := by
  obtain ⟨-, b, r1, r2, r3⟩ := red_ok hp h0
  obtain ⟨-, b', q1, q2, q3⟩ := red_ok hp h1
  obtain ⟨e1, -, e2⟩ := r1.uniq hp q1 (fun i hi => ((q2 i hi).trans hs').trans r3) (fun i hi => ((r2 i hi).trans hs).trans q3)
  exact ⟨e1, e2⟩
end Go.Proofs.YtdabkgbbalooiaaDoor

namespace Go.Proofs.YtdabkgbbalooiaaDoor

variable {p : Int} {m n k N : Nat} {f g f0 : Nat → Nat → Int} {v w : Nat → Int} {b : Nat → Nat}
theorem red_twice (hp : isP p) (h0 : ∀ i, i < N → ∀ r, r < m → 0 ≤ f0 i r ∧ f0 i r < p) : redN p m (redN p m N f0) (redF p m N f0) = redN p m N f0 ∧ ∀ i, i < redN p m (redN p m N f0) (redF p m N f0) → ∀ r, r < m → redF p m (redN p m N f0) (redF p m N f0) i r = redF p m N f0 i r := by
  obtain ⟨-, b, r1, -, -⟩ := red_ok hp h0
  obtain ⟨-, b', q1, q2, q3⟩ := red_ok hp r1.rng
  obtain ⟨e1, -, e2⟩ := q1.uniq hp r1 q3 q2
  exact ⟨e1, e2⟩
theorem red_le (hp : isP p) (h0 : ∀ i, i < N → ∀ r, r < m → 0 ≤ f0 i r ∧ f0 i r < p) (hs : ∀ i, i < N → InS p m k g (f0 i)) : redN p m N f0 ≤ k := by
  obtain ⟨-, b, r1, r2, r3⟩ := red_ok hp h0
  exact free_le hp r1.free fun i hi => (r2 i hi).trans hs
/-- No product has a greater rank. -/
theorem red_mul (hp : isP p) {c c2 : Nat} {X Y P : Nat → Nat → Int} (hx : ∀ i, i < N → ∀ r, r < c → 0 ≤ X i r ∧ X i r < p) (hy : ∀ i, i < c → ∀ r, r < c2 → 0 ≤ Y i r ∧ Y i r < p) (h0 : ∀ i, i < N → ∀ r, r < c2 → 0 ≤ P i r ∧ P i r < p) (hP : ∀ i, i < N → ∀ r, r < c2 → Em p (P i r) (sm c fun j => X i j * Y j r)) : redN p c2 N P ≤ redN p c N X ∧ redN p c2 N P ≤ redN p c2 c Y := by
  obtain ⟨-, b, r1, r2, r3⟩ := red_ok hp hx
  obtain ⟨-, b', q1, q2, q3⟩ := red_ok hp hy
  constructor
  · refine red_le hp h0 (g := fun t r => sm c fun j => redF p c N X t j * Y j r) fun i hi => ?_
    obtain ⟨C, hC⟩ := r3 i hi
    refine ⟨C, fun r hr => (hP i hi r hr).trans ?_⟩
    have h1 : Em p (sm c fun j => X i j * Y j r) (sm c fun j => sm (redN p c N X) fun t => C t * (redF p c N X t j * Y j r)) := Em.sm fun j hj => by
      have := (hC j hj).mul (Em.refl (p := p) (Y j r))
      rw [Int.mul_comm (sm _ _), ← sm_mul] at this
      exact this.trans (Em.of (sm_congr fun t _ => by rw [Int.mul_comm, Int.mul_assoc]))
    refine h1.trans (Em.of ?_)
    rw [sm_swap]
    exact sm_congr fun t _ => sm_mul _ _ _
  · refine red_le hp h0 fun i hi => InS.trans (k := c) (f := Y) ⟨X i, fun r hr => hP i hi r hr⟩ q3
/-- As many free ones, within sums of no more, make all of these. -/
theorem span_eq (hp : isP p) (hf : FreeM p m k f) (hg : ∀ i, i < k → InS p m k g (f i)) {j : Nat} (hj : j < k) : InS p m k f (g j) := by
  have hc : ∀ i, ∃ c : Nat → Int, i < k → ∀ r, r < m → Em p (f i r) (sm k fun j => c j * g j r) := fun i => by
    by_cases hi : i < k
    · obtain ⟨c, h⟩ := hg i hi
      exact ⟨c, fun _ => h⟩
    · exact ⟨fun _ => 0, fun h => absurd h hi⟩
  obtain ⟨C, hC⟩ := Classical.axiomOfChoice hc
  obtain ⟨x, ⟨i, hi, h1⟩, h2⟩ := hom_sol hp k (k + 1) (fun t i => if i = k then (if t = j then 1 else 0) else C i t) (by omega)
  have h3 : ∀ r, r < m → Em p ((sm k fun i => x i * f i r) + x k * g j r) 0 := fun r hr => by
    have e1 : Em p (sm k fun i => x i * f i r) (sm k fun i => sm k fun t => x i * (C i t * g t r)) := Em.sm fun i hi => by
      have := (Em.refl (p := p) (x i)).mul (hC i hi r hr)
      rwa [← sm_mul] at this
    have e2 : x k * g j r = sm k fun t => (if t = j then 1 else 0) * x k * g t r := by
      rw [sm_congr (t := fun t => if t = j then x k * g j r else 0) fun t _ => ?_]
      · exact (sm_one _ hj).symm
      · by_cases e : t = j
        · subst e; rw [if_pos rfl, if_pos rfl, Int.one_mul]
        · rw [if_neg e, if_neg e, Int.zero_mul, Int.zero_mul]
    rw [sm_swap] at e1
    refine (e1.add (Em.of e2)).trans ?_
    rw [← sm_add]
    refine Em.sm0 fun t ht => ?_
    have h4 := (h2 t ht).mul0 (b := g t r)
    have h5 : sm (k + 1) (fun i => (if i = k then (if t = j then (1 : Int) else 0) else C i t) * x i) = (sm k fun i => C i t * x i) + (if t = j then 1 else 0) * x k := by
      show sm k _ + (if k = k then (if t = j then (1 : Int) else 0) else C k t) * x k = _
      rw [if_pos rfl, sm_congr (t := fun i => C i t * x i) fun i hi => by rw [if_neg (by omega)]]
    rw [h5, Int.add_mul, Int.mul_comm (sm _ _), ← sm_mul] at h4
    rwa [sm_congr fun i _ => show g t r * (C i t * x i) = x i * (C i t * g t r) by rw [Int.mul_comm, Int.mul_comm (C i t), Int.mul_assoc]] at h4
  have hxk : ¬ Em p (x k) 0 := fun e => by
    have h4 : ∀ i, i < k → Em p (x i) 0 := hf x fun r hr => by
      have h5 := (h3 r hr).sub (e.mul0 (b := g j r))
      rwa [Int.add_sub_cancel, Int.sub_zero] at h5
    by_cases e2 : i = k
    · subst e2; exact h1 e
    · exact h1 (h4 i (by omega))
  obtain ⟨e, he⟩ := Em.inv hp hxk
  refine ⟨fun i => -(e * x i), fun r hr => ?_⟩
  have h4 := (h3 r hr).mul0' (a := e)
  rw [Int.mul_add, ← Int.mul_assoc, ← sm_mul] at h4
  have h5 := (he.mul (Em.refl (p := p) (g j r))).symm
  rw [Int.one_mul] at h5
  have h6 : sm k (fun i => -(e * x i) * f i r) = - sm k fun i => e * (x i * f i r) := by
    rw [show (- sm k fun i => e * (x i * f i r)) = (-1) * sm k fun i => e * (x i * f i r) by omega, ← sm_mul]
    exact sm_congr fun i _ => by rw [Int.neg_mul, Int.mul_assoc]; omega
  rw [h6]
  have h7 := h4.sub (Em.refl (p := p) (sm k fun i => e * (x i * f i r)))
  rw [Int.add_comm, Int.add_sub_cancel, Int.zero_sub] at h7
  exact h5.trans h7

/-- The first 1 of a row. -/
def bgN (m : Nat) (q : Nat → Int) : Nat := ((List.range m).find? fun r => q r == 1).getD 0
theorem bgN_is {q : Nat → Int} {a : Nat} (ha : a < m) (h0 : ∀ r, r < a → q r ≠ 1) (h1 : q a = 1) : bgN m q = a := by
  have : (List.range m).find? (fun r => q r == 1) = some a := List.find?_range_eq_some.2 ⟨by simp [h1], List.mem_range.2 ha, fun j hj => by simp [h0 j hj]⟩
  simp [bgN, this]
theorem Rref.beg (h : Rref p m k f b) {i : Nat} (hi : i < k) : bgN m (f i) = b i := bgN_is (h.lt i hi) (fun r hr => by rw [h.fst i hi r hr]; decide) (h.one i hi)
theorem Rref.begs (h : Rref p m k f b) : Rref p m k f fun i => bgN m (f i) :=
  ⟨fun i hi => by rw [h.beg hi]; exact h.lt i hi, fun i j hij hj => by rw [h.beg hj, h.beg (Nat.lt_trans hij hj)]; exact h.mono i j hij hj, fun i hi => by rw [h.beg hi]; exact h.one i hi, fun i hi j hj hne => by rw [h.beg hi]; exact h.oth i hi j hj hne, fun i hi r hr => h.fst i hi r (by rwa [h.beg hi] at hr), h.rng⟩
theorem Rref.inj (h : Rref p m k f b) {i j : Nat} (hi : i < k) (hj : j < k) (e : b i = b j) : i = j := by
  rcases Nat.lt_trichotomy i j with hl | hl | hl
  · have := h.mono i j hl hj; omega
  · exact hl
  · have := h.mono j i hl hi; omega

/-- The columns in which no row begins. -/
def nbB (k : Nat) (b : Nat → Nat) (a : Nat) : Bool := (List.range k).all fun i => b i != a
def nbL (m k : Nat) (b : Nat → Nat) : List Nat := (List.range m).filter (nbB k b)
theorem nbB_iff {a : Nat} : nbB k b a = true ↔ ∀ i, i < k → b i ≠ a := by simp [nbB]
theorem nbL_mem {a : Nat} : a ∈ nbL m k b ↔ a < m ∧ ∀ i, i < k → b i ≠ a := by simp [nbL, nbB_iff]
theorem nbL_nodup (m k : Nat) (b : Nat → Nat) : (nbL m k b).Nodup := List.Pairwise.filter _ List.nodup_range
theorem nbL_succ (m k : Nat) (b : Nat → Nat) : nbL m (k + 1) b = (nbL m k b).filter (· != b k) := by
  unfold nbL
  rw [List.filter_filter]
  refine List.filter_congr fun a _ => ?_
  simp [nbB, List.range_succ, Bool.and_comm, bne_comm (a := b k)]
theorem nb_len (m : Nat) (b : Nat → Nat) : ∀ k, (∀ i, i < k → b i < m) → (∀ i j, i < j → j < k → b i < b j) → (nbL m k b).length + k = m
  | 0, _, _ => by
    have : nbL m 0 b = List.range m := List.filter_eq_self.2 fun a _ => rfl
    rw [this]; simp
  | k + 1, h1, h2 => by
    have ih := nb_len m b k (fun i hi => h1 i (by omega)) fun i j hij hj => h2 i j hij (by omega)
    have hm : b k ∈ nbL m k b := nbL_mem.2 ⟨h1 k (by omega), fun i hi => by have := h2 i k hi (by omega); omega⟩
    rw [nbL_succ, ← List.Nodup.erase_eq_filter (nbL_nodup m k b), List.length_erase_of_mem hm]
    have : 0 < (nbL m k b).length := List.length_pos_of_mem hm
    omega
/-- The list that is 1 in a column in which no row begins, and comes to nought with every row. -/
def acF (p : Int) (k : Nat) (f : Nat → Nat → Int) (b : Nat → Nat) (a r : Nat) : Int := if r = a then 1 else match (List.range k).find? fun i => b i == r with
  | some i => (p - f i a) % p
  | none => 0
theorem acF_at (a : Nat) : acF p k f b a a = 1 := if_pos rfl
theorem acF_oth {a r : Nat} (h : r ≠ a) (h2 : ∀ i, i < k → b i ≠ r) : acF p k f b a r = 0 := by
  have : (List.range k).find? (fun i => b i == r) = none := List.find?_eq_none.2 fun i hi => by simpa using h2 i (List.mem_range.1 hi)
  simp [acF, h, this]
theorem acF_beg (h : Rref p m k f b) {a i : Nat} (hi : i < k) (hne : b i ≠ a) : acF p k f b a (b i) = (p - f i a) % p := by
  have : (List.range k).find? (fun j => b j == b i) = some i := List.find?_range_eq_some.2 ⟨by simp, List.mem_range.2 hi, fun j hj => by
    have : b j ≠ b i := fun e => by have := h.inj (by omega) hi e; omega
    simpa using this⟩
  simp [acF, hne, this]
theorem acF_in (hp : isP p) (a r : Nat) : 0 ≤ acF p k f b a r ∧ acF p k f b a r < p := by
  have := isP_pos hp
  unfold acF
  split
  · omega
  split
  · exact ⟨Int.emod_nonneg _ (by omega), Int.emod_lt_of_pos _ (by omega)⟩
  · omega
theorem sm_one' (a : Int) {i n : Nat} (h : i < n) : sm n (fun j => if i = j then a else 0) = a := by
  rw [sm_congr (t := fun j => if j = i then a else 0) fun j _ => by
    by_cases e : j = i
    · rw [if_pos e, if_pos e.symm]
    · rw [if_neg e, if_neg fun e2 => e e2.symm]]
  exact sm_one a h
theorem acF_em (h : Rref p m k f b) {a r : Nat} (hr : r < m) (ha : ∀ i, i < k → b i ≠ a) : Em p (acF p k f b a r) ((if r = a then 1 else 0) + sm k fun i => if r = b i then - f i a else 0) := by
  by_cases e : r = a
  · subst e
    rw [acF_at, if_pos rfl, sm_congr (t := fun _ => 0) fun i hi => if_neg fun e => ha i hi e.symm, sm_zero, Int.add_zero]
    exact Em.refl _
  · rw [if_neg e, Int.zero_add]
    by_cases e2 : ∃ i, i < k ∧ b i = r
    · obtain ⟨i, hi, rfl⟩ := e2
      rw [acF_beg h hi e, sm_congr (t := fun j => if i = j then - f i a else 0) fun j hj => ?_]
      · rw [sm_one' _ hi]
        refine (Em.mod _).trans ⟨1, by omega⟩
      · by_cases e3 : i = j
        · subst e3; rw [if_pos rfl, if_pos rfl]
        · rw [if_neg e3, if_neg fun e4 => e3 (h.inj hi hj e4)]
    · rw [acF_oth e fun i hi e3 => e2 ⟨i, hi, e3⟩, sm_congr (t := fun _ => 0) fun i hi => if_neg fun e4 => e2 ⟨i, hi, e4.symm⟩, sm_zero]
      exact Em.refl _
theorem acF_dot (h : Rref p m k f b) {a : Nat} (ham : a < m) (ha : ∀ i, i < k → b i ≠ a) (w : Nat → Int) : Em p (sm m fun r => w r * acF p k f b a r) (w a + sm k fun i => - f i a * w (b i)) := by
  have h1 : Em p (sm m fun r => w r * acF p k f b a r) (sm m fun r => w r * ((if r = a then 1 else 0) + sm k fun i => if r = b i then - f i a else 0)) := Em.sm fun r hr => (Em.refl _).mul (acF_em h hr ha)
  refine h1.trans (Em.of ?_)
  have h2 : ∀ r, w r * ((if r = a then 1 else 0) + sm k fun i => if r = b i then - f i a else 0) = (if r = a then w a else 0) + sm k fun i => if r = b i then - f i a * w (b i) else 0 := fun r => by
    rw [Int.mul_add, ← sm_mul]
    congr 1
    · by_cases e : r = a
      · subst e; rw [if_pos rfl, if_pos rfl, Int.mul_one]
      · rw [if_neg e, if_neg e, Int.mul_zero]
    · refine sm_congr fun i _ => ?_
      by_cases e : r = b i
      · rw [if_pos e, if_pos e, e, Int.mul_comm]
      · rw [if_neg e, if_neg e, Int.mul_zero]
  rw [sm_congr fun r _ => h2 r, sm_add, sm_one _ ham, sm_swap]
  congr 1
  exact sm_congr fun i hi => sm_one _ (h.lt i hi)
/-- Each row comes to nought with each list across. -/
theorem acF_nought (h : Rref p m k f b) {a i : Nat} (ham : a < m) (ha : ∀ i, i < k → b i ≠ a) (hi : i < k) : Em p (sm m fun r => f i r * acF p k f b a r) 0 := by
  refine (acF_dot h ham ha (f i)).trans (Em.of ?_)
  rw [sm_congr (t := fun j => if j = i then - f i a else 0) fun j hj => ?_, sm_one _ hi]
  · omega
  · by_cases e : j = i
    · subst e; rw [if_pos rfl, h.one j hj, Int.mul_one]
    · rw [if_neg e, h.oth j hj i hi fun e2 => e e2.symm, Int.mul_zero]
/-- The lists across, one behind the other. -/
def acG (p : Int) (m k : Nat) (f : Nat → Nat → Int) (b : Nat → Nat) (j r : Nat) : Int := acF p k f b ((nbL m k b).getD j 0) r
theorem nb_at {j : Nat} (hj : j < (nbL m k b).length) : (nbL m k b).getD j 0 < m ∧ ∀ i, i < k → b i ≠ (nbL m k b).getD j 0 := by
  have : (nbL m k b).getD j 0 ∈ nbL m k b := by
    rw [List.getD_eq_getElem?_getD, List.getElem?_eq_getElem hj]; exact List.getElem_mem hj
  exact nbL_mem.1 this
theorem nb_inj {i j : Nat} (hi : i < (nbL m k b).length) (hj : j < (nbL m k b).length) (e : (nbL m k b).getD i 0 = (nbL m k b).getD j 0) : i = j := by
  rw [List.getD_eq_getElem?_getD, List.getD_eq_getElem?_getD, List.getElem?_eq_getElem hi, List.getElem?_eq_getElem hj] at e
  exact (List.getElem_inj (nbL_nodup m k b)).1 e
theorem acG_nb {i j : Nat} (hi : i < (nbL m k b).length) (hj : j < (nbL m k b).length) : acG p m k f b i ((nbL m k b).getD j 0) = if i = j then 1 else 0 := by
  by_cases e : i = j
  · subst e; rw [if_pos rfl]; exact acF_at _
  · rw [if_neg e]
    exact acF_oth (fun e2 => e (nb_inj hi hj e2.symm)) (nb_at hj).2
/-- What comes to nought with each row is a sum of lists across. -/
theorem acG_span (h : Rref p m k f b) (hv : ∀ i, i < k → Em p (sm m fun r => f i r * v r) 0) : InS p m (nbL m k b).length (acG p m k f b) v := by
  refine ⟨fun j => v ((nbL m k b).getD j 0), ?_⟩
  obtain ⟨d, hd⟩ : ∃ d : Nat → Int, ∀ r, d r = v r - sm (nbL m k b).length fun j => v ((nbL m k b).getD j 0) * acG p m k f b j r := ⟨_, fun _ => rfl⟩
  have h1 : ∀ j, j < (nbL m k b).length → d ((nbL m k b).getD j 0) = 0 := fun j hj => by
    rw [hd, sm_congr (t := fun i => if i = j then v ((nbL m k b).getD j 0) else 0) fun i hi => ?_, sm_one _ hj]
    · omega
    · rw [acG_nb hi hj]
      by_cases e : i = j
      · subst e; rw [if_pos rfl, if_pos rfl, Int.mul_one]
      · rw [if_neg e, if_neg e, Int.mul_zero]
  have h2 : ∀ i, i < k → Em p (sm m fun r => f i r * d r) 0 := fun i hi => by
    have e1 : (sm m fun r => f i r * d r) = (sm m fun r => f i r * v r) - sm (nbL m k b).length fun j => v ((nbL m k b).getD j 0) * sm m fun r => f i r * acG p m k f b j r := by
      have e2 : (sm (nbL m k b).length fun j => v ((nbL m k b).getD j 0) * sm m fun r => f i r * acG p m k f b j r) = sm m fun r => f i r * sm (nbL m k b).length fun j => v ((nbL m k b).getD j 0) * acG p m k f b j r := by
        rw [sm_congr fun j _ => (sm_mul _ _ _).symm, sm_swap]
        refine sm_congr fun r _ => ?_
        rw [← sm_mul]
        exact sm_congr fun j _ => by rw [← Int.mul_assoc, ← Int.mul_assoc, Int.mul_comm (v _)]
      rw [e2]
      have e3 := sm_add (fun r => f i r * d r) (fun r => f i r * sm (nbL m k b).length fun j => v ((nbL m k b).getD j 0) * acG p m k f b j r) m
      rw [sm_congr (t := fun r => f i r * v r) fun r _ => by rw [← Int.mul_add, hd]; congr 1; omega] at e3
      omega
    rw [e1]
    refine ((hv i hi).sub (Em.sm0 fun j hj => ?_)).trans (Em.of (by omega))
    exact Em.mul0' (acF_nought h (nb_at hj).1 (nb_at hj).2 hi)
  have h3 : ∀ i, i < k → Em p (d (b i)) 0 := fun i hi => by
    have e1 := h2 i hi
    rw [sm_congr (t := fun r => if r = b i then d (b i) else 0) fun r hr => ?_, sm_one _ (h.lt i hi)] at e1
    · exact e1
    · by_cases e : r = b i
      · subst e; rw [if_pos rfl, h.one i hi, Int.one_mul]
      · rw [if_neg e]
        by_cases e2 : ∃ j, j < k ∧ b j = r
        · obtain ⟨j, hj, rfl⟩ := e2
          rw [h.oth j hj i hi fun e3 => e (by rw [e3]), Int.zero_mul]
        · have : r ∈ nbL m k b := nbL_mem.2 ⟨hr, fun j hj e3 => e2 ⟨j, hj, e3⟩⟩
          obtain ⟨j, hj, e3⟩ := List.mem_iff_getElem.1 this
          have e4 := h1 j hj
          rw [List.getD_eq_getElem?_getD, List.getElem?_eq_getElem hj] at e4
          rw [← e3]
          rw [show d (nbL m k b)[j] = 0 from e4, Int.mul_zero]
  intro r hr
  have h4 : Em p (d r) 0 := by
    by_cases e2 : ∃ j, j < k ∧ b j = r
    · obtain ⟨j, hj, rfl⟩ := e2
      exact h3 j hj
    · have : r ∈ nbL m k b := nbL_mem.2 ⟨hr, fun j hj e3 => e2 ⟨j, hj, e3⟩⟩
      obtain ⟨j, hj, e3⟩ := List.mem_iff_getElem.1 this
      have e4 := h1 j hj
      rw [List.getD_eq_getElem?_getD, List.getElem?_eq_getElem hj] at e4
      rw [← e3]
      exact Em.of e4
  have h5 := h4.add (Em.refl (p := p) (sm (nbL m k b).length fun j => v ((nbL m k b).getD j 0) * acG p m k f b j r))
  rw [hd, Int.sub_add_cancel, Int.zero_add] at h5
  exact h5
theorem acG_free (m k : Nat) (f : Nat → Nat → Int) (b : Nat → Nat) : FreeM p m (nbL m k b).length (acG p m k f b) := fun x hx j hj => by
  have := hx _ (nb_at hj).1
  rw [sm_congr (t := fun i => if i = j then x j else 0) fun i hi => ?_, sm_one _ hj] at this
  · exact this
  · rw [acG_nb hi hj]
    by_cases e : i = j
    · subst e; rw [if_pos rfl, if_pos rfl, Int.mul_one]
    · rw [if_neg e, if_neg e, Int.mul_zero]
end Go.Proofs.YtdabkgbbalooiaaDoor

namespace Go.Proofs.YtdabkgbbalooiaaDoor

variable {p : Int} {m n k N : Nat} {f g f0 : Nat → Nat → Int} {v w : Nat → Int} {b : Nat → Nat}
theorem acF_zero (a r : Nat) : acF p 0 f b a r = if r = a then 1 else 0 := rfl
/-- One row more. -/
theorem acF_succ (h : Rref p m k f b) {a i r : Nat} (hi : i < k) (hne : b i ≠ a) : acF p (i + 1) f b a r = if b i = r then (p - f i a) % p else acF p i f b a r := by
  unfold acF
  by_cases e : r = a
  · rw [if_pos e, if_pos e, if_neg (by rw [e]; exact hne)]
  · rw [if_neg e, if_neg e, List.range_succ, List.find?_append]
    by_cases e2 : b i = r
    · have : (List.range i).find? (fun j => b j == r) = none := List.find?_eq_none.2 fun j hj => by
        have hj := List.mem_range.1 hj
        have : b j ≠ r := fun e3 => by have := h.inj (by omega) hi (e3.trans e2.symm); omega
        simpa using this
      rw [this, if_pos e2]
      simp [e2]
    · rw [if_neg e2]
      have : [i].find? (fun j => b j == r) = none := by simp [e2]
      rw [this, Option.or_none]
theorem nb_hit {t : Nat} (h : nbB k b t = true) : nbL (t + 1) k b = nbL t k b ++ [t] := by simp [nbL, List.range_succ, List.filter_append, h]
theorem nb_miss {t : Nat} (h : nbB k b t = false) : nbL (t + 1) k b = nbL t k b := by simp [nbL, List.range_succ, List.filter_append, h]
theorem nb_front {t : Nat} : ∀ d, ∃ r, nbL (t + d) k b = nbL t k b ++ r
  | 0 => ⟨[], by simp⟩
  | d + 1 => by
    obtain ⟨r, hr⟩ := nb_front (t := t) d
    cases e : nbB k b (t + d) with
    | true => exact ⟨r ++ [t + d], by rw [← Nat.add_assoc, nb_hit e, hr, List.append_assoc]⟩
    | false => exact ⟨r, by rw [← Nat.add_assoc, nb_miss e, hr]⟩
theorem nb_here {t : Nat} (ht : t < m) (h : nbB k b t = true) : (nbL m k b).getD (nbL t k b).length 0 = t := by
  obtain ⟨r, hr⟩ := nb_front (t := t + 1) (k := k) (b := b) (m - (t + 1))
  rw [show t + 1 + (m - (t + 1)) = m by omega, nb_hit h] at hr
  rw [hr]
  simp [List.getD]
theorem orth_in (hv : InS p m k g v) (hw : ∀ j, j < k → Em p (sm m fun r => g j r * w r) 0) : Em p (sm m fun r => v r * w r) 0 := by
  obtain ⟨c, hc⟩ := hv
  have h1 : Em p (sm m fun r => v r * w r) (sm m fun r => sm k fun j => c j * (g j r * w r)) := Em.sm fun r hr => by
    have := (hc r hr).mul (Em.refl (p := p) (w r))
    rw [Int.mul_comm (sm _ _), ← sm_mul] at this
    exact this.trans (Em.of (sm_congr fun j _ => by rw [Int.mul_comm, Int.mul_assoc]))
  refine h1.trans ?_
  rw [sm_swap]
  refine Em.sm0 fun j hj => ?_
  rw [sm_mul]
  exact Em.mul0' (hw j hj)
theorem dot_comm (v w : Nat → Int) (m : Nat) : (sm m fun r => v r * w r) = sm m fun r => w r * v r := sm_congr fun _ _ => Int.mul_comm _ _
/-- The lists across what is reduced, and their number. -/
def kerA (p : Int) (m N : Nat) (f0 : Nat → Nat → Int) : Nat → Nat → Int := acG p m (redN p m N f0) (redF p m N f0) fun i => bgN m (redF p m N f0 i)
def kerC (p : Int) (m N : Nat) (f0 : Nat → Nat → Int) : Nat := (nbL m (redN p m N f0) fun i => bgN m (redF p m N f0 i)).length
theorem kerA_in (hp : isP p) (i r : Nat) : 0 ≤ kerA p m N f0 i r ∧ kerA p m N f0 i r < p := acF_in hp _ _
theorem ker_len (hp : isP p) (h0 : ∀ i, i < N → ∀ r, r < m → 0 ≤ f0 i r ∧ f0 i r < p) : kerC p m N f0 + redN p m N f0 = m := by
  obtain ⟨-, b, r1, -, -⟩ := red_ok hp h0
  exact nb_len m _ _ r1.begs.lt r1.begs.mono
theorem ker_red (hp : isP p) : redN p m (kerC p m N f0) (kerA p m N f0) = kerC p m N f0 := by
  obtain ⟨q0, b', q1, q2, q3⟩ := red_ok (f0 := kerA p m N f0) (N := kerC p m N f0) (m := m) hp fun i _ r _ => kerA_in hp i r
  exact Nat.le_antisymm q0 (free_le hp (acG_free m _ _ _) q3)
/-- The kernel's rows. -/
def kerF (p : Int) (m N : Nat) (f0 : Nat → Nat → Int) : Nat → Nat → Int := redF p m (kerC p m N f0) (kerA p m N f0)
theorem ker_rref (hp : isP p) : ∃ b, Rref p m (kerC p m N f0) (kerF p m N f0) b := by
  obtain ⟨-, b', q1, -, -⟩ := red_ok (f0 := kerA p m N f0) (N := kerC p m N f0) (m := m) hp fun i _ r _ => kerA_in hp i r
  rw [ker_red hp] at q1
  exact ⟨b', q1⟩
theorem ker_nought (hp : isP p) (h0 : ∀ i, i < N → ∀ r, r < m → 0 ≤ f0 i r ∧ f0 i r < p) {i j : Nat} (hi : i < N) (hj : j < kerC p m N f0) : Em p (sm m fun r => f0 i r * kerF p m N f0 j r) 0 := by
  obtain ⟨-, b, r1, r2, r3⟩ := red_ok hp h0
  obtain ⟨-, b', q1, q2, q3⟩ := red_ok (f0 := kerA p m N f0) (N := kerC p m N f0) (m := m) hp fun i _ r _ => kerA_in hp i r
  rw [ker_red hp] at q2
  refine orth_in (r3 i hi) fun t ht => ?_
  rw [dot_comm]
  refine orth_in (q2 j hj) fun s hs => ?_
  rw [dot_comm]
  exact acF_nought r1.begs (nb_at hs).1 (nb_at hs).2 ht
theorem ker_span (hp : isP p) (h0 : ∀ i, i < N → ∀ r, r < m → 0 ≤ f0 i r ∧ f0 i r < p) (hv : ∀ i, i < N → Em p (sm m fun r => f0 i r * v r) 0) : InS p m (kerC p m N f0) (kerF p m N f0) v := by
  obtain ⟨-, b, r1, r2, r3⟩ := red_ok hp h0
  obtain ⟨-, b', q1, q2, q3⟩ := red_ok (f0 := kerA p m N f0) (N := kerC p m N f0) (m := m) hp fun i _ r _ => kerA_in hp i r
  rw [ker_red hp] at q3
  exact (acG_span r1.begs fun i hi => orth_in (r2 i hi) hv).trans q3
theorem kerF_in (hp : isP p) {j : Nat} (hj : j < kerC p m N f0) {r : Nat} (hr : r < m) : 0 ≤ kerF p m N f0 j r ∧ kerF p m N f0 j r < p := by
  obtain ⟨b, h⟩ := ker_rref (p := p) (m := m) (N := N) (f0 := f0) hp
  exact h.rng j hj r hr
theorem ker_num (hp : isP p) (h0 : ∀ i, i < N → ∀ r, r < m → 0 ≤ f0 i r ∧ f0 i r < p) : kerC p m (kerC p m N f0) (kerF p m N f0) = redN p m N f0 := by
  have h1 : redN p m (kerC p m N f0) (kerF p m N f0) = kerC p m N f0 := by
    have := (red_twice (f0 := kerA p m N f0) (N := kerC p m N f0) (m := m) hp fun i _ r _ => kerA_in hp i r).1
    rw [ker_red hp] at this
    exact this
  have h2 := ker_len hp h0
  have h3 := ker_len (f0 := kerF p m N f0) (N := kerC p m N f0) (m := m) hp fun i hi r hr => kerF_in hp hi hr
  omega
/-- What comes to nought with all that does so with these is a sum of these. -/
theorem ker_perp (hp : isP p) (h0 : ∀ i, i < N → ∀ r, r < m → 0 ≤ f0 i r ∧ f0 i r < p) (hv : ∀ j, j < kerC p m N f0 → Em p (sm m fun r => kerF p m N f0 j r * v r) 0) : InS p m (redN p m N f0) (redF p m N f0) v := by
  obtain ⟨-, b, r1, r2, r3⟩ := red_ok hp h0
  have hn := ker_num hp h0
  have hk : ∀ i, i < kerC p m N f0 → ∀ r, r < m → 0 ≤ kerF p m N f0 i r ∧ kerF p m N f0 i r < p := fun i hi r hr => kerF_in hp hi hr
  have h1 := ker_span (v := v) hp hk hv
  have h2 : ∀ i, i < redN p m N f0 → InS p m (kerC p m (kerC p m N f0) (kerF p m N f0)) (kerF p m (kerC p m N f0) (kerF p m N f0)) (redF p m N f0 i) := fun i hi => ker_span hp hk fun j hj => by
    rw [dot_comm]
    exact orth_in (r2 i hi) fun t ht => ker_nought hp h0 ht hj
  rw [hn] at h1 h2
  exact h1.trans fun j hj => span_eq hp r1.free h2 hj
/-- A kernel's kernel has the rows of what is reduced. -/
theorem ker_ker (hp : isP p) (h0 : ∀ i, i < N → ∀ r, r < m → 0 ≤ f0 i r ∧ f0 i r < p) : ∀ i, i < redN p m N f0 → ∀ r, r < m → kerF p m (kerC p m N f0) (kerF p m N f0) i r = redF p m N f0 i r := by
  obtain ⟨-, b, r1, r2, r3⟩ := red_ok hp h0
  have hn := ker_num hp h0
  have hk : ∀ i, i < kerC p m N f0 → ∀ r, r < m → 0 ≤ kerF p m N f0 i r ∧ kerF p m N f0 i r < p := fun i hi r hr => kerF_in hp hi hr
  obtain ⟨b2, s1⟩ := ker_rref (p := p) (m := m) (N := kerC p m N f0) (f0 := kerF p m N f0) hp
  rw [hn] at s1
  refine (s1.uniq hp r1 (fun i hi => ?_) fun i hi => ?_).2.2
  · have := ker_span (v := redF p m N f0 i) hp hk fun j hj => by
      rw [dot_comm]
      exact orth_in (r2 i hi) fun t ht => ker_nought hp h0 ht hj
    rwa [hn] at this
  · refine ker_perp hp h0 fun j hj => ?_
    exact ker_nought hp hk hj (by rwa [hn])
/-- Reckoned modulo p: what comes to nought with all that does so with these (whatever numbers) is a sum of these. -/
theorem perp_in (hp : isP p) (hv : ∀ a : Nat → Int, (∀ i, i < N → Em p (sm m fun r => f0 i r * a r) 0) → Em p (sm m fun r => v r * a r) 0) : InS p m N f0 v := by
  have hp2 := isP_pos hp
  obtain ⟨f1, hf1⟩ : ∃ f1 : Nat → Nat → Int, ∀ i r, f1 i r = f0 i r % p := ⟨_, fun _ _ => rfl⟩
  have e1 : ∀ i r, Em p (f1 i r) (f0 i r) := fun i r => by rw [hf1]; exact Em.mod _
  have h0 : ∀ i, i < N → ∀ r, r < m → 0 ≤ f1 i r ∧ f1 i r < p := fun i _ r _ => by rw [hf1]; exact ⟨Int.emod_nonneg _ (by omega), Int.emod_lt_of_pos _ (by omega)⟩
  obtain ⟨-, b, r1, r2, r3⟩ := red_ok hp h0
  have h1 := ker_perp (v := v) hp h0 fun j hj => by
    rw [dot_comm]
    refine hv _ fun i hi => (Em.sm fun r hr => ((e1 i r).mul (Em.refl _)).symm).trans (ker_nought hp h0 hi hj)
  refine (h1.trans r2).trans fun i hi => (InS.of hi).cg fun r _ => e1 i r
end Go.Proofs.YtdabkgbbalooiaaDoor

namespace Go.Proofs.YtdabkgbbalooiaaDoor

variable {p : Int} {m n k N : Nat} {col : Nat → Nat → Int} {v w : Nat → Int}
/-- The columns of a set, the others nought. -/
def colS (t : Nat) (col : Nat → Nat → Int) (j r : Nat) : Int := if t.testBit j = true then col j r else 0
theorem colS_pos {t j : Nat} (h : t.testBit j = true) (r : Nat) : colS t col j r = col j r := if_pos h
theorem colS_neg {t j : Nat} (h : t.testBit j = false) (r : Nat) : colS t col j r = 0 := if_neg (by simp [h])
theorem cg_em {v w : Nat → Int} (h : Cg p v w) {r : Nat} (hr : r < 6) : Em p (v r) (w r) := Int.dvd_of_emod_eq_zero (h r hr)
theorem em_cg {v w : Nat → Int} (h : ∀ r, r < 6 → Em p (v r) (w r)) : Cg p v w := fun r hr => Int.emod_eq_zero_of_dvd (h r hr)
theorem span_sm {S : (Nat → Int) → Prop} (c : Nat → Int) (g : Nat → Nat → Int) : ∀ n, (∀ j, j < n → (∀ r, g j r = 0) ∨ S (g j)) → Span p S fun r => sm n fun j => c j * g j r
  | 0, _ => .zero
  | n + 1, h => by
    have ih := span_sm c g n fun j hj => h j (by omega)
    rcases h n (by omega) with e | e
    · refine .cg (em_cg fun r _ => Em.of ?_) ih
      show _ = _ + c n * g n r
      rw [e r, Int.mul_zero, Int.add_zero]
    · exact .add (c n) ih e
/-- To hang on a set of columns is to be a sum of multiples of them. -/
theorem dep_inS {t i : Nat} (ht : t < 2 ^ n) : depC p col t i ↔ InS p 6 n (colS t col) (col i) := by
  constructor
  · unfold depC
    generalize col i = v
    intro h
    induction h with
    | zero => exact InS.zero
    | add k h hx ih =>
      obtain ⟨j, hj, rfl⟩ := hx
      have hjn : j < n := by
        apply Classical.byContradiction
        intro hn
        rw [Nat.testBit_lt_two_pow (Nat.lt_of_lt_of_le ht (Nat.pow_le_pow_right (by omega) (by omega)))] at hj
        cases hj
      exact ih.lin ((InS.of (g := colS t col) hjn).cg fun r _ => Em.of (colS_pos hj r).symm) k
    | cg hc h ih => exact ih.cg fun r hr => (cg_em hc hr).symm
  · rintro ⟨c, hc⟩
    refine .cg (em_cg fun r hr => (hc r hr).symm) (span_sm c (colS t col) n fun j _ => ?_)
    cases e : t.testBit j with
    | false => exact .inl fun r => colS_neg e r
    | true => exact .inr ⟨j, e, funext fun r => colS_pos e r⟩
/-- Columns are independent just if no sum of multiples is nought, but that of noughts. -/
theorem ind_free (hp : isP p) (hn : n ≤ 8) {t : Nat} (ht : t < 2 ^ n) : depR n (depC p col) t = pop t ↔ ∀ x : Nat → Int, (∀ r, r < 6 → Em p (sm n fun j => x j * colS t col j r) 0) → ∀ j, j < n → t.testBit j = true → Em p (x j) 0 := by
  rw [Dep.ind hn ht]
  constructor
  · intro h x hx
    apply Classical.byContradiction
    intro hc
    obtain ⟨i, hi, hti, hxi, hmax⟩ : ∃ i, i < n ∧ t.testBit i = true ∧ ¬ Em p (x i) 0 ∧ ∀ j, i < j → j < n → t.testBit j = true → Em p (x j) 0 := by
      have : ∀ d, (∀ j, n - d ≤ j → j < n → t.testBit j = true → Em p (x j) 0) ∨ ∃ i, i < n ∧ t.testBit i = true ∧ ¬ Em p (x i) 0 ∧ ∀ j, i < j → j < n → t.testBit j = true → Em p (x j) 0 := by
        intro d
        induction d with
        | zero => exact .inl fun j h1 h2 => by omega
        | succ d ih =>
          rcases ih with ih | ih
          · by_cases e : d < n ∧ t.testBit (n - (d + 1)) = true ∧ ¬ Em p (x (n - (d + 1))) 0
            · exact .inr ⟨n - (d + 1), by omega, e.2.1, e.2.2, fun j h1 h2 => ih j (by omega) h2⟩
            · refine .inl fun j h1 h2 h3 => ?_
              by_cases e2 : j = n - (d + 1)
              · by_cases e3 : d < n
                · subst e2
                  exact Classical.byContradiction fun e4 => e ⟨e3, h3, e4⟩
                · exact ih j (by omega) h2 h3
              · exact ih j (by omega) h2 h3
          · exact .inr ih
      rcases this n with h1 | h1
      · exact absurd (fun j hj htj => h1 j (by omega) hj htj) hc
      · exact h1
    refine h i hi hti ((dep_inS (lo_ltn ht i)).2 ?_)
    obtain ⟨e, he⟩ := Em.inv hp hxi
    refine ⟨fun j => -(e * x j), fun r hr => ?_⟩
    have h1 := (hx r hr).mul0' (a := e)
    rw [← sm_mul] at h1
    have h2 : Em p (sm n fun j => e * (x j * colS t col j r)) (sm n fun j => (if j = i then col i r else 0) + e * (x j * colS (lo t i) col j r)) := Em.sm fun j hj => by
      by_cases e1 : j = i
      · subst e1
        rw [if_pos rfl, colS_pos hti, colS_neg (by rw [lo_bit]; simp), Int.mul_zero, Int.mul_zero, Int.add_zero, ← Int.mul_assoc]
        have := he.mul (Em.refl (p := p) (col j r))
        rwa [Int.one_mul] at this
      · rw [if_neg e1, Int.zero_add]
        cases e2 : t.testBit j with
        | false =>
          rw [colS_neg e2, colS_neg (by rw [lo_bit, e2]; rfl)]
          exact Em.refl _
        | true =>
          by_cases e3 : j < i
          · rw [colS_pos e2, colS_pos (by rw [lo_bit, e2]; simpa using e3)]
            exact Em.refl _
          · rw [colS_neg (t := lo t i) (by rw [lo_bit]; simp [e3]), Int.mul_zero, Int.mul_zero]
            exact Em.mul0' (hmax j (by omega) hj e2).mul0
    rw [sm_add, sm_one _ hi] at h2
    have h3 := (h2.symm.trans h1).sub (Em.refl (p := p) (sm n fun j => e * (x j * colS (lo t i) col j r)))
    rw [Int.add_sub_cancel, Int.zero_sub] at h3
    refine h3.trans (Em.of ?_)
    rw [show (- sm n fun j => e * (x j * colS (lo t i) col j r)) = (-1) * sm n fun j => e * (x j * colS (lo t i) col j r) by omega, ← sm_mul]
    exact sm_congr fun j _ => by
      show (-1) * (e * (x j * colS (lo t i) col j r)) = -(e * x j) * colS (lo t i) col j r
      rw [Int.neg_mul (e * x j), Int.mul_assoc e]; omega
  · intro h i hi hti hd
    obtain ⟨c, hc⟩ := (dep_inS (lo_ltn ht i)).1 hd
    have h1 := h (fun j => if j = i then -1 else if (lo t i).testBit j = true then c j else 0) (fun r hr => ?_) i hi hti
    · rw [if_pos rfl] at h1
      have := h1.neg
      exact one_ne hp this
    · have h2 : (sm n fun j => (if j = i then -1 else if (lo t i).testBit j = true then c j else 0) * colS t col j r) = (sm n fun j => c j * colS (lo t i) col j r) - col i r := by
        have h3 := sm_add (fun j => (if j = i then -1 else if (lo t i).testBit j = true then c j else 0) * colS t col j r) (fun j => if j = i then col i r else 0) n
        rw [sm_one _ hi, sm_congr (t := fun j => c j * colS (lo t i) col j r) fun j _ => ?_] at h3
        · omega
        · by_cases e1 : j = i
          · subst e1
            rw [if_pos rfl, if_pos rfl, colS_pos hti, colS_neg (by rw [lo_bit]; simp), Int.mul_zero]; omega
          · rw [if_neg e1, if_neg e1, Int.add_zero]
            cases e2 : (lo t i).testBit j with
            | false => rw [if_neg (by simp), Int.zero_mul, colS_neg e2, Int.mul_zero]
            | true =>
              have e3 : t.testBit j = true := by rw [lo_bit] at e2; simp at e2; exact e2.1
              rw [if_pos rfl, colS_pos e2, colS_pos e3]
      rw [h2]
      have := (hc r hr).symm.sub (Em.refl (p := p) (col i r))
      rwa [Int.sub_self] at this
/-- A set has all ranks just if each element hangs on it. -/
theorem hang_iff {D : Nat → Nat → Prop} (hD : Dep n D) (hn : n ≤ 8) {s : Nat} (hs : s < 2 ^ n) : depR n D s = depR n D (2 ^ n - 1) ↔ ∀ i, i < n → D s i := by
  have hk := hD.rkOn hn
  constructor
  · intro h i hi
    apply Classical.byContradiction
    intro hc
    have h1 := hD.step hs hi
    rw [if_neg hc] at h1
    have h2 : s ||| 2 ^ i < 2 ^ n := Nat.or_lt_two_pow hs (Nat.pow_lt_pow_right (by omega) hi)
    have h3 := hk.mono _ _ h2 (full_lt n) (full_sub h2)
    omega
  · intro h
    have h1 : ∀ k, k ≤ n → depR n D (s ||| lo (2 ^ n - 1) k) = depR n D s := by
      intro k
      induction k with
      | zero => intro _; rw [lo_zero, Nat.or_zero]
      | succ k ih =>
        intro hkn
        have hl : lo (2 ^ n - 1) (k + 1) = lo (2 ^ n - 1) k ||| 2 ^ k := lo_hit (by rw [full_bit]; simp; omega)
        have hlt : s ||| lo (2 ^ n - 1) k < 2 ^ n := Nat.or_lt_two_pow hs (lo_ltn (full_lt n) k)
        rw [hl, ← Nat.or_assoc, hD.step hlt (by omega), if_pos, Nat.add_zero, ih (by omega)]
        exact hD.mono s _ k hs hlt (by omega) (subB_iff.2 fun j hj => by rw [Nat.testBit_or, hj]; rfl) (h k (by omega))
    have h2 := h1 n (Nat.le_refl _)
    rw [lo_all (full_lt n)] at h2
    have h3 : s ||| (2 ^ n - 1) = 2 ^ n - 1 := Nat.eq_of_testBit_eq fun j => by
      rw [Nat.testBit_or, full_bit]
      cases e : s.testBit j with
      | false => simp
      | true =>
        have : j < n := by
          apply Classical.byContradiction
          intro hn
          rw [Nat.testBit_lt_two_pow (Nat.lt_of_lt_of_le hs (Nat.pow_le_pow_right (by omega) (by omega)))] at e
          cases e
        simp [this]
    rw [h3] at h2
    exact h2.symm
/-- Two lists of rows, each what comes to nought with the other: a set is spanned by columns of the one just if what is left is independent in the other. -/
theorem span_dual (hp : isP p) (hn : n ≤ 8) {X K : Nat → Nat → Int} (h1 : ∀ i j, i < 6 → j < 6 → Em p (sm n fun r => X r i * K r j) 0) (h2 : ∀ v : Nat → Int, (∀ j, j < 6 → Em p (sm n fun r => K r j * v r) 0) → InS p n 6 (fun i r => X r i) v) {s : Nat} (hs : s < 2 ^ n) : (∀ i, i < n → depC p X s i) ↔ depR n (depC p K) (2 ^ n - 1 - s) = pop (2 ^ n - 1 - s) := by
  rw [ind_free hp hn cpl_lt]
  constructor
  · intro h x hx j hj hjs
    obtain ⟨x', hx'⟩ : ∃ x' : Nat → Int, ∀ r, x' r = if s.testBit r = true then 0 else x r := ⟨_, fun _ => rfl⟩
    have e1 : ∀ j, j < n → s.testBit j = false → x' j = x j := fun j _ hj => by rw [hx', if_neg (by simp [hj])]
    have hxx : ∀ j, j < 6 → Em p (sm n fun r => K r j * x' r) 0 := fun j hj => by
      refine Em.trans (Em.of (sm_congr fun r hr => ?_)) (hx j hj)
      cases e : s.testBit r with
      | true => rw [hx', e, if_pos rfl, Int.mul_zero, colS_neg (by rw [cpl_bit hs, e]; simp), Int.mul_zero]
      | false => rw [e1 r hr e, colS_pos (by rw [cpl_bit hs, e]; simpa using hr), Int.mul_comm]
    obtain ⟨a, ha⟩ := h2 x' hxx
    have hsj : s.testBit j = false := by
      rw [cpl_bit hs] at hjs; simp at hjs; exact hjs.2
    obtain ⟨c, hc⟩ := (dep_inS hs).1 (h j hj)
    rw [← e1 j hj hsj]
    refine (ha j hj).trans ?_
    have h3 : Em p (sm 6 fun i => a i * X j i) (sm 6 fun i => sm n fun t => a i * (c t * colS s X t i)) := Em.sm fun i hi => by
      have := (Em.refl (p := p) (a i)).mul (hc i hi)
      rwa [← sm_mul] at this
    refine h3.trans ?_
    rw [sm_swap]
    refine Em.sm0 fun t ht => ?_
    cases e : s.testBit t with
    | false =>
      refine Em.sm0 fun i _ => ?_
      rw [colS_neg e, Int.mul_zero, Int.mul_zero]
      exact Em.refl _
    | true =>
      have h4 := ha t ht
      rw [hx', if_pos e] at h4
      have h5 := h4.symm.mul0' (a := c t)
      rw [← sm_mul] at h5
      refine Em.trans (Em.of (sm_congr fun i _ => ?_)) h5
      rw [colS_pos e, ← Int.mul_assoc, Int.mul_comm (a i), Int.mul_assoc]
  · intro h i hi
    rw [dep_inS hs]
    refine perp_in hp fun a ha => ?_
    by_cases hsi : s.testBit i = true
    · have := ha i hi
      refine Em.trans (Em.of (sm_congr fun r _ => ?_)) this
      rw [colS_pos hsi]
    · refine h (fun r => sm 6 fun t => X r t * a t) (fun j hj => ?_) i hi (by rw [cpl_bit hs]; simp [hi]; simpa using hsi)
      have h3 : Em p (sm n fun r => (sm 6 fun t => X r t * a t) * colS (2 ^ n - 1 - s) K r j) (sm n fun r => (sm 6 fun t => X r t * a t) * K r j) := Em.sm fun r hr => by
        cases e : s.testBit r with
        | false =>
          rw [colS_pos (by rw [cpl_bit hs, e]; simpa using hr)]
          exact Em.refl _
        | true =>
          have h4 := ha r hr
          rw [sm_congr fun t _ => by rw [colS_pos e]] at h4
          exact h4.mul0.trans h4.mul0.symm
      refine h3.trans ?_
      have h4 : (sm n fun r => (sm 6 fun t => X r t * a t) * K r j) = sm 6 fun t => a t * sm n fun r => X r t * K r j := by
        rw [sm_congr fun t _ => (sm_mul (a t) (fun r => X r t * K r j) n).symm, sm_swap (fun t r => a t * (X r t * K r j))]
        refine sm_congr fun r _ => ?_
        rw [Int.mul_comm, ← sm_mul]
        exact sm_congr fun t _ => by rw [Int.mul_comm, Int.mul_comm (X r t), Int.mul_assoc]
      rw [h4]
      exact Em.sm0 fun t ht => Em.mul0' (h1 t j ht hj)
/-- So the bases of the one are what the bases of the other leave. -/
theorem dual_is (hp : isP p) (hn : n ≤ 8) {X K : Nat → Nat → Int} (h1 : ∀ i j, i < 6 → j < 6 → Em p (sm n fun r => X r i * K r j) 0) (h2 : ∀ v : Nat → Int, (∀ j, j < 6 → Em p (sm n fun r => K r j * v r) 0) → InS p n 6 (fun i r => X r i) v) (h3 : ∀ v : Nat → Int, (∀ j, j < 6 → Em p (sm n fun r => X r j * v r) 0) → InS p n 6 (fun i r => K r i) v) : cmp n (basR n (depR n (depC p X))) = basR n (depR n (depC p K)) := by
  have hX := (depC_dep hp X n).rkOn hn
  have hK := (depC_dep hp K n).rkOn hn
  rw [← basR_cmp hn (basR_fam n _) (hX.bas hn)]
  unfold basR
  refine List.filter_congr fun s hs => ?_
  have hs2 : s < 2 ^ n := List.mem_range.1 hs
  have m1 : s ∈ basR n (dualR n (rk (basR n (depR n (depC p X))))) ↔ s ∈ basR n (depR n (depC p K)) := by
    rw [basR_cmp hn (basR_fam n _) (hX.bas hn), mem_cmp (fun t ht => (mem_basR.1 ht).1), mem_basR, mem_basR]
    have a1 := span_dual hp hn h1 h2 (s := 2 ^ n - 1 - s) cpl_lt
    have a2 := span_dual hp hn (X := K) (K := X) (fun i j hi hj => by rw [dot_comm]; exact h1 j i hj hi) h3 hs2
    rw [show 2 ^ n - 1 - (2 ^ n - 1 - s) = s by omega] at a1
    rw [← hang_iff (depC_dep hp X n) hn cpl_lt] at a1
    rw [← hang_iff (depC_dep hp K n) hn hs2] at a2
    constructor
    · rintro ⟨-, -, b1, b2⟩
      exact ⟨hs2, a1.1 b2, a2.2 b1⟩
    · rintro ⟨-, b1, b2⟩
      exact ⟨hs2, cpl_lt, a2.1 b2, a1.2 b1⟩
  unfold basR at m1
  rw [List.mem_filter, List.mem_filter] at m1
  rw [Bool.eq_iff_iff]
  exact ⟨fun h => (m1.1 ⟨hs, h⟩).2, fun h => (m1.2 ⟨hs, h⟩).2⟩
end Go.Proofs.YtdabkgbbalooiaaDoor

namespace Go.Proofs.YtdabkgbbalooiaaDoor

/-- A word's bit, as a number. -/
def btZ (w j : Nat) : Int := if w.testBit j = true then 1 else 0
/-- A word times a row. -/
def dtZ (n : Nat) (g : Nat → Int) (w : Nat) : Int := sm n fun j => btZ w j * g j
/-- The sign of a number's rest modulo 2. -/
def chZ (a : Int) : Int := if a % 2 = 0 then 1 else -1
theorem em2 {a b : Int} : Em 2 a b ↔ a % 2 = b % 2 := by unfold Em; omega
theorem chZ_em {a b : Int} (h : Em 2 a b) : chZ a = chZ b := by
  unfold chZ
  rw [em2.1 h]
theorem chZ_add (a b : Int) : chZ (a + b) = chZ a * chZ b := by
  unfold chZ
  by_cases h1 : a % 2 = 0
  · by_cases h2 : b % 2 = 0
    · rw [if_pos h1, if_pos h2, if_pos (by omega)]; rfl
    · rw [if_pos h1, if_neg h2, if_neg (by omega)]; rfl
  · by_cases h2 : b % 2 = 0
    · rw [if_neg h1, if_pos h2, if_neg (by omega)]; rfl
    · rw [if_neg h1, if_neg h2, if_pos (by omega)]; rfl
theorem btZ_01 (w j : Nat) : btZ w j = 0 ∨ btZ w j = 1 := by
  unfold btZ
  cases w.testBit j
  · exact .inl rfl
  · exact .inr rfl
theorem btZ_xor (w z j : Nat) : Em 2 (btZ (w ^^^ z) j) (btZ w j + btZ z j) := by
  unfold btZ
  rw [Nat.testBit_xor, em2]
  cases w.testBit j <;> cases z.testBit j <;> rfl
theorem dt_xor (n : Nat) (g : Nat → Int) (w z : Nat) : Em 2 (dtZ n g (w ^^^ z)) (dtZ n g w + dtZ n g z) := by
  unfold dtZ
  rw [← sm_add]
  refine Em.sm fun j _ => ?_
  rw [← Int.add_mul]
  exact (btZ_xor w z j).mul (Em.refl _)
theorem xor_back (s z : Nat) : (s ^^^ z) ^^^ z = s := by rw [Nat.xor_assoc, Nat.xor_self, Nat.xor_zero]
theorem xor_perm {n z : Nat} (hz : z < 2 ^ n) : ((List.range (2 ^ n)).map (· ^^^ z)).Perm (List.range (2 ^ n)) := by
  refine (List.perm_ext_iff_of_nodup ?_ List.nodup_range).2 fun x => ?_
  · refine List.pairwise_map.2 (List.Pairwise.imp (fun {q r} hqr e' => hqr ?_) List.nodup_range)
    have e'' : (q ^^^ z) ^^^ z = (r ^^^ z) ^^^ z := congrArg (· ^^^ z) e'
    rwa [xor_back, xor_back] at e''
  · rw [List.mem_map, List.mem_range]
    constructor
    · rintro ⟨y, hy, rfl⟩
      exact Nat.xor_lt_two_pow (List.mem_range.1 hy) hz
    · intro hx
      exact ⟨x ^^^ z, List.mem_range.2 (Nat.xor_lt_two_pow hx hz), xor_back x z⟩
theorem tal_xor {n z : Nat} (hz : z < 2 ^ n) (F : Nat → Int) : tal (fun w => F (w ^^^ z)) (List.range (2 ^ n)) = tal F (List.range (2 ^ n)) := by
  rw [← tal_map F (· ^^^ z)]
  exact tal_perm F (xor_perm hz)
/-- There is a word with these bits. -/
theorem word_of (x : Nat → Int) : ∀ n, ∃ z, z < 2 ^ n ∧ ∀ j, j < n → Em 2 (btZ z j) (x j)
  | 0 => ⟨0, by decide, fun j hj => by omega⟩
  | n + 1 => by
    obtain ⟨z, hz, h⟩ := word_of x n
    have hp : 2 ^ n < 2 ^ (n + 1) := Nat.pow_lt_pow_right (by omega) (by omega)
    have h0 : z.testBit n = false := Nat.testBit_lt_two_pow hz
    by_cases e : x n % 2 = 0
    · refine ⟨z, by omega, fun j hj => ?_⟩
      by_cases ej : j = n
      · subst ej
        unfold btZ
        rw [h0, em2, e]
        rfl
      · exact h j (by omega)
    · refine ⟨z ||| 2 ^ n, Nat.or_lt_two_pow (by omega) hp, fun j hj => ?_⟩
      by_cases ej : j = n
      · subst ej
        unfold btZ
        rw [or_bit, em2]
        simp
        omega
      · have h1 := h j (by omega)
        unfold btZ at h1 ⊢
        rw [or_bit, show decide (n = j) = false by simp; omega, Bool.or_false]
        exact h1
/-- The word comes to nought with the first t rows. -/
def inZ (n : Nat) (g : Nat → Nat → Int) (t w : Nat) : Bool := (List.range t).all fun s => dtZ n (g s) w % 2 == 0
variable {n t k c w z : Nat} {g f H : Nat → Nat → Int}
theorem inZ_iff : inZ n g t w = true ↔ ∀ s, s < t → Em 2 (dtZ n (g s) w) 0 := by
  unfold inZ
  rw [List.all_eq_true]
  constructor
  · intro h s hs
    have := h s (List.mem_range.2 hs)
    rw [em2]
    simpa using this
  · intro h s hs
    have := em2.1 (h s (List.mem_range.1 hs))
    simpa using this
theorem inZ_succ : inZ n g (t + 1) w = (inZ n g t w && (dtZ n (g t) w % 2 == 0)) := by simp [inZ, List.range_succ]
theorem inZ_xor (hz : inZ n g t z = true) : inZ n g t (w ^^^ z) = inZ n g t w := by
  rw [Bool.eq_iff_iff, inZ_iff, inZ_iff]
  have h := inZ_iff.1 hz
  constructor
  · intro h1 s hs
    have a := em2.1 (h1 s hs)
    have b := em2.1 (dt_xor n (g s) w z)
    have d := em2.1 (h s hs)
    exact em2.2 (by omega)
  · intro h1 s hs
    have a := em2.1 (h1 s hs)
    have b := em2.1 (dt_xor n (g s) w z)
    have d := em2.1 (h s hs)
    exact em2.2 (by omega)
def cnZ (n : Nat) (g : Nat → Nat → Int) (t : Nat) : Int := tal (fun w => if inZ n g t w = true then 1 else 0) (List.range (2 ^ n))
theorem inZ_in {v : Nat → Int} (hv : InS 2 n t g v) (h : inZ n g t w = true) : Em 2 (dtZ n v w) 0 := by
  have := orth_in (w := btZ w) hv fun j hj => by
    have := inZ_iff.1 h j hj
    unfold dtZ at this
    rw [dot_comm]
    exact this
  unfold dtZ
  rw [dot_comm]
  exact this
theorem cn_same (h : InS 2 n t g (g t)) : cnZ n g (t + 1) = cnZ n g t := by
  unfold cnZ
  refine tal_congr fun w _ => ?_
  rw [inZ_succ]
  cases e : inZ n g t w
  · rfl
  · have := em2.1 (inZ_in h e)
    rw [this]
    rfl
theorem cn_half (h : ¬ InS 2 n t g (g t)) : 2 * cnZ n g (t + 1) = cnZ n g t := by
  obtain ⟨z, hz, z1, z2⟩ : ∃ z, z < 2 ^ n ∧ inZ n g t z = true ∧ ¬ Em 2 (dtZ n (g t) z) 0 := by
    apply Classical.byContradiction
    intro hn
    refine h (perp_in (.inl rfl) fun a ha => ?_)
    obtain ⟨z, hz, hza⟩ := word_of a n
    have e : ∀ s, Em 2 (dtZ n (g s) z) (sm n fun r => g s r * a r) := fun s => by
      unfold dtZ
      refine Em.sm fun r hr => ?_
      rw [Int.mul_comm]
      exact (Em.refl _).mul (hza r hr)
    apply Classical.byContradiction
    intro h2
    exact hn ⟨z, hz, inZ_iff.2 fun s hs => (e s).trans (ha s hs), fun h3 => h2 ((e t).symm.trans h3)⟩
  have h1 := tal_xor hz fun w => if inZ n g (t + 1) w = true then (1 : Int) else 0
  have h2 : tal (fun w => if inZ n g (t + 1) (w ^^^ z) = true then (1 : Int) else 0) (List.range (2 ^ n)) + cnZ n g (t + 1) = cnZ n g t := by
    unfold cnZ
    rw [← tal_add]
    refine tal_congr fun w _ => ?_
    rw [inZ_succ, inZ_succ, inZ_xor z1]
    have a := em2.1 (dt_xor n (g t) w z)
    have b : ¬ dtZ n (g t) z % 2 = 0 % 2 := fun e => z2 (em2.2 e)
    cases inZ n g t w
    · rfl
    · by_cases e : dtZ n (g t) w % 2 = 0
      · rw [if_neg (by simp; omega), if_pos (by simp; omega)]; rfl
      · rw [if_pos (by simp; omega), if_neg (by simp; omega)]; rfl
  unfold cnZ at *
  omega
theorem cn_zero : cnZ n g 0 = 2 ^ n := by
  unfold cnZ
  have : tal (fun w => if inZ n g 0 w = true then (1 : Int) else 0) (List.range (2 ^ n)) = tal (fun _ => 1) (List.range (2 ^ n)) := tal_congr fun w _ => by simp [inZ]
  rw [this, tal_const]
  simp
theorem sm_cut {s : Nat → Int} {t : Nat} : ∀ {k : Nat}, t ≤ k → (∀ i, t ≤ i → i < k → s i = 0) → sm k s = sm t s
  | 0, h, _ => by rw [show t = 0 by omega]
  | k + 1, h, h0 => by
    by_cases e : t = k + 1
    · rw [e]
    · show sm k s + s k = _
      rw [sm_cut (k := k) (by omega) fun i a b => h0 i a (by omega), h0 k (by omega) (by omega), Int.add_zero]
theorem free_not (hf : FreeM 2 n k f) (ht : t < k) : ¬ InS 2 n t f (f t) := by
  rintro ⟨c, hc⟩
  have := hf (fun i => if i < t then c i else if i = t then -1 else 0) (fun r hr => ?_) t ht
  · rw [if_neg (by omega), if_pos rfl, em2] at this
    exact absurd this (by decide)
  · rw [sm_cut (t := t + 1) (by omega) fun i a b => by rw [if_neg (by omega), if_neg (by omega), Int.zero_mul]]
    show Em 2 (sm t _ + (if t < t then c t else if t = t then -1 else 0) * f t r) 0
    rw [if_neg (by omega), if_pos rfl, sm_congr (t := fun j => c j * f j r) fun i hi => by rw [if_pos hi]]
    have := hc r hr
    unfold Em at this ⊢
    omega
theorem cn_free (hf : FreeM 2 n k f) : ∀ t, t ≤ k → cnZ n f t * 2 ^ t = 2 ^ n
  | 0, _ => by rw [cn_zero]; simp
  | t + 1, h => by
    have ih := cn_free hf t (by omega)
    have := cn_half (free_not hf (t := t) (by omega))
    rw [← ih, ← this, Int.pow_succ, ← Int.mul_assoc, Int.mul_right_comm, Int.mul_comm 2]
theorem inZ_congr (h : ∀ s, s < t → g s = f s) : inZ n g t w = inZ n f t w := by
  rw [Bool.eq_iff_iff, inZ_iff, inZ_iff]
  exact ⟨fun h1 s hs => by rw [← h s hs]; exact h1 s hs, fun h1 s hs => by rw [h s hs]; exact h1 s hs⟩
theorem cn_congr (h : ∀ s, s < t → g s = f s) : cnZ n g t = cnZ n f t := by
  unfold cnZ
  exact tal_congr fun w _ => by rw [inZ_congr h]
/-- Rows with the same sums. -/
theorem inZ_span (h1 : ∀ i, i < t → InS 2 n k f (g i)) (h2 : ∀ i, i < k → InS 2 n t g (f i)) : inZ n g t w = inZ n f k w := by
  rw [Bool.eq_iff_iff]
  constructor
  · intro h
    exact inZ_iff.2 fun s hs => inZ_in (h2 s hs) h
  · intro h
    exact inZ_iff.2 fun s hs => inZ_in (h1 s hs) h
theorem cn_span (h1 : ∀ i, i < t → InS 2 n k f (g i)) (h2 : ∀ i, i < k → InS 2 n t g (f i)) : cnZ n g t = cnZ n f k := by
  unfold cnZ
  exact tal_congr fun w _ => by rw [inZ_span h1 h2]
/-- The rows, and behind them those with one 1, at each element of a set. -/
def elA (c : Nat) (H : Nat → Nat → Int) (A s r : Nat) : Int := if s < c then H s r else if A.testBit (s - c) = true ∧ r = s - c then 1 else 0
theorem elA_lo {A s : Nat} (h : s < c) : elA c H A s = H s := funext fun _ => if_pos h
theorem elA_hit {A j : Nat} (h : A.testBit j = true) (r : Nat) : elA c H A (c + j) r = if r = j then 1 else 0 := by
  unfold elA
  rw [if_neg (by omega), show c + j - c = j by omega, h]
  simp
theorem elA_miss {A j : Nat} (h : A.testBit j = false) (r : Nat) : elA c H A (c + j) r = 0 := by
  unfold elA
  rw [if_neg (by omega), show c + j - c = j by omega, h]
  simp
theorem sm_split (s : Nat → Int) (c : Nat) : ∀ k, sm (c + k) s = sm c s + sm k fun j => s (c + j)
  | 0 => by show sm c s = sm c s + 0; omega
  | k + 1 => by
    show sm (c + k) s + s (c + k) = sm c s + (sm k _ + s (c + k))
    rw [sm_split s c k]; omega
theorem sm_pick (x : Nat → Int) {r k : Nat} : (sm k fun j => if r = j then x j else 0) = if r < k then x r else 0 := by
  induction k with
  | zero => rfl
  | succ k ih =>
    show sm k _ + (if r = k then x k else 0) = _
    rw [ih]
    by_cases e : r = k
    · subst e; rw [if_neg (by omega), if_pos rfl, if_pos (by omega)]; omega
    · rw [if_neg e]
      by_cases e2 : r < k
      · rw [if_pos e2, if_pos (by omega)]; omega
      · rw [if_neg e2, if_neg (by omega)]; omega
variable {col : Nat → Nat → Int}
/-- A column hangs on those ahead just if its row of one 1 is a sum of kernel rows and such rows. -/
theorem el_dep (h1 : ∀ i, i < 6 → ∀ s, s < c → Em 2 (sm n fun r => col r i * H s r) 0) (h2 : ∀ v : Nat → Int, (∀ i, i < 6 → Em 2 (sm n fun r => col r i * v r) 0) → InS 2 n c H v) {A : Nat} (hA : A < 2 ^ n) {k : Nat} (hk : k < n) (hAk : A.testBit k = true) :
    depC 2 col (lo A k) k ↔ InS 2 n (c + k) (elA c H A) (elA c H A (c + k)) := by
  rw [dep_inS (lo_ltn hA k)]
  constructor
  · rintro ⟨x, hx⟩
    have hv := h2 (fun r => (if r = k then 1 else 0) - if r < k then (if A.testBit r = true then x r else 0) else 0) fun i hi => by
      have := hx i hi
      rw [sm_congr (t := fun r => (if r = k then col k i else 0) + -(if r < k then (if A.testBit r = true then x r * col r i else 0) else 0)) fun r hr => ?_]
      · rw [sm_add, sm_congr (n := n) (t := fun r => if k = r then col r i else 0) (s := fun r => if r = k then col k i else 0) fun r _ => ?_, sm_pick, if_pos hk, sm_congr (t := fun r => -1 * (x r * colS (lo A k) col r i)) fun r hr => ?_, sm_mul]
        · unfold Em at this ⊢
          omega
        · rw [Int.neg_mul, Int.one_mul]
          unfold colS
          rw [lo_bit]
          by_cases e : r < k
          · cases A.testBit r <;> simp [e]
          · simp [e]
        · by_cases e : r = k
          · subst e; simp
          · rw [if_neg e, if_neg fun h => e h.symm]
      · rw [Int.mul_sub]
        by_cases e : r = k
        · subst e; simp
        · by_cases e2 : r < k
          · cases A.testBit r
            · simp [e]
            · simp [e, e2, Int.mul_comm (x r)]
          · simp [e, e2]
    have hw : InS 2 n (c + k) (elA c H A) fun r => sm k fun j => x j * elA c H A (c + j) r := InS.sum x fun i hi => InS.of (by omega)
    have hv' := hv.trans (n := c + k) (g := elA c H A) fun i hi => by
      rw [← elA_lo (H := H) (A := A) hi]
      exact InS.of (by omega)
    refine (hv'.lin hw 1).cg fun r hr => Em.of ?_
    rw [elA_hit hAk, Int.one_mul, sm_congr (t := fun j => if r = j then (if A.testBit j = true then x j else 0) else 0) fun j _ => ?_, sm_pick]
    · omega
    · cases e : A.testBit j
      · rw [elA_miss e]; simp
      · rw [elA_hit e]
        by_cases e2 : r = j <;> simp [e2]
  · rintro ⟨y, hy⟩
    refine ⟨fun j => if j < k then y (c + j) else 0, fun i hi => ?_⟩
    have h3 : Em 2 (sm n fun r => elA c H A (c + k) r * col r i) (sm n fun r => (sm (c + k) fun s => y s * elA c H A s r) * col r i) := Em.sm fun r hr => (hy r hr).mul (Em.refl _)
    rw [sm_congr (t := fun r => if k = r then col r i else 0) fun r _ => ?_, sm_pick, if_pos hk] at h3
    · refine h3.trans ?_
      rw [sm_congr (t := fun r => (sm c fun s => y s * (col r i * H s r)) + if r < k then (if A.testBit r = true then y (c + r) * col r i else 0) else 0) fun r hr => ?_, sm_add, sm_swap]
      · refine Em.trans (b := 0 + sm n fun r => if r < k then (if A.testBit r = true then y (c + r) * col r i else 0) else 0) ((Em.sm0 fun s hs => ?_).add (Em.refl _)) (Em.of ?_)
        · rw [sm_mul]
          exact (h1 i hi s hs).mul0'
        · rw [Int.zero_add]
          refine sm_congr fun r _ => ?_
          unfold colS
          rw [lo_bit]
          by_cases e : r < k
          · cases A.testBit r <;> simp [e]
          · simp [e]
      · rw [sm_split, Int.add_mul, sm_congr (n := k) (t := fun j => if r = j then (if A.testBit j = true then y (c + j) else 0) else 0) fun j _ => ?_, sm_pick, Int.mul_comm (sm c _), ← sm_mul]
        · congr 1
          · refine sm_congr fun s hs => ?_
            rw [elA_lo hs, Int.mul_left_comm]
          · by_cases e : r < k
            · cases A.testBit r <;> simp [e]
            · simp [e]
        · cases e : A.testBit j
          · rw [elA_miss e]; simp
          · rw [elA_hit e]
            by_cases e2 : r = j <;> simp [e2]
    · rw [elA_hit hAk]
      by_cases e : r = k
      · subst e; simp
      · rw [if_neg e, if_neg fun h => e h.symm, Int.zero_mul]
theorem rank_cn (hH : FreeM 2 n c H) (h1 : ∀ i, i < 6 → ∀ s, s < c → Em 2 (sm n fun r => col r i * H s r) 0) (h2 : ∀ v : Nat → Int, (∀ i, i < 6 → Em 2 (sm n fun r => col r i * v r) 0) → InS 2 n c H v) {A : Nat} (hA : A < 2 ^ n) :
    ∀ k, k ≤ n → cnZ n (elA c H A) (c + k) * 2 ^ (c + depTo (depC 2 col) A k) = 2 ^ n
  | 0, _ => by
    show cnZ n (elA c H A) c * 2 ^ c = 2 ^ n
    rw [cn_congr fun s hs => elA_lo hs]
    exact cn_free hH c (Nat.le_refl _)
  | k + 1, hk => by
    have ih := rank_cn hH h1 h2 hA k (by omega)
    unfold depTo
    by_cases e : A.testBit k = true
    · by_cases d : depC 2 col (lo A k) k
      · rw [if_neg fun h => h.2 d, ← Nat.add_assoc, cn_same ((el_dep h1 h2 hA (by omega) e).1 d)]
        exact ih
      · rw [if_pos ⟨e, d⟩, ← Nat.add_assoc, ← Nat.add_assoc]
        have := cn_half fun h => d ((el_dep h1 h2 hA (by omega) e).2 h)
        rw [← ih, ← this, Int.pow_succ, ← Int.mul_assoc, Int.mul_right_comm, Int.mul_comm 2]
    · rw [if_neg fun h => e h.1, ← Nat.add_assoc, cn_same (InS.zero.cg fun r _ => Em.of (elA_miss (by simpa using e) r))]
      exact ih
end Go.Proofs.YtdabkgbbalooiaaDoor

namespace Go.Proofs.YtdabkgbbalooiaaDoor

/-- The product of what the elements of a set have. -/
def pwZ : Nat → Nat → (Nat → Int) → Int
  | 0, _, _ => 1
  | k + 1, A, x => pwZ k A x * if A.testBit k = true then x k else 1
def prZ : Nat → (Nat → Int) → Int
  | 0, _ => 1
  | k + 1, x => prZ k x * (1 + x k)
theorem pw_congr {A B : Nat} {x y : Nat → Int} : ∀ {k : Nat}, (∀ j, j < k → A.testBit j = B.testBit j) → (∀ j, j < k → x j = y j) → pwZ k A x = pwZ k B y
  | 0, _, _ => rfl
  | k + 1, h, h' => by
    show pwZ k A x * _ = pwZ k B y * _
    rw [pw_congr (k := k) (fun j hj => h j (by omega)) fun j hj => h' j (by omega), h k (by omega), h' k (by omega)]
theorem pw_mul (A : Nat) (x y : Nat → Int) : ∀ k, pwZ k A x * pwZ k A y = pwZ k A fun j => x j * y j
  | 0 => rfl
  | k + 1 => by
    show pwZ k A x * _ * (pwZ k A y * _) = pwZ k A _ * _
    rw [← pw_mul A x y k]
    cases A.testBit k
    · simp
    · simp only [if_pos]
      rw [Int.mul_assoc, Int.mul_left_comm (x k), ← Int.mul_assoc]
theorem pw_pop {A : Nat} (hA : A < 256) : ∀ k, k ≤ 8 → pwZ k A (fun _ => -2) = (-2) ^ pop (lo A k)
  | 0, _ => by rw [lo_zero]; show (1 : Int) = (-2) ^ pop 0; decide
  | k + 1, hk => by
    show pwZ k A _ * _ = _
    rw [pw_pop hA k (by omega)]
    cases e : A.testBit k
    · rw [lo_miss e]; simp
    · rw [lo_hit e, pop_ad _ (lo_ltn (n := 8) hA k) k (by omega) (by rw [lo_bit]; simp), Int.pow_succ]; simp
theorem pw_sum (x : Nat → Int) : ∀ n, tal (fun A => pwZ n A x) (List.range (2 ^ n)) = prZ n x
  | 0 => by show pwZ 0 0 x + 0 = 1; rfl
  | n + 1 => by
    rw [show 2 ^ (n + 1) = 2 ^ n + 2 ^ n by rw [Nat.pow_succ]; omega, List.range_add, tal_append, tal_map]
    show _ = prZ n x * (1 + x n)
    rw [← pw_sum x n, Int.mul_add, Int.mul_one]
    congr 1
    · refine tal_congr fun A hA => ?_
      show pwZ n A x * _ = _
      rw [Nat.testBit_lt_two_pow (List.mem_range.1 hA)]
      simp
    · rw [Int.mul_comm, ← tal_mul (x n)]
      refine tal_congr fun A hA => ?_
      show pwZ n (2 ^ n + A) x * _ = _
      rw [Nat.testBit_two_pow_add_eq, Nat.testBit_lt_two_pow (List.mem_range.1 hA), pw_congr (fun j hj => Nat.testBit_two_pow_add_gt hj A) fun _ _ => rfl, Int.mul_comm]
      simp
theorem pr_ch (u v : Nat) : ∀ k, prZ k (fun j => -2 * ((1 - btZ u j) * (1 - btZ v j))) = (-1) ^ k * (chZ (sm k fun j => btZ u j) * chZ (sm k fun j => btZ v j * (1 + btZ u j)))
  | 0 => by show (1 : Int) = (-1) ^ 0 * (chZ 0 * chZ 0); decide
  | k + 1 => by
    show prZ k _ * _ = (-1) ^ (k + 1) * (chZ (sm k _ + btZ u k) * chZ (sm k _ + btZ v k * (1 + btZ u k)))
    rw [pr_ch u v k, chZ_add, chZ_add, Int.pow_succ]
    have key : (1 : Int) + -2 * ((1 - btZ u k) * (1 - btZ v k)) = -1 * (chZ (btZ u k) * chZ (btZ v k * (1 + btZ u k))) := by
      rcases btZ_01 u k with h | h <;> rcases btZ_01 v k with h' | h' <;> rw [h, h'] <;> decide
    rw [key]
    generalize chZ (sm k _) = a
    generalize chZ (sm k _) = b
    generalize chZ (btZ u k) = d
    generalize chZ (btZ v k * _) = e
    generalize ((-1 : Int) ^ k) = q
    simp only [Int.mul_assoc, Int.mul_left_comm, Int.mul_comm]
variable {n c : Nat} {H col : Nat → Nat → Int}
/-- 1 for a word of the rows. -/
def cwZ (n : Nat) (H : Nat → Nat → Int) (c w : Nat) : Int := if inZ n H c w = true then 1 else 0
theorem ind_pw {A w : Nat} : ∀ k, k ≤ n → (if inZ n (elA c H A) (c + k) w = true then (1 : Int) else 0) = cwZ n H c w * pwZ k A fun j => 1 - btZ w j
  | 0, _ => by
    show (if inZ n (elA c H A) c w = true then (1 : Int) else 0) = cwZ n H c w * 1
    rw [inZ_congr fun s hs => elA_lo hs, Int.mul_one]
    rfl
  | k + 1, hk => by
    show _ = cwZ n H c w * (pwZ k A _ * _)
    rw [← Int.mul_assoc, ← ind_pw k (by omega), ← Nat.add_assoc, inZ_succ]
    have hd : dtZ n (elA c H A (c + k)) w = if A.testBit k = true then btZ w k else 0 := by
      unfold dtZ
      cases e : A.testBit k
      · rw [sm_congr (t := fun _ => 0) fun j _ => by rw [elA_miss e, Int.mul_zero], sm_zero]; rfl
      · rw [sm_congr (t := fun j => if k = j then btZ w j else 0) fun j _ => ?_, sm_pick, if_pos (by omega)]
        · rfl
        · rw [elA_hit e]
          by_cases e2 : j = k
          · subst e2; simp
          · rw [if_neg e2, if_neg fun h => e2 h.symm, Int.mul_zero]
    rw [hd]
    cases inZ n (elA c H A) (c + k) w
    · simp
    · cases A.testBit k
      · simp
      · show (if (true && btZ w k % 2 == 0) = true then (1 : Int) else 0) = 1 * (1 - btZ w k)
        rcases btZ_01 w k with h | h <;> rw [h] <;> decide
/-- The sum over all sets, by pairs of words. -/
theorem pairs_sum (hn : n ≤ 8) : tal (fun A => (-2) ^ pop A * (cnZ n (elA c H A) (c + n) * cnZ n (elA c H A) (c + n))) (List.range (2 ^ n)) =
    (-1) ^ n * tal (fun u => cwZ n H c u * (chZ (sm n fun j => btZ u j) * tal (fun v => cwZ n H c v * chZ (dtZ n (fun j => 1 + btZ u j) v)) (List.range (2 ^ n)))) (List.range (2 ^ n)) := by
  have hN : ∀ A, cnZ n (elA c H A) (c + n) = tal (fun w => cwZ n H c w * pwZ n A fun j => 1 - btZ w j) (List.range (2 ^ n)) := fun A => by
    unfold cnZ
    exact tal_congr fun w _ => ind_pw n (Nat.le_refl _)
  have h1 : ∀ A ∈ List.range (2 ^ n), (-2) ^ pop A * (cnZ n (elA c H A) (c + n) * cnZ n (elA c H A) (c + n)) = tal (fun u => tal (fun v => cwZ n H c u * (cwZ n H c v * pwZ n A fun j => -2 * ((1 - btZ u j) * (1 - btZ v j)))) (List.range (2 ^ n))) (List.range (2 ^ n)) := fun A hA => by
    have hA2 := List.mem_range.1 hA
    have hA8 : A < 256 := lt256 hn hA2
    have hP := pw_pop hA8 n hn
    rw [lo_all hA2] at hP
    rw [← hP]
    have h2 : ∀ u v, cwZ n H c u * (cwZ n H c v * pwZ n A fun j => -2 * ((1 - btZ u j) * (1 - btZ v j))) = pwZ n A (fun _ => -2) * (cwZ n H c u * pwZ n A fun j => 1 - btZ u j) * (cwZ n H c v * pwZ n A fun j => 1 - btZ v j) := fun u v => by
      rw [← pw_mul, ← pw_mul]
      generalize pwZ n A _ = a
      generalize pwZ n A _ = b
      generalize pwZ n A _ = d
      simp only [Int.mul_assoc, Int.mul_left_comm, Int.mul_comm]
    rw [tal_congr (G := fun u => pwZ n A (fun _ => -2) * cnZ n (elA c H A) (c + n) * (cwZ n H c u * pwZ n A fun j => 1 - btZ u j)) fun u _ => ?_, tal_mul, ← hN, Int.mul_assoc]
    rw [tal_congr fun v _ => h2 u v, tal_mul, ← hN, Int.mul_right_comm]
  rw [tal_congr h1, tal_swapT, ← tal_mul]
  refine tal_congr fun u _ => ?_
  rw [tal_swapT, ← Int.mul_assoc, ← Int.mul_assoc, ← tal_mul]
  refine tal_congr fun v _ => ?_
  rw [tal_mul, tal_mul, pw_sum, pr_ch]
  unfold dtZ
  generalize chZ _ = a
  generalize chZ _ = b
  simp only [Int.mul_assoc, Int.mul_left_comm, Int.mul_comm]
end Go.Proofs.YtdabkgbbalooiaaDoor

namespace Go.Proofs.YtdabkgbbalooiaaDoor

/-- how many of the first k bases have so many active elements -/
def tcn (n : Nat) (l : List Nat) (k i j : Nat) : Nat := ((l.take k).filter fun b => pop (actI l b n) == i && pop (actO l b n) == j).length
def ttN (n : Nat) (l : List Nat) (i j : Nat) : Nat := (l.filter fun b => pop (actI l b n) == i && pop (actO l b n) == j).length
theorem tcn_zero (n : Nat) (l : List Nat) (i j : Nat) : tcn n l 0 i j = 0 := rfl
theorem tcn_full (n : Nat) (l : List Nat) (i j : Nat) : tcn n l l.length i j = ttN n l i j := by unfold tcn ttN; rw [List.take_length]
theorem tcn_step {n : Nat} {l : List Nat} {k : Nat} (hk : k < l.length) (i j : Nat) : tcn n l (k + 1) i j = if pop (actI l (l.getD k 0) n) = i ∧ pop (actO l (l.getD k 0) n) = j then tcn n l k i j + 1 else tcn n l k i j := by
  unfold tcn
  have e : l.getD k 0 = l[k] := by simp [List.getD, hk]
  rw [List.take_succ_eq_append_getElem hk, List.filter_append, List.length_append, e, List.filter_cons]
  by_cases h : pop (actI l l[k] n) = i ∧ pop (actO l l[k] n) = j
  · rw [if_pos h, if_pos (by simp [h.1, h.2])]; rfl
  · rw [if_neg h, if_neg (by simp; exact fun h1 h2 => h ⟨h1, h2⟩)]; rfl
theorem tcn_le (n : Nat) (l : List Nat) (k i j : Nat) : tcn n l k i j ≤ l.length :=
  Nat.le_trans (List.length_filter_le _ _) (by rw [List.length_take]; omega)
theorem ttN_le (n : Nat) (l : List Nat) (i j : Nat) : ttN n l i j ≤ l.length := List.length_filter_le _ _
theorem tt_wt (n : Nat) (l : List Nat) (i j : Nat) : (ttN n l i j : Int) = wt n l fun a b => if a = i ∧ b = j then 1 else 0 := by
  unfold ttN wt
  have : ∀ k : List Nat, ((k.filter fun b => pop (actI l b n) == i && pop (actO l b n) == j).length : Int) = tal (fun b => if pop (actI l b n) = i ∧ pop (actO l b n) = j then 1 else 0) k := fun k => by
    induction k with
    | nil => rfl
    | cons a k ih =>
      simp only [tal, List.filter_cons]
      by_cases h : pop (actI l a n) = i ∧ pop (actO l a n) = j
      · rw [if_pos h, if_pos (by simp [h.1, h.2]), List.length_cons, ← ih]; omega
      · rw [if_neg h, if_neg (by simp; exact fun h1 h2 => h ⟨h1, h2⟩), ih]; omega
  exact this l
theorem actI_pop {n : Nat} {l : List Nat} (hf : Fam n l) (hb : Bas l) {b : Nat} (hbl : b ∈ l) : pop (actI l b n) ≤ rk l (2 ^ n - 1) := by
  rw [bas_top hf hb hbl]
  exact pop_sub (actI_sub l b n)
theorem actO_pop {n : Nat} {l : List Nat} (hn : n ≤ 8) (hf : Fam n l) (hb : Bas l) {b : Nat} (hbl : b ∈ l) : pop (actO l b n) + rk l (2 ^ n - 1) ≤ n := by
  rw [bas_top hf hb hbl]
  have h1 := pop_or_and (actO l b n) b
  rw [actO_out, show pop 0 = 0 from rfl] at h1
  have h2 := pop_sub (full_sub (Nat.or_lt_two_pow (actO_lt l b n) (hf.lt b hbl)))
  rw [popB_full n hn] at h2
  omega
theorem rank_n {n : Nat} {l : List Nat} (hn : n ≤ 8) (hb : Bas l) : rk l (2 ^ n - 1) ≤ n := by
  have := hb.rk.le (2 ^ n - 1)
  rwa [popB_full n hn] at this
theorem fam_lenT {n : Nat} {l : List Nat} (hn : n ≤ 8) (hf : Fam n l) : l.length ≤ 256 := by
  have h1 : l.Sublist (List.range (2 ^ n)) := by
    have h2 : (List.range (2 ^ n)).filter (fun s => memB s l) = l := by
      refine sorted_ext (List.pairwise_lt_range.filter _) hf.up fun s => ?_
      rw [List.mem_filter, List.mem_range]
      unfold memB
      simp
      exact hf.lt s
    rw [← h2]
    exact List.filter_sublist
  have := h1.length_le
  rw [List.length_range] at this
  exact Nat.le_trans this (Nat.pow_le_pow_right (by omega) hn : 2 ^ n ≤ 2 ^ 8)
end Go.Proofs.YtdabkgbbalooiaaDoor

namespace Go.Proofs.YtdabkgbbalooiaaDoor

theorem tt_zero {n : Nat} {l : List Nat} (hn : n ≤ 8) (hf : Fam n l) (hb : Bas l) {i j : Nat} (h : rk l (2 ^ n - 1) < i ∨ n - rk l (2 ^ n - 1) < j) : ttN n l i j = 0 := by
  unfold ttN
  rw [List.length_eq_zero_iff, List.filter_eq_nil_iff]
  intro b hbl
  have h1 := actI_pop hf hb hbl
  have h2 := actO_pop hn hf hb hbl
  simp
  intro e
  omega
/-- the coefficient, nought beyond the table -/
def atZ (N M : Nat) (f : Nat → Nat → Int) (i j : Int) : Int := if 0 ≤ i ∧ 0 ≤ j ∧ i < N ∧ j < M then f i.toNat j.toNat else 0
theorem at_nat {n : Nat} {l : List Nat} (hn : n ≤ 8) (hf : Fam n l) (hb : Bas l) (i j : Nat) : atZ (rk l (2 ^ n - 1) + 1) (n - rk l (2 ^ n - 1) + 1) (fun i j => (ttN n l i j : Int)) i j = ttN n l i j := by
  unfold atZ
  split
  · simp
  · rename_i h
    rw [tt_zero hn hf hb (by omega)]; rfl
theorem at_neg1 (N M : Nat) (f : Nat → Nat → Int) (j : Int) : atZ N M f (-1) j = 0 := by unfold atZ; rw [if_neg (by omega)]
theorem at_neg2 (N M : Nat) (f : Nat → Nat → Int) (i : Int) : atZ N M f i (-1) = 0 := by unfold atZ; rw [if_neg (by omega)]
/-- what a coefficient is, by the minors -/
theorem tt_loop {n e : Nat} {l : List Nat} (hn : n ≤ 8) (he : e < n) (hf : Fam n l) (hb : Bas l) (h0 : rk l (2 ^ e) = 0) (p q : Nat) : (ttN n l p q : Int) = if q = 0 then 0 else ttN (n - 1) (minL n l (2 ^ e) 0) p (q - 1) := by
  rw [tt_wt, wt_del hn he hf hb h0]
  cases q with
  | zero =>
    rw [if_pos rfl]
    unfold wt
    rw [tal_congr (G := fun _ => 0) (fun b _ => by dsimp only; rw [if_neg (by omega)]), tal_const, Int.zero_mul]; try rfl
  | succ q =>
    rw [if_neg (by omega), Nat.add_sub_cancel, tt_wt]
    congr 1
    funext i j
    simp
theorem tt_bridge {n e : Nat} {l : List Nat} (hn : n ≤ 8) (he : e < n) (hf : Fam n l) (hb : Bas l) (h0 : rk l (dif (2 ^ n - 1) (2 ^ e)) < rk l (2 ^ n - 1)) (p q : Nat) : (ttN n l p q : Int) = if p = 0 then 0 else ttN (n - 1) (minL n l (2 ^ e) (2 ^ e)) (p - 1) q := by
  rw [tt_wt, wt_con hn he hf hb h0]
  cases p with
  | zero =>
    rw [if_pos rfl]
    unfold wt
    rw [tal_congr (G := fun _ => 0) (fun b _ => by dsimp only; rw [if_neg (by omega)]), tal_const, Int.zero_mul]; try rfl
  | succ p =>
    rw [if_neg (by omega), Nat.add_sub_cancel, tt_wt]
    congr 1
    funext i j
    simp
theorem tt_both {n e : Nat} {l : List Nat} (hn : n ≤ 8) (he : e < n) (hf : Fam n l) (hb : Bas l) (h0 : rk l (2 ^ e) ≠ 0) (h1 : ¬ rk l (dif (2 ^ n - 1) (2 ^ e)) < rk l (2 ^ n - 1)) (p q : Nat) : (ttN n l p q : Int) = ttN (n - 1) (minL n l (2 ^ e) 0) p q + ttN (n - 1) (minL n l (2 ^ e) (2 ^ e)) p q := by
  rw [tt_wt, wt_dc hn he hf hb h0 h1, ← tt_wt, ← tt_wt]
theorem tal_pickT (F : Nat → Int) {a n : Nat} (h : a < n) : tal (fun i => if a = i then F i else 0) (List.range n) = F a := by
  induction n with
  | zero => omega
  | succ n ih =>
    have e1 : tal (fun i => if a = i then F i else 0) (List.range (n + 1)) = tal (fun i => if a = i then F i else 0) (List.range n) + (if a = n then F n else 0) := by
      rw [List.range_succ, tal_append]; simp [tal]
    rw [e1]
    by_cases e : a = n
    · subst e
      rw [tal_congr (G := fun _ => 0) (fun i hi => by rw [if_neg (by have := List.mem_range.1 hi; omega)]), tal_const, if_pos rfl]
      omega
    · rw [ih (by omega), if_neg e]; omega
theorem tal_pickO (F : Nat → Int) {a n : Nat} (h : ¬ a < n) : tal (fun i => if a = i then F i else 0) (List.range n) = 0 := by
  rw [tal_congr (G := fun _ => 0) (fun i hi => by rw [if_neg (by have := List.mem_range.1 hi; omega)]), tal_const, Int.zero_mul]
/-- the product of two -/
def prodZ (f h : Nat → Nat → Int) (p q c d : Nat) : Int := tal (fun c => tal (fun d => f c d * h (p - c) (q - d)) (List.range (q + 1))) (List.range c) + tal (fun d => f c d * h (p - c) (q - d)) (List.range d)
theorem tt_sum {n k : Nat} {l l' : List Nat} (hnk : n + k ≤ 8) (hf : Fam n l) (hb : Bas l) (hf' : Fam k l') (hb' : Bas l') (p q : Nat) : (ttN (n + k) (sumL n l k l') p q : Int) = tal (fun c => tal (fun d => (ttN n l c d : Int) * ttN k l' (p - c) (q - d)) (List.range (q + 1))) (List.range (p + 1)) := by
  rw [tt_wt, wt_sum hnk hf hb hf' hb']
  have h1 : ∀ i j, (wt k l' fun i' j' => if i + i' = p ∧ j + j' = q then 1 else 0) = if i ≤ p ∧ j ≤ q then (ttN k l' (p - i) (q - j) : Int) else 0 := fun i j => by
    by_cases h : i ≤ p ∧ j ≤ q
    · rw [if_pos h, tt_wt]
      congr 1
      funext a b
      have : (i + a = p ∧ j + b = q) ↔ (a = p - i ∧ b = q - j) := by omega
      simp only [this]
    · rw [if_neg h]
      unfold wt
      rw [tal_congr (G := fun _ => 0) (fun b _ => by dsimp only; rw [if_neg (by omega)]), tal_const, Int.zero_mul]; try rfl
  simp only [h1]
  have h2 : ∀ c ∈ List.range (p + 1), tal (fun d => (ttN n l c d : Int) * ttN k l' (p - c) (q - d)) (List.range (q + 1)) = tal (fun b => if pop (actI l b n) = c then (if pop (actO l b n) ≤ q then (ttN k l' (p - c) (q - pop (actO l b n)) : Int) else 0) else 0) l := fun c _ => by
    rw [tal_congr (G := fun d => tal (fun b => if pop (actO l b n) = d then (if pop (actI l b n) = c then (ttN k l' (p - c) (q - d) : Int) else 0) else 0) l) (fun d _ => by
      rw [tt_wt]
      unfold wt
      rw [Int.mul_comm, ← tal_mul]
      refine tal_congr fun b _ => ?_
      by_cases a1 : pop (actI l b n) = c <;> by_cases a2 : pop (actO l b n) = d <;> simp [a1, a2]), tal_swapT]
    refine tal_congr fun b _ => ?_
    by_cases hq : pop (actO l b n) < q + 1
    · rw [tal_pickT (fun d => if pop (actI l b n) = c then (ttN k l' (p - c) (q - d) : Int) else 0) hq]
      by_cases a1 : pop (actI l b n) = c
      · rw [if_pos a1, if_pos a1, if_pos (by omega)]
      · rw [if_neg a1, if_neg a1]
    · rw [tal_pickO _ hq]
      by_cases a1 : pop (actI l b n) = c
      · rw [if_pos a1, if_neg (by omega)]
      · rw [if_neg a1]
  rw [tal_congr h2, tal_swapT]
  unfold wt
  refine tal_congr fun b _ => ?_
  dsimp only
  by_cases hp : pop (actI l b n) < p + 1
  · rw [tal_pickT (fun c => if pop (actO l b n) ≤ q then (ttN k l' (p - c) (q - pop (actO l b n)) : Int) else 0) hp]
    by_cases a2 : pop (actO l b n) ≤ q
    · rw [if_pos ⟨by omega, a2⟩, if_pos a2]
    · rw [if_neg (fun h => a2 h.2), if_neg a2]
  · rw [tal_pickO _ hp, if_neg (by omega)]
end Go.Proofs.YtdabkgbbalooiaaDoor

namespace Go.Proofs.YtdabkgbbalooiaaDoor

variable {n c : Nat} {H col : Nat → Nat → Int}
theorem char_all {y : Nat → Int} (h : ∀ v, v < 2 ^ n → inZ n H c v = true → Em 2 (dtZ n y v) 0) : tal (fun v => cwZ n H c v * chZ (dtZ n y v)) (List.range (2 ^ n)) = cnZ n H c := by
  unfold cnZ cwZ
  refine tal_congr fun v hv => ?_
  cases e : inZ n H c v
  · simp
  · rw [chZ_em (h v (List.mem_range.1 hv) e)]
    decide
theorem char_none {y : Nat → Int} {z : Nat} (hz : z < 2 ^ n) (z1 : inZ n H c z = true) (z2 : ¬ Em 2 (dtZ n y z) 0) : tal (fun v => cwZ n H c v * chZ (dtZ n y v)) (List.range (2 ^ n)) = 0 := by
  have h1 := tal_xor hz fun v => cwZ n H c v * chZ (dtZ n y v)
  have h2 : tal (fun v => cwZ n H c (v ^^^ z) * chZ (dtZ n y (v ^^^ z))) (List.range (2 ^ n)) = - tal (fun v => cwZ n H c v * chZ (dtZ n y v)) (List.range (2 ^ n)) := by
    rw [← tal_neg]
    refine tal_congr fun v _ => ?_
    have h3 : chZ (dtZ n y z) = -1 := if_neg fun e => z2 (em2.2 e)
    unfold cwZ
    rw [inZ_xor z1, chZ_em (dt_xor n y v z), chZ_add, h3, Int.mul_neg, Int.mul_one, Int.mul_neg]
  omega
/-- The word with what it lacks comes to nought with all words. -/
def okW (n : Nat) (H : Nat → Nat → Int) (c u : Nat) : Prop := ∀ v, v < 2 ^ n → inZ n H c v = true → Em 2 (dtZ n (fun j => 1 + btZ u j) v) 0
/-- The kernel's rows and, behind them, the rows. -/
def bothF (c : Nat) (H col : Nat → Nat → Int) (s r : Nat) : Int := if s < c then H s r else col r (s - c)
theorem both_lo {s : Nat} (h : s < c) : bothF c H col s = H s := funext fun _ => if_pos h
theorem both_hi (i : Nat) : bothF c H col (c + i) = fun r => col r i := funext fun r => by
  unfold bothF
  rw [if_neg (by omega), show c + i - c = i by omega]
theorem sq_em (a : Int) : Em 2 (1 * a) (a * a) := by
  rw [em2, Int.mul_emod a a, Int.one_mul]
  rcases Int.emod_two_eq a with e | e <;> rw [e] <;> decide
theorem dt_cg {g f : Nat → Int} {w : Nat} (h : ∀ r, r < n → Em 2 (g r) (f r)) : Em 2 (dtZ n g w) (dtZ n f w) := by
  unfold dtZ
  exact Em.sm fun r hr => (Em.refl _).mul (h r hr)
theorem first_ok (h1 : ∀ i, i < 6 → ∀ s, s < c → Em 2 (sm n fun r => col r i * H s r) 0) (h2 : ∀ v : Nat → Int, (∀ i, i < 6 → Em 2 (sm n fun r => col r i * v r) 0) → InS 2 n c H v) :
    ∃ z, z < 2 ^ n ∧ inZ n H c z = true ∧ okW n H c z := by
  have h3 : InS 2 n (c + 6) (bothF c H col) fun _ => 1 := perp_in (.inl rfl) fun a ha => by
    have ha1 : ∀ j, j < c → Em 2 (sm n fun r => H j r * a r) 0 := fun j hj => by
      have := ha j (by omega)
      rwa [both_lo hj] at this
    have h4 := h2 a fun i hi => by
      have := ha (c + i) (by omega)
      rwa [both_hi] at this
    exact (Em.sm fun r _ => sq_em (a r)).trans (orth_in h4 ha1)
  obtain ⟨y, hy⟩ := h3
  obtain ⟨z, hz, hb⟩ := word_of (fun r => sm 6 fun i => y (c + i) * col r i) n
  refine ⟨z, hz, inZ_iff.2 fun s hs => ?_, fun v _ hv => ?_⟩
  · unfold dtZ
    refine (Em.sm fun r hr => (hb r hr).mul (Em.refl (H s r))).trans ?_
    rw [sm_congr (t := fun r => sm 6 fun i => y (c + i) * (col r i * H s r)) fun r _ => ?_, sm_swap]
    · refine Em.sm0 fun i hi => ?_
      rw [sm_mul]
      exact (h1 i hi s hs).mul0'
    · rw [Int.mul_comm, ← sm_mul]
      exact sm_congr fun i _ => by rw [Int.mul_comm (col r i), Int.mul_left_comm]
  · refine inZ_in ?_ hv
    refine ⟨y, fun r hr => ?_⟩
    have h4 := hy r hr
    have h5 := hb r hr
    rw [sm_split, sm_congr (n := c) (t := fun s => y s * H s r) fun s hs => by rw [both_lo hs], sm_congr (n := 6) (t := fun i => y (c + i) * col r i) fun i _ => by rw [both_hi]] at h4
    rw [em2] at h4 h5 ⊢
    dsimp only at h4 h5 ⊢
    omega
theorem ok_iff (h1 : ∀ i, i < 6 → ∀ s, s < c → Em 2 (sm n fun r => col r i * H s r) 0) (h2 : ∀ v : Nat → Int, (∀ i, i < 6 → Em 2 (sm n fun r => col r i * v r) 0) → InS 2 n c H v) {w z : Nat} (z1 : inZ n H c z = true) (z2 : okW n H c z) :
    (inZ n H c (w ^^^ z) = true ∧ okW n H c (w ^^^ z)) ↔ inZ n (bothF c H col) (c + 6) w = true := by
  have h3 : ∀ v, Em 2 (dtZ n (fun j => 1 + btZ (w ^^^ z) j) v) (dtZ n (fun j => 1 + btZ z j) v + dtZ n (btZ w) v) := fun v => by
    unfold dtZ
    rw [← sm_add]
    refine Em.sm fun j _ => ?_
    rw [← Int.mul_add]
    refine (Em.refl _).mul ?_
    have := btZ_xor w z j
    rw [em2] at this ⊢
    dsimp only
    omega
  constructor
  · rintro ⟨a, b⟩
    rw [inZ_xor z1] at a
    refine inZ_iff.2 fun s hs => ?_
    by_cases e : s < c
    · rw [both_lo e]
      exact inZ_iff.1 a s e
    · obtain ⟨i, rfl⟩ : ∃ i, s = c + i := ⟨s - c, by omega⟩
      rw [both_hi]
      obtain ⟨v, hv, hb⟩ := word_of (fun r => col r i) n
      have hv1 : inZ n H c v = true := inZ_iff.2 fun s hs => by
        unfold dtZ
        exact (Em.sm fun r hr => (hb r hr).mul (Em.refl _)).trans (h1 i (by omega) s hs)
      have a1 := b v hv hv1
      have a2 := z2 v hv hv1
      have a3 := h3 v
      have a4 : Em 2 (dtZ n (fun r => col r i) w) (dtZ n (btZ w) v) := by
        unfold dtZ
        refine Em.sm fun r hr => ?_
        rw [Int.mul_comm]
        exact (hb r hr).symm.mul (Em.refl _)
      rw [em2] at a1 a2 a3 a4 ⊢
      omega
  · intro h
    have h4 : inZ n H c w = true := inZ_iff.2 fun s hs => by
      have := inZ_iff.1 h s (by omega)
      rwa [both_lo hs] at this
    have h5 := h2 (btZ w) fun i hi => by
      have := inZ_iff.1 h (c + i) (by omega)
      rw [both_hi] at this
      unfold dtZ at this
      rw [dot_comm]
      exact this
    refine ⟨by rw [inZ_xor z1]; exact h4, fun v hv hv1 => ?_⟩
    have a2 := z2 v hv hv1
    have a3 := h3 v
    have a4 := inZ_in h5 hv1
    rw [em2] at a2 a3 a4 ⊢
    omega
theorem even_both (h2 : ∀ v : Nat → Int, (∀ i, i < 6 → Em 2 (sm n fun r => col r i * v r) 0) → InS 2 n c H v) {w : Nat} (h : inZ n (bothF c H col) (c + 6) w = true) : chZ (sm n fun j => btZ w j) = 1 := by
  have h4 : inZ n H c w = true := inZ_iff.2 fun s hs => by
    have := inZ_iff.1 h s (by omega)
    rwa [both_lo hs] at this
  have h5 := h2 (btZ w) fun i hi => by
    have := inZ_iff.1 h (c + i) (by omega)
    rw [both_hi] at this
    unfold dtZ at this
    rw [dot_comm]
    exact this
  have h6 := inZ_in h5 h4
  unfold dtZ at h6
  rw [sm_congr (t := fun j => btZ w j) fun j _ => by rcases btZ_01 w j with e | e <;> rw [e] <;> rfl] at h6
  rw [chZ_em h6]
  decide
/-- The sum over pairs of words. -/
theorem pairs_is (h1 : ∀ i, i < 6 → ∀ s, s < c → Em 2 (sm n fun r => col r i * H s r) 0) (h2 : ∀ v : Nat → Int, (∀ i, i < 6 → Em 2 (sm n fun r => col r i * v r) 0) → InS 2 n c H v) :
    ∃ e : Int, (e = 1 ∨ e = -1) ∧ tal (fun u => cwZ n H c u * (chZ (sm n fun j => btZ u j) * tal (fun v => cwZ n H c v * chZ (dtZ n (fun j => 1 + btZ u j) v)) (List.range (2 ^ n)))) (List.range (2 ^ n)) = cnZ n H c * (e * cnZ n (bothF c H col) (c + 6)) := by
  obtain ⟨z, hz, z1, z2⟩ := first_ok h1 h2
  refine ⟨chZ (sm n fun j => btZ z j), ?_, ?_⟩
  · unfold chZ
    split
    · exact .inl rfl
    · exact .inr rfl
  · rw [← tal_xor hz, ← Int.mul_assoc]
    unfold cnZ
    rw [← tal_mul]
    refine tal_congr fun w _ => ?_
    have h3 := ok_iff h1 h2 (w := w) z1 z2
    by_cases hb : inZ n (bothF c H col) (c + 6) w = true
    · obtain ⟨a, b⟩ := h3.2 hb
      rw [if_pos hb, char_all b]
      have h4 : chZ (sm n fun j => btZ (w ^^^ z) j) = chZ (sm n fun j => btZ z j) := by
        rw [chZ_em (b := (sm n fun j => btZ w j) + sm n fun j => btZ z j) (by rw [← sm_add]; exact Em.sm fun j _ => btZ_xor w z j), chZ_add, even_both h2 hb, Int.one_mul]
      unfold cwZ
      rw [if_pos a, h4, Int.one_mul, Int.mul_one, Int.mul_comm]
      rfl
    · rw [if_neg hb, Int.mul_zero]
      by_cases a : inZ n H c (w ^^^ z) = true
      · have hn : ¬ okW n H c (w ^^^ z) := fun b => hb (h3.1 ⟨a, b⟩)
        obtain ⟨v, h5⟩ := Classical.not_forall.1 hn
        obtain ⟨hv, h6⟩ := Classical.not_imp.1 h5
        obtain ⟨hv1, h7⟩ := Classical.not_imp.1 h6
        rw [char_none hv hv1 h7, Int.mul_zero, Int.mul_zero]
      · unfold cwZ
        rw [if_neg a, Int.zero_mul]
theorem full_cn (H : Nat → Nat → Int) : cnZ n (elA c H (2 ^ n - 1)) (c + n) = 1 := by
  have hA : ∀ j, j < n → (2 ^ n - 1).testBit j = true := fun j hj => by rw [full_bit]; simpa using hj
  have hd : ∀ j w, j < n → dtZ n (elA c H (2 ^ n - 1) (c + j)) w = btZ w j := fun j w hj => by
    unfold dtZ
    rw [sm_congr (t := fun r => if j = r then btZ w r else 0) fun r _ => ?_, sm_pick, if_pos hj]
    rw [elA_hit (hA j hj)]
    by_cases e2 : r = j
    · subst e2; simp
    · rw [if_neg e2, if_neg fun h => e2 h.symm, Int.mul_zero]
  unfold cnZ
  rw [tal_congr (G := fun w => if 0 = w then 1 else 0) fun w hw => ?_]
  · exact tal_pickT (fun _ => 1) (Nat.two_pow_pos n)
  · have hw2 := List.mem_range.1 hw
    by_cases e : 0 = w
    · subst e
      rw [if_pos rfl, if_pos (inZ_iff.2 fun s _ => ?_)]
      unfold dtZ
      refine Em.of ((sm_congr (t := fun _ => 0) fun j _ => ?_).trans (sm_zero n))
      unfold btZ
      simp
    · rw [if_neg e, if_neg fun h => e ?_]
      refine Nat.eq_of_testBit_eq fun j => ?_
      rw [Nat.zero_testBit]
      by_cases hj : j < n
      · have := em2.1 (inZ_iff.1 h (c + j) (by omega))
        rw [hd j w hj] at this
        unfold btZ at this
        cases e3 : w.testBit j
        · rfl
        · rw [e3] at this
          exact absurd this (by decide)
      · exact (Nat.testBit_lt_two_pow (Nat.lt_of_lt_of_le hw2 (Nat.pow_le_pow_right (by omega) (by omega)))).symm
theorem two_inj {a b : Nat} (h : (2 : Int) ^ a = 2 ^ b) : a = b := by
  have h2 : (2 ^ a : Nat) = 2 ^ b := by exact_mod_cast h
  exact (Nat.pow_right_inj (by decide)).1 h2
theorem sq_two : ∀ a : Nat, (-2 : Int) ^ a * (-2) ^ a = 2 ^ a * 2 ^ a
  | 0 => rfl
  | a + 1 => by
    rw [Int.pow_succ, Int.pow_succ, show (-2 : Int) ^ a * -2 * ((-2) ^ a * -2) = 4 * ((-2) ^ a * (-2) ^ a) by
      generalize (-2 : Int) ^ a = x
      rw [Int.mul_assoc, Int.mul_left_comm (-2), ← Int.mul_assoc, Int.mul_comm]; rfl, sq_two a]
    generalize (2 : Int) ^ a = x
    rw [Int.mul_assoc x 2, Int.mul_left_comm 2 x, Int.mul_comm 4, Int.mul_assoc]; rfl
theorem three_pow : ∀ a : Nat, ((-2 : Int) ^ a) % 3 = 1
  | 0 => rfl
  | a + 1 => by
    have := three_pow a
    rw [Int.pow_succ]
    omega
theorem tal_three {F : Nat → Int} : ∀ {l : List Nat}, (∀ x ∈ l, F x % 3 = 1) → (tal F l - l.length) % 3 = 0
  | [], _ => rfl
  | x :: l, h => by
    have h1 := h x (List.mem_cons_self ..)
    have h2 := tal_three (l := l) fun y hy => h y (List.mem_cons_of_mem _ hy)
    simp only [tal, List.length_cons]
    omega
theorem sign_of : ∀ n, n < 9 → ∀ d, d < 9 → ((2 ^ d - (2 : Int) ^ n) % 3 = 0 → (2 : Int) ^ d = (-1) ^ n * (-2) ^ d) ∧ ((-(2 ^ d) - (2 : Int) ^ n) % 3 = 0 → -(2 : Int) ^ d = (-1) ^ n * (-2) ^ d) := by decide +kernel
theorem bicycle (hn : n ≤ 8) (hH : FreeM 2 n c H) (h1 : ∀ i, i < 6 → ∀ s, s < c → Em 2 (sm n fun r => col r i * H s r) 0) (h2 : ∀ v : Nat → Int, (∀ i, i < 6 → Em 2 (sm n fun r => col r i * v r) 0) → InS 2 n c H v) {d : Nat} (hd8 : d ≤ 8) (hd : cnZ n (bothF c H col) (c + 6) = 2 ^ d) :
    pvZ n (basR n (depR n (depC 2 col))) (-1) (-1) = (-1) ^ n * (-2) ^ d := by
  have hD := (depC_dep (.inl rfl) col n).rkOn hn
  have hp := pv_sum hn (basR_fam n _) (hD.bas hn) (-1) (-1)
  have hfull : 2 ^ n - 1 < 2 ^ n := full_lt n
  rw [hD.rk_eq hn hfull] at hp
  obtain ⟨R, hR⟩ : ∃ R, depR n (depC 2 col) (2 ^ n - 1) = R := ⟨_, rfl⟩
  rw [hR] at hp
  have hcR : c + R = n := by
    have := rank_cn hH h1 h2 hfull n (Nat.le_refl _)
    rw [full_cn, Int.one_mul] at this
    have := two_inj this
    unfold depR at hR
    omega
  have hle : ∀ A, A < 2 ^ n → depR n (depC 2 col) A ≤ R := fun A hA => by
    rw [← hR]
    exact hD.mono A _ hA hfull (full_sub hA)
  have hN : ∀ A, A < 2 ^ n → cnZ n (elA c H A) (c + n) = 2 ^ (R - depR n (depC 2 col) A) := fun A hA => by
    have h3 := rank_cn hH h1 h2 hA n (Nat.le_refl _)
    have h4 := hle A hA
    have h5 : n = (R - depR n (depC 2 col) A) + (c + depR n (depC 2 col) A) := by omega
    have h6 : (2 : Int) ^ n = 2 ^ (R - depR n (depC 2 col) A) * 2 ^ (c + depR n (depC 2 col) A) := by rw [← Int.pow_add, ← h5]
    rw [h6] at h3
    exact Int.eq_of_mul_eq_mul_right (Int.ne_of_gt (Int.pow_pos (by decide))) h3
  have hK : cnZ n H c = 2 ^ R := by
    have h3 := cn_free hH c (Nat.le_refl _)
    have h6 : (2 : Int) ^ n = 2 ^ R * 2 ^ c := by rw [← Int.pow_add, Nat.add_comm R, hcR]
    rw [h6] at h3
    exact Int.eq_of_mul_eq_mul_right (Int.ne_of_gt (Int.pow_pos (by decide))) h3
  have hterm : ∀ A ∈ List.range (2 ^ n), (-2) ^ R * ((-1 - 1) ^ (R - rk (basR n (depR n (depC 2 col))) A) * (-1 - 1) ^ (pop A - rk (basR n (depR n (depC 2 col))) A)) = (-2) ^ pop A * (cnZ n (elA c H A) (c + n) * cnZ n (elA c H A) (c + n)) := fun A hA => by
    have hA2 := List.mem_range.1 hA
    rw [hD.rk_eq hn hA2, hN A hA2, ← sq_two]
    have h3 := hle A hA2
    have h4 := hD.le A hA2
    generalize depR n (depC 2 col) A = a at h3 h4 ⊢
    show (-2 : Int) ^ R * ((-2) ^ (R - a) * (-2) ^ (pop A - a)) = _
    rw [← Int.pow_add, ← Int.pow_add, ← Int.pow_add, ← Int.pow_add]
    congr 1
    omega
  have h3 : (-2) ^ R * pvZ n (basR n (depR n (depC 2 col))) (-1) (-1) = (-1) ^ n * tal (fun u => cwZ n H c u * (chZ (sm n fun j => btZ u j) * tal (fun v => cwZ n H c v * chZ (dtZ n (fun j => 1 + btZ u j) v)) (List.range (2 ^ n)))) (List.range (2 ^ n)) := by
    rw [hp, ← tal_mul, tal_congr hterm, pairs_sum hn]
  obtain ⟨e, he, h4⟩ := pairs_is h1 h2
  rw [h4, hK, hd] at h3
  have h5 : (pvZ n (basR n (depR n (depC 2 col))) (-1) (-1) - (2 : Int) ^ n) % 3 = 0 := by
    have := tal_three (l := List.range (2 ^ n)) (F := fun s => (-1 - 1) ^ (R - rk (basR n (depR n (depC 2 col))) s) * (-1 - 1) ^ (pop s - rk (basR n (depR n (depC 2 col))) s)) fun x _ => by
      have a := three_pow (R - rk (basR n (depR n (depC 2 col))) x)
      have b := three_pow (pop x - rk (basR n (depR n (depC 2 col))) x)
      show ((-2 : Int) ^ _ * (-2) ^ _) % 3 = 1
      rw [Int.mul_emod, a, b]
      rfl
    rw [← hp, List.length_range] at this
    simpa using this
  generalize pvZ n (basR n (depR n (depC 2 col))) (-1) (-1) = T at h3 h5 ⊢
  have h6 : T = 2 ^ d ∨ T = -(2 ^ d) := by
    have hs : ∀ k : Nat, ((-1 : Int) ^ k = 1 ∨ (-1 : Int) ^ k = -1) := fun k => by
      induction k with
      | zero => exact .inl rfl
      | succ k ih =>
        rw [Int.pow_succ]
        rcases ih with h | h <;> rw [h]
        · exact .inr rfl
        · exact .inl rfl
    have h7 : (-2 : Int) ^ R = (-1) ^ R * 2 ^ R := by rw [← Int.mul_pow]; rfl
    have h8 : (2 : Int) ^ R ≠ 0 := by have := Int.pow_pos (n := 2) (m := R) (by decide); omega
    have h9 : (-1) ^ R * T = (-1) ^ n * (e * 2 ^ d) := by
      refine Int.eq_of_mul_eq_mul_left h8 ?_
      rw [h7, Int.mul_comm ((-1) ^ R), Int.mul_assoc, Int.mul_left_comm ((-1) ^ n)] at h3
      exact h3
    rcases hs R with a | a <;> rcases hs n with b | b <;> rcases he with f | f <;> rw [a, b, f] at h9 <;> omega
  have key := sign_of n (by omega) d (by omega)
  rcases h6 with h6 | h6
  · rw [h6] at h5 ⊢
    exact key.1 h5
  · rw [h6] at h5 ⊢
    exact key.2 h5
end Go.Proofs.YtdabkgbbalooiaaDoor
