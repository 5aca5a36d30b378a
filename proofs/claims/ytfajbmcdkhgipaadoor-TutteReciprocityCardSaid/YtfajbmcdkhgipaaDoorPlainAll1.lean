/- Plain mathematics of sets, matroids, graphs and lists, on which the walks rest. -/
import Derived.Test.YtfajbmcdkhgipaaDoorPlainAll
namespace Go.Proofs.YtfajbmcdkhgipaaDoor

/-- The sets of n elements that become bases, in order: the renamed matroid's bases. -/
def renL (n : Nat) (p bs : List Nat) : List Nat := (List.range (2 ^ n)).filter fun t => memB (back p t) bs
theorem mem_ren {n : Nat} {p bs : List Nat} {t : Nat} : t ∈ renL n p bs ↔ t < 2 ^ n ∧ back p t ∈ bs := by unfold renL memB; simp
theorem ren_fam (n : Nat) (p bs : List Nat) : Fam n (renL n p bs) := Fam.range n _
theorem Beg.back_image {n : Nat} {p : List Nat} (h : Beg n p) {s : Nat} (hs : s < 2 ^ p.length) : back p (image p s) = s := Nat.eq_of_testBit_eq fun j => by
  rw [back_bit]
  by_cases hj : j < p.length
  · rw [decide_eq_true hj, Bool.true_and, h.image_at hj]
  · rw [decide_eq_false hj, Bool.false_and, Nat.testBit_lt_two_pow (Nat.lt_of_lt_of_le hs (Nat.pow_le_pow_right (by decide) (by omega)))]
theorem Beg.mem_image {n : Nat} {p bs : List Nat} (h : Beg n p) (hl : p.length = n) (hf : Fam n bs) {t : Nat} : t ∈ renL n p bs ↔ ∃ b ∈ bs, image p b = t := by
  rw [mem_ren]
  constructor
  · rintro ⟨h1, h2⟩
    exact ⟨_, h2, h.image_back hl h1⟩
  · rintro ⟨b, hb, rfl⟩
    have hb2 : b < 2 ^ p.length := by rw [hl]; exact hf.lt b hb
    exact ⟨h.image_lt b, by rw [h.back_image hb2]; exact hb⟩
theorem rk_congr {l m : List Nat} (h : ∀ x, x ∈ l ↔ x ∈ m) (hl : l ≠ []) (hm : m ≠ []) (s : Nat) : rk l s = rk m s := by
  obtain ⟨a, h1, h2⟩ := rk_at hl s
  obtain ⟨b, h3, h4⟩ := rk_at hm s
  have h5 := rk_ge s ((h a).1 h1)
  have h6 := rk_ge s ((h b).2 h3)
  omega
/-- Ranks of the renamed matroid. -/
theorem Beg.ren_rk {n : Nat} {p bs : List Nat} (hn : n ≤ 8) (h : Beg n p) (hl : p.length = n) (hf : Fam n bs) (hne : bs ≠ []) {s : Nat} (hs : s < 2 ^ n) : rk (renL n p bs) (image p s) = rk bs s := by
  rw [← h.image_rk (bs := bs) hn (by omega) (by rw [hl]; exact hs)]
  have hm : ∀ x, x ∈ renL n p bs ↔ x ∈ bs.map (image p) := fun x => by rw [h.mem_image hl hf, List.mem_map]
  have h1 : bs.map (image p) ≠ [] := by simpa using hne
  refine rk_congr hm (fun e => ?_) h1 _
  obtain ⟨b, hb⟩ := List.exists_mem_of_ne_nil _ h1
  have := (hm b).2 hb
  rw [e] at this
  cases this
theorem Beg.image_top {n : Nat} {p : List Nat} (h : Beg n p) (hl : p.length = n) : image p (2 ^ n - 1) = 2 ^ n - 1 := Nat.eq_of_testBit_eq fun j => by
  rw [Nat.testBit_two_pow_sub_one]
  by_cases hj : j < n
  · obtain ⟨i, hi, rfl⟩ := h.all hl hj
    rw [h.image_at (by omega), Nat.testBit_two_pow_sub_one, decide_eq_true hi, decide_eq_true hj]
  · rw [Nat.testBit_lt_two_pow (Nat.lt_of_lt_of_le (h.image_lt _) (Nat.pow_le_pow_right (by decide) (by omega))), decide_eq_false hj]
/-- An order makes B of A just if each set has the rank that what it becomes has. -/
theorem Beg.iso {n : Nat} {p A B : List Nat} (hn : n ≤ 8) (h : Beg n p) (hl : p.length = n) (fA : Fam n A) (bA : Bas A) (fB : Fam n B) (bB : Bas B) : renL n p A = B ↔ ∀ s, s < 2 ^ n → rk A s = rk B (image p s) := by
  constructor
  · rintro rfl s hs
    exact (h.ren_rk hn hl fA bA.ne hs).symm
  · intro hr
    refine sorted_ext (ren_fam n p A).up fB.up fun t => ?_
    rw [mem_ren]
    have key : ∀ t, t < 2 ^ n → (back p t ∈ A ↔ t ∈ B) := fun t ht => by
      have hb : back p t < 2 ^ n := by have := back_lt p t; rw [hl] at this; exact this
      rw [bas_mem hn fA bA hb, bas_mem hn fB bB ht, hr _ hb, h.image_back hl ht, hr (2 ^ n - 1) (by have := Nat.two_pow_pos n; omega), h.image_top hl]
      have := h.image_pop hn _ (Nat.le_refl _) (show back p t < 2 ^ p.length by rw [hl]; exact hb) (by omega)
      rw [h.image_back hl ht] at this
      rw [this]
    constructor
    · rintro ⟨h1, h2⟩
      exact (key t h1).1 h2
    · intro h1
      have ht := fB.lt t h1
      exact ⟨ht, (key t ht).2 h1⟩
end Go.Proofs.YtfajbmcdkhgipaaDoor

namespace Go.Proofs.YtfajbmcdkhgipaaDoor

theorem eq_by {n : Nat} {p : List Nat} (h : Beg n p) (hl : p.length = n) {s t : Nat} (hs : s < 2 ^ n) (ht : t < 2 ^ n) (e : ∀ k, k < n → s.testBit (p.getD k 0) = t.testBit (p.getD k 0)) : s = t := Nat.eq_of_testBit_eq fun j => by
  by_cases hj : j < n
  · obtain ⟨k, hk, rfl⟩ := h.all hl hj
    exact e k hk
  · rw [Nat.testBit_lt_two_pow (Nat.lt_of_lt_of_le hs (Nat.pow_le_pow_right (by decide) (by omega))), Nat.testBit_lt_two_pow (Nat.lt_of_lt_of_le ht (Nat.pow_le_pow_right (by decide) (by omega)))]
theorem Beg.ren_bas {n : Nat} {p bs : List Nat} (hn : n ≤ 8) (h : Beg n p) (hl : p.length = n) (hf : Fam n bs) (hb : Bas bs) : Bas (renL n p bs) where
  lt := fun t ht => lt256 hn ((ren_fam n p bs).lt t ht)
  size := fun a ha b hb' => by
    obtain ⟨x, hx, rfl⟩ := (h.mem_image hl hf).1 ha
    obtain ⟨y, hy, rfl⟩ := (h.mem_image hl hf).1 hb'
    rw [h.image_pop hn _ (Nat.le_refl _) (by rw [hl]; exact hf.lt x hx) (by omega), h.image_pop hn _ (Nat.le_refl _) (by rw [hl]; exact hf.lt y hy) (by omega)]
    exact hb.size x hx y hy
  exch := fun a ha b hb' x h1 h2 => by
    obtain ⟨a, hA, rfl⟩ := (h.mem_image hl hf).1 ha
    obtain ⟨b, hB, rfl⟩ := (h.mem_image hl hf).1 hb'
    obtain ⟨i, hi, hai, rfl⟩ := image_has.1 h1
    rw [h.image_at hi] at h2
    obtain ⟨y, y1, y2, y3⟩ := hb.exch a hA b hB i hai h2
    have hy : y < p.length := by rw [hl]; exact bit_lt (hf.lt b hB) y1
    refine ⟨p.getD y 0, by rw [h.image_at hy]; exact y1, by rw [h.image_at hy]; exact y2, (h.mem_image hl hf).2 ⟨_, y3, ?_⟩⟩
    have hlt : rm (image p a) (p.getD i 0) ||| 2 ^ p.getD y 0 < 2 ^ n := Nat.or_lt_two_pow (Nat.lt_of_le_of_lt (Nat.le_of_lt (rm_lt (lt256 hn (h.image_lt a)) (by rw [h.image_at hi]; exact hai))) (h.image_lt a)) (Nat.pow_lt_pow_right (by decide) (h.at hy))
    refine eq_by h hl (h.image_lt _) hlt fun k hk => ?_
    rw [h.image_at (by omega), Nat.testBit_or, Nat.testBit_or, Nat.testBit_two_pow, Nat.testBit_two_pow, rm_bit, rm_bit, h.image_at (by omega)]
    have e1 : decide (i ≠ k) = decide (p.getD i 0 ≠ p.getD k 0) := by
      rw [Bool.eq_iff_iff, decide_eq_true_iff, decide_eq_true_iff]
      exact ⟨fun c e => c (h.inj hi (by omega) e), fun c e => c (by rw [e])⟩
    have e2 : decide (y = k) = decide (p.getD y 0 = p.getD k 0) := by
      rw [Bool.eq_iff_iff, decide_eq_true_iff, decide_eq_true_iff]
      exact ⟨fun e => by rw [e], fun e => h.inj hy (by omega) e⟩
    rw [e1, e2]
  ne := fun e => by
    obtain ⟨b, hb'⟩ := List.exists_mem_of_ne_nil _ hb.ne
    have := (h.mem_image hl hf).2 ⟨b, hb', rfl⟩
    rw [e] at this
    cases this
end Go.Proofs.YtfajbmcdkhgipaaDoor

namespace Go.Proofs.YtfajbmcdkhgipaaDoor

theorem image_take {q : List Nat} {s m : Nat} (hs : s < 2 ^ m) (hm : m ≤ q.length) : image (q.take m) s = image q s := Nat.eq_of_testBit_eq fun j => by
  rw [Bool.eq_iff_iff, image_has, image_has]
  have e : ∀ i, i < m → (q.take m).getD i 0 = q.getD i 0 := fun i hi => by simp only [List.getD, List.getElem?_take, if_pos hi]
  have l : (q.take m).length = m := by rw [List.length_take]; omega
  constructor
  · rintro ⟨i, hi, h1, h2⟩
    rw [l] at hi
    exact ⟨i, by omega, h1, by rw [← e i hi]; exact h2⟩
  · rintro ⟨i, hi, h1, h2⟩
    have him := bit_lt hs h1
    exact ⟨i, by rw [l]; exact him, h1, by rw [e i him]; exact h2⟩
/-- Has each set with the last element the rank that its image has? -/
def keepB (rA rB : Nat → Nat) (q : List Nat) : Bool := (List.range (2 ^ q.length)).all fun s => decide (s < 2 ^ q.length / 2) || rA s == rB (image q s)
theorem image_zero (q : List Nat) : image q 0 = 0 := Nat.eq_of_testBit_eq fun j => by
  rw [Nat.zero_testBit, Bool.eq_false_iff]
  intro hj
  obtain ⟨i, _, h1, _⟩ := image_has.1 hj
  rw [Nat.zero_testBit] at h1
  cases h1
theorem fits_iff {rA rB : Nat → Nat} (h0 : rA 0 = rB 0) (q : List Nat) : fitsB (keepB rA rB) 0 q = true ↔ ∀ s, s < 2 ^ q.length → rA s = rB (image q s) := by
  unfold fitsB keepB
  simp only [List.all_eq_true, List.mem_range, Nat.sub_zero, Nat.zero_add, Bool.or_eq_true, decide_eq_true_eq, beq_iff_eq]
  constructor
  · intro h s hs
    by_cases e : s = 0
    · subst e
      rw [image_zero]
      exact h0
    · have h1 := Nat.log2_self_le e
      have h2 := Nat.lt_log2_self (n := s)
      have hj : s.log2 < q.length := Classical.byContradiction fun c => by
        have := Nat.pow_le_pow_right (show 0 < 2 by decide) (show q.length ≤ s.log2 by omega)
        omega
      have hl : (q.take (s.log2 + 1)).length = s.log2 + 1 := by rw [List.length_take]; omega
      have := h s.log2 hj s (by rw [hl]; exact h2)
      rw [hl, Nat.pow_succ, Nat.mul_div_cancel _ (by decide)] at this
      rcases this with c | c
      · omega
      · rw [image_take h2 (by omega)] at c
        exact c
  · intro h j hj s hs
    have hl : (q.take (j + 1)).length = j + 1 := by rw [List.length_take]; omega
    rw [hl] at hs
    refine .inr ?_
    rw [image_take hs (by omega)]
    exact h s (Nat.lt_of_lt_of_le hs (Nat.pow_le_pow_right (by decide) (by omega)))
/-- The orders that make B of A, in order. -/
def isoL (n : Nat) (A B : List Nat) : List (List Nat) := (goes n n []).filter fun q => renL n q A == B
theorem beg_nil (n : Nat) : Beg n [] := ⟨(fun _ h => absurd h List.not_mem_nil), List.nodup_nil⟩
/-- What the program's walk finds. -/
theorem iso_walk {n : Nat} {A B : List Nat} (hn : n ≤ 8) (fA : Fam n A) (bA : Bas A) (fB : Fam n B) (bB : Bas B) (h0 : rk A 0 = rk B 0) : goesF (keepB (rk A) (rk B)) n n [] = isoL n A B := by
  rw [goesF_eq]
  refine List.filter_congr fun q hq => ?_
  obtain ⟨hl, _⟩ := goes_mem n [] q hq
  have hb := goes_beg n [] q (beg_nil n) hq
  have hl' : q.length = n := by simpa using hl
  rw [Bool.eq_iff_iff, List.length_nil, fits_iff h0, beq_iff_eq, hb.iso hn hl' fA bA fB bB, hl']
end Go.Proofs.YtfajbmcdkhgipaaDoor

namespace Go.Proofs.YtfajbmcdkhgipaaDoor

theorem Beg.ren_len {n : Nat} {q A : List Nat} (h : Beg n q) (hl : q.length = n) (hf : Fam n A) : (renL n q A).length = A.length := by
  have h1 : (renL n q A).Nodup := (ren_fam n q A).up.imp (fun h => Nat.ne_of_lt h)
  have h2 : (A.map (image q)).Nodup := by
    refine List.pairwise_map.2 (List.Pairwise.imp_of_mem (fun {a b} ha hb hab e => ?_) hf.up)
    have := h.image_inj (s := a) (t := b) (by rw [hl]; exact hf.lt a ha) (by rw [hl]; exact hf.lt b hb) e
    omega
  have h3 := (List.perm_ext_iff_of_nodup h1 h2).2 fun x => by rw [h.mem_image hl hf, List.mem_map]
  rw [h3.length_eq, List.length_map]
/-- The orders that make the one of the other. -/
def isoK (m : Nat) (A : List Nat) (k : Nat) (B : List Nat) : List (List Nat) := if m = k then isoL m A B else []
theorem isoL_mem {n : Nat} {A B q : List Nat} : q ∈ isoL n A B ↔ (Beg n q ∧ q.length = n) ∧ renL n q A = B := by
  unfold isoL
  rw [List.mem_filter, beq_iff_eq]
  constructor
  · rintro ⟨h1, h2⟩
    obtain ⟨hl, _⟩ := goes_mem n [] q h1
    exact ⟨⟨goes_beg n [] q (beg_nil n) h1, by simpa using hl⟩, h2⟩
  · rintro ⟨⟨h1, h2⟩, h3⟩
    exact ⟨goes_all n [] q h1 (by simpa using h2) (by simp), h3⟩
theorem isoK_len {m k : Nat} {A B : List Nat} (hf : Fam m A) (h : A.length ≠ B.length) : isoK m A k B = [] := by
  unfold isoK
  by_cases e : m = k
  · rw [if_pos e, List.eq_nil_iff_forall_not_mem]
    intro q hq
    obtain ⟨⟨h1, h2⟩, h3⟩ := isoL_mem.1 hq
    exact h (by rw [← h3, h1.ren_len h2 hf])
  · rw [if_neg e]
end Go.Proofs.YtfajbmcdkhgipaaDoor

namespace Go.Proofs.YtfajbmcdkhgipaaDoor

/-- Is what is left, contracted by c, the other but for names? -/
def conP (K : Nat) (L : List Nat) (k : Nat) (l' : List Nat) (c : Nat) : Bool := (isoK (pop (dif (2 ^ K - 1) c)) (minL K L c c) k l').head?.isSome
/-- The sets by which it may be contracted. -/
def conL (K k : Nat) : List Nat := (List.range (2 ^ K)).filter fun s => pop s == K - k
/-- The least set by which to contract. -/
def conO (m : Nat) (l : List Nat) (k : Nat) (l' : List Nat) (d : Nat) : Option Nat :=
  if pop (dif (2 ^ m - 1) d) < k then none else ((conL (pop (dif (2 ^ m - 1) d)) k).find? (conP (pop (dif (2 ^ m - 1) d)) (minL m l d 0) k l')).map (old (els (dif (2 ^ m - 1) d)))
/-- What is deleted and contracted: the least. -/
def minO (m : Nat) (l : List Nat) (k : Nat) (l' : List Nat) : Option (Nat × Nat) := (List.range (2 ^ m)).findSome? fun d => (conO m l k l' d).map fun c => (d, c)
def minE (s : Option (Nat × Nat)) : Int := if s.isSome = true then 0 else 5
end Go.Proofs.YtfajbmcdkhgipaaDoor

namespace Go.Proofs.YtfajbmcdkhgipaaDoor

/-- Numbers anew twice are numbers anew once. -/
theorem old_old {k j : Nat} (hk : k < 256) (hj : j < 2 ^ pop k) (t : Nat) : old (els k) (old (els j) t) = old (els (old (els k) j)) t := by
  have h8 := pop_le k hk
  have j8 : j < 256 := lt256 h8 hj
  have ho : old (els k) j < 256 := old_lt (fun x h => els_8 h) j
  have key : els (old (els k) j) = (els j).map fun i => (els k).getD i 0 := by
    refine sorted_ext (els_up _) ?_ fun x => ?_
    · rw [List.pairwise_map]
      refine (els_up j).imp_of_mem fun {a b} ha hb hab => ?_
      have ha' := bit_n hj ((mem_els j8).1 ha)
      have hb' := bit_n hj ((mem_els j8).1 hb)
      rw [← els_len] at ha' hb'
      have := List.pairwise_iff_getElem.1 (els_up k) a b ha' hb' hab
      simpa [List.getD, ha', hb'] using this
    · rw [mem_els ho, old_bit, List.mem_map]
      constructor
      · rintro ⟨i, h1, h2⟩
        exact ⟨i, (mem_els j8).2 h2, by simp [List.getD, h1]⟩
      · rintro ⟨i, h1, h2⟩
        have h3 := (mem_els j8).1 h1
        have h4 := bit_n hj h3
        rw [← els_len] at h4
        refine ⟨i, ?_, h3⟩
        simp only [List.getD, List.getElem?_eq_getElem h4, Option.getD_some] at h2
        rw [List.getElem?_eq_getElem h4, h2]
  rw [key]
  refine Nat.eq_of_testBit_eq fun x => ?_
  rw [Bool.eq_iff_iff, old_bit, old_bit]
  constructor
  · rintro ⟨i, h1, h2⟩
    rw [old_bit] at h2
    obtain ⟨q, h3, h4⟩ := h2
    refine ⟨q, ?_, h4⟩
    rw [List.getElem?_map, h3]
    simp [List.getD, h1]
  · rintro ⟨q, h1, h2⟩
    rw [List.getElem?_map] at h1
    cases h3 : (els j)[q]? with
    | none => rw [h3] at h1; cases h1
    | some i =>
      rw [h3] at h1
      have h4 := bit_n hj ((mem_els j8).1 (List.mem_of_getElem? h3))
      rw [← els_len] at h4
      refine ⟨i, ?_, old_bit.2 ⟨q, h3, h2⟩⟩
      simp only [Option.map_some, Option.some.injEq, List.getD, List.getElem?_eq_getElem h4, Option.getD_some] at h1
      rw [List.getElem?_eq_getElem h4, h1]
theorem old_dif {k : Nat} (hk : k < 256) {s : Nat} (hs : s < 2 ^ pop k) : old (els k) (dif (2 ^ pop k - 1) s) = dif k (old (els k) s) := by
  rw [dif_cpl hs, old_cpl hk hs]
theorem dif_bit' (a b i : Nat) : (dif a b).testBit i = (a.testBit i && !b.testBit i) := dif_bit a b i
/-- The two roads. -/
theorem swap_eq {n : Nat} {l : List Nat} (hn : n ≤ 8) (hb : Bas l) {d c : Nat} (hd : d < 2 ^ n) (hc : c < 2 ^ n) (hdc : d &&& c = 0) :
    let kd := dif (2 ^ n - 1) d
    let kc := dif (2 ^ n - 1) c
    let c' := shf (els kd) c
    let d' := shf (els kc) d
    pop (dif (2 ^ pop kd - 1) c') = pop (dif (2 ^ pop kc - 1) d') ∧ minL (pop kd) (minL n l d 0) c' c' = minL (pop kc) (minL n l c c) d' 0 := by
  intro kd kc c' d'
  have kd8 : kd < 256 := kept_lt hn d
  have kc8 : kc < 256 := kept_lt hn c
  have pd := kept_le hn d
  have pc := kept_le hn c
  have hc' : c' < 2 ^ pop kd := shf_lt c
  have hd' : d' < 2 ^ pop kc := shf_lt d
  have bit0 : ∀ j, d.testBit j = true → c.testBit j = true → False := fun j h1 h2 => by
    have := congrArg (fun x => x.testBit j) hdc
    simp [h1, h2] at this
  have e1 : old (els kd) c' = c := by
    show old (els kd) (shf (els kd) c) = c
    rw [old_shf kd8]
    refine Nat.eq_of_testBit_eq fun j => ?_
    rw [and_bit, dif_bit, full_bit]
    have h1 := bit0 j
    have h2 := bit_n hc (i := j)
    cases e1 : d.testBit j <;> cases e2 : c.testBit j <;> simp_all
  have e2 : old (els kc) d' = d := by
    show old (els kc) (shf (els kc) d) = d
    rw [old_shf kc8]
    refine Nat.eq_of_testBit_eq fun j => ?_
    rw [and_bit, dif_bit, full_bit]
    have h1 := bit0 j
    have h2 := bit_n hd (i := j)
    cases e1 : d.testBit j <;> cases e2 : c.testBit j <;> simp_all
  have k1 : dif (2 ^ pop kd - 1) c' < 2 ^ pop kd := kept_ltn _ _
  have k2 : dif (2 ^ pop kc - 1) d' < 2 ^ pop kc := kept_ltn _ _
  have f1 : old (els kd) (dif (2 ^ pop kd - 1) c') = dif kd c := by rw [old_dif kd8 hc', e1]
  have f2 : old (els kc) (dif (2 ^ pop kc - 1) d') = dif kc d := by rw [old_dif kc8 hd', e2]
  have f3 : dif kd c = dif kc d := Nat.eq_of_testBit_eq fun j => by
    rw [dif_bit, dif_bit, dif_bit, dif_bit]
    cases (2 ^ n - 1).testBit j <;> cases d.testBit j <;> cases c.testBit j <;> rfl
  have hp : pop (dif (2 ^ pop kd - 1) c') = pop (dif (2 ^ pop kc - 1) d') := by
    rw [← els_pop kd8 k1, ← els_pop kc8 k2, f1, f2, f3]
  refine ⟨hp, ?_⟩
  have b1 := min_bas hn hb d 0
  have b2 := min_bas hn hb c c
  have hL := min_fam (pop kd) (minL n l d 0) c' c'
  have hR := min_fam (pop kc) (minL n l c c) d' 0
  rw [← hp] at hR
  refine bas_ext (kept_le pd c') hL (min_bas pd b1 c' c') hR (min_bas pc b2 d' 0) fun t ht => ?_
  have ht2 : t < 2 ^ pop (dif (2 ^ pop kc - 1) d') := by rw [← hp]; exact ht
  rw [min_rk pd b1 c' c' ht, min_rk pc b2 d' 0 ht2]
  unfold minR
  rw [Nat.or_zero]
  have g1 : old (els (dif (2 ^ pop kd - 1) c')) t < 2 ^ pop kd := old_ltn pd c' t
  have g2 : old (els (dif (2 ^ pop kc - 1) d')) t < 2 ^ pop kc := old_ltn pc d' t
  rw [min_rk hn hb d 0 (Nat.or_lt_two_pow g1 hc'), min_rk hn hb d 0 hc', min_rk hn hb c c g2, min_rk hn hb c c (Nat.two_pow_pos _)]
  unfold minR
  have m1 : old (els kd) (old (els (dif (2 ^ pop kd - 1) c')) t ||| c') = old (els (dif kd c)) t ||| c := by rw [old_or, e1, old_old kd8 k1, f1]
  have m2 : old (els kc) (old (els (dif (2 ^ pop kc - 1) d')) t) = old (els (dif kd c)) t := by rw [old_old kc8 k2, f2, f3]
  show rk l (old (els kd) (old (els (dif (2 ^ pop kd - 1) c')) t ||| c') ||| 0) - rk l 0 - (rk l (old (els kd) c' ||| 0) - rk l 0) = rk l (old (els kc) (old (els (dif (2 ^ pop kc - 1) d')) t) ||| c) - rk l c - (rk l (old (els kc) 0 ||| c) - rk l c)
  rw [m1, m2, e1, old_zero, Nat.or_zero, Nat.or_zero, Nat.zero_or, hb.rk.zero]
  omega
end Go.Proofs.YtfajbmcdkhgipaaDoor

namespace Go.Proofs.YtfajbmcdkhgipaaDoor

theorem getD_some {xs : List Nat} {i j : Nat} : xs[i]? = some j ↔ i < xs.length ∧ xs.getD i 0 = j := by
  constructor
  · intro h
    obtain ⟨h1, h2⟩ := List.getElem?_eq_some_iff.1 h
    exact ⟨h1, by simp [List.getD, h1, h2]⟩
  · rintro ⟨h1, h2⟩
    rw [List.getElem?_eq_getElem h1]
    simpa [List.getD, h1] using h2
theorem image_old (xs : List Nat) (s : Nat) : image xs s = old xs s := Nat.eq_of_testBit_eq fun j => by
  rw [Bool.eq_iff_iff, image_has, old_bit]
  constructor
  · rintro ⟨i, h1, h2, h3⟩
    exact ⟨i, getD_some.2 ⟨h1, h3⟩, h2⟩
  · rintro ⟨i, h1, h2⟩
    obtain ⟨h3, h4⟩ := getD_some.1 h1
    exact ⟨i, h3, h2, h4⟩
theorem image_or (xs : List Nat) (s t : Nat) : image xs (s ||| t) = image xs s ||| image xs t := by rw [image_old, image_old, image_old, old_or]
/-- One after the other. -/
def comp (a b : List Nat) : List Nat := b.map fun i => a.getD i 0
theorem comp_len (a b : List Nat) : (comp a b).length = b.length := List.length_map _
theorem comp_at {a b : List Nat} {j : Nat} (h : j < b.length) : (comp a b).getD j 0 = a.getD (b.getD j 0) 0 := by simp [comp, List.getD, h]
theorem image_comp {a b : List Nat} (hb : ∀ x ∈ b, x < a.length) (t : Nat) : image a (image b t) = image (comp a b) t := Nat.eq_of_testBit_eq fun x => by
  rw [Bool.eq_iff_iff, image_has, image_has, comp_len]
  constructor
  · rintro ⟨i, _, h2, h3⟩
    obtain ⟨j, h4, h5, rfl⟩ := image_has.1 h2
    exact ⟨j, h4, h5, by rw [comp_at h4]; exact h3⟩
  · rintro ⟨j, h4, h5, h6⟩
    rw [comp_at h4] at h6
    refine ⟨b.getD j 0, hb _ ?_, image_has.2 ⟨j, h4, h5, rfl⟩, h6⟩
    simp [List.getD, h4]
theorem Beg.comp {m k : Nat} {a b : List Nat} (ha : Beg m a) (hl : a.length = k) (hb : Beg k b) : Beg m (comp a b) := by
  refine ⟨fun x hx => ?_, ?_⟩
  · obtain ⟨i, hi, rfl⟩ := List.mem_map.1 hx
    exact ha.at (by rw [hl]; exact hb.lt i hi)
  · refine List.pairwise_map.2 (List.Pairwise.imp_of_mem (fun {i j} hi hj hij e => hij ?_) hb.once)
    exact ha.inj (by rw [hl]; exact hb.lt i hi) (by rw [hl]; exact hb.lt j hj) e
theorem range_at {k i : Nat} (h : i < k) : (List.range k).getD i 0 = i := by simp [List.getD, h]
theorem image_range {k t : Nat} (ht : t < 2 ^ k) : image (List.range k) t = t := Nat.eq_of_testBit_eq fun j => by
  rw [Bool.eq_iff_iff, image_has, List.length_range]
  constructor
  · rintro ⟨i, h1, h2, h3⟩
    rw [range_at h1] at h3
    rw [← h3]
    exact h2
  · intro h
    have hj : j < k := bit_lt ht h
    exact ⟨j, hj, h, range_at hj⟩
theorem idx_at {q : List Nat} {j : Nat} (h : j ∈ q) : q.getD (q.idxOf j) 0 = j := by
  have hl := List.idxOf_lt_length_of_mem h
  simp [List.getD, hl]
/-- The elements of which the other ones are made. -/
theorem Beg.inv {m k : Nat} {p xs : List Nat} (_hp : Beg m p) (hl : p.length = k) (hx : ∀ x ∈ xs, x ∈ p) (hn : xs.Nodup) : Beg k (xs.map p.idxOf) ∧ Go.Proofs.YtfajbmcdkhgipaaDoor.comp p (xs.map p.idxOf) = xs := by
  refine ⟨⟨fun i hi => ?_, ?_⟩, ?_⟩
  · obtain ⟨x, h1, rfl⟩ := List.mem_map.1 hi
    rw [← hl]
    exact List.idxOf_lt_length_of_mem (hx x h1)
  · refine List.pairwise_map.2 (List.Pairwise.imp_of_mem (fun {x y} h1 h2 hxy e => hxy ?_) hn)
    rw [← idx_at (hx x h1), ← idx_at (hx y h2), e]
  · unfold Go.Proofs.YtfajbmcdkhgipaaDoor.comp
    rw [List.map_map]
    conv => rhs; rw [← List.map_id xs]
    exact List.map_congr_left fun x h => idx_at (hx x h)
/-- The other one lies in the one, what is left of it contracted or deleted. -/
def Emb (m : Nat) (A : List Nat) (k : Nat) (B : List Nat) : Prop := ∃ (p : List Nat) (C : Nat), Beg m p ∧ p.length = k ∧ C < 2 ^ m ∧ (∀ x ∈ p, C.testBit x = false) ∧ ∀ s, s < 2 ^ k → rk B s + rk A C = rk A (image p s ||| C)
theorem Emb.trans {m k j : Nat} {A B D : List Nat} (h1 : Emb m A k B) (h2 : Emb k B j D) : Emb m A j D := by
  obtain ⟨p, C, hp, hl, hC, hd, hr⟩ := h1
  obtain ⟨p2, C2, hp2, hl2, hC2, hd2, hr2⟩ := h2
  have hlt : ∀ x ∈ p2, x < p.length := fun x hx => by rw [hl]; exact hp2.lt x hx
  refine ⟨comp p p2, image p C2 ||| C, hp.comp hl hp2, by rw [comp_len, hl2], Nat.or_lt_two_pow (hp.image_lt _) hC, fun x hx => ?_, fun s hs => ?_⟩
  · obtain ⟨i, hi, rfl⟩ := List.mem_map.1 hx
    rw [Nat.testBit_or, hp.image_at (hlt i hi), hd2 i hi, Bool.false_or]
    refine hd _ ?_
    have := hlt i hi
    simp [List.getD, this]
  · have e1 := hr2 s hs
    have e2 := hr C2 hC2
    have e3 := hr (image p2 s ||| C2) (Nat.or_lt_two_pow (hp2.image_lt s) hC2)
    rw [image_or, image_comp hlt, Nat.or_assoc] at e3
    omega
theorem con_rk {m d c s : Nat} {A : List Nat} (hm : m ≤ 8) (hb : Bas A) (hc : c < 2 ^ pop (dif (2 ^ m - 1) d)) (hs : s < 2 ^ pop (dif (2 ^ pop (dif (2 ^ m - 1) d) - 1) c)) :
    rk (minL (pop (dif (2 ^ m - 1) d)) (minL m A d 0) c c) s + rk A (old (els (dif (2 ^ m - 1) d)) c) = rk A (image (els (old (els (dif (2 ^ m - 1) d)) (dif (2 ^ pop (dif (2 ^ m - 1) d) - 1) c))) s ||| old (els (dif (2 ^ m - 1) d)) c) := by
  have hkl := kept_lt hm d
  have hK8 := kept_le hm d
  have hJ := kept_ltn (pop (dif (2 ^ m - 1) d)) c
  have h1 : ∀ t, t < 2 ^ pop (dif (2 ^ m - 1) d) → rk (minL m A d 0) t = rk A (old (els (dif (2 ^ m - 1) d)) t) := fun t ht => by
    rw [min_rk hm hb d 0 ht]
    unfold minR
    rw [Nat.or_zero, (hb.rkOn m).zero, Nat.sub_zero]
  have h2 := min_rk hK8 (min_bas hm hb d 0) c c hs
  unfold minR at h2
  rw [h1 c hc, h1 _ (Nat.or_lt_two_pow (old_ltn hK8 c s) hc), old_or, old_old hkl hJ] at h2
  rw [h2, image_old]
  exact Nat.sub_add_cancel (min_ge hb.rk _ _)
end Go.Proofs.YtfajbmcdkhgipaaDoor

namespace Go.Proofs.YtfajbmcdkhgipaaDoor

theorem goes_iff {n : Nat} {q : List Nat} : q ∈ goes n n [] ↔ Beg n q ∧ q.length = n := by
  constructor
  · intro h
    obtain ⟨hl, _⟩ := goes_mem n [] q h
    exact ⟨goes_beg n [] q (beg_nil n) h, by simpa using hl⟩
  · rintro ⟨h1, h2⟩
    exact goes_all n [] q h1 (by simpa using h2) (by simp)
theorem goes_nodup {n : Nat} : ∀ (k : Nat) (p : List Nat), (goes n k p).Nodup
  | 0, p => by rw [goes]; simp
  | k + 1, p => by
    rw [goes]
    have h : ∀ (xs : List Nat), xs.Nodup → (xs.flatMap fun x => if x ∈ p then [] else goes n k (p ++ [x])).Nodup := fun xs => by
      induction xs with
      | nil => intro _; simp
      | cons x xs ih =>
        intro hx
        obtain ⟨hx1, hx2⟩ := List.nodup_cons.1 hx
        rw [List.flatMap_cons, List.nodup_append]
        refine ⟨?_, ih hx2, fun a ha b hb e => ?_⟩
        · split
          · exact List.nodup_nil
          · exact goes_nodup k _
        · subst e
          obtain ⟨y, hy, hb2⟩ := List.mem_flatMap.1 hb
          by_cases h1 : x ∈ p
          · rw [if_pos h1] at ha; cases ha
          · rw [if_neg h1] at ha
            by_cases h2 : y ∈ p
            · rw [if_pos h2] at hb2; cases hb2
            · rw [if_neg h2] at hb2
              have e1 := (goes_mem k _ a ha).2
              have e2 := (goes_mem k _ a hb2).2
              rw [List.length_append, List.length_singleton] at e1 e2
              have e3 := e1.symm.trans e2
              have : x = y := by
                have := List.append_cancel_left e3
                simpa using this
              subst this
              exact hx1 hy
    exact h _ List.nodup_range
theorem ren_comp {n : Nat} {a b A : List Nat} (ha : Beg n a) (hla : a.length = n) (hb : Beg n b) (hlb : b.length = n) (hf : Fam n A) : renL n (comp a b) A = renL n a (renL n b A) := by
  have hc := ha.comp hla hb
  have hlc : (comp a b).length = n := by rw [comp_len, hlb]
  refine sorted_ext (ren_fam _ _ _).up (ren_fam _ _ _).up fun t => ?_
  rw [hc.mem_image hlc hf, ha.mem_image hla (ren_fam n b A)]
  have hlt : ∀ x ∈ b, x < a.length := fun x hx => by rw [hla]; exact hb.lt x hx
  constructor
  · rintro ⟨s, hs, e⟩
    exact ⟨image b s, (hb.mem_image hlb hf).2 ⟨s, hs, rfl⟩, by rw [image_comp hlt]; exact e⟩
  · rintro ⟨c, hc2, e⟩
    obtain ⟨s, hs, rfl⟩ := (hb.mem_image hlb hf).1 hc2
    exact ⟨s, hs, by rw [← image_comp hlt]; exact e⟩
theorem ren_inj {n : Nat} {a X Y : List Nat} (ha : Beg n a) (hla : a.length = n) (hX : Fam n X) (hY : Fam n Y) (h : renL n a X = renL n a Y) : X = Y := by
  have key : ∀ {Z : List Nat}, Fam n Z → ∀ t, t < 2 ^ n → (t ∈ Z ↔ image a t ∈ renL n a Z) := fun hZ t ht => by
    rw [ha.mem_image hla hZ]
    constructor
    · intro h; exact ⟨t, h, rfl⟩
    · rintro ⟨b, hb, e⟩
      have := ha.image_inj (s := b) (t := t) (by rw [hla]; exact hZ.lt b hb) (by rw [hla]; exact ht) e
      rwa [← this]
  refine sorted_ext hX.up hY.up fun t => ?_
  constructor
  · intro ht
    have hlt := hX.lt t ht
    rw [key hY t hlt, ← h, ← key hX t hlt]
    exact ht
  · intro ht
    have hlt := hY.lt t ht
    rw [key hX t hlt, h, ← key hY t hlt]
    exact ht
theorem goes_perm {n : Nat} {a : List Nat} (ha : Beg n a) (hla : a.length = n) : ((goes n n []).map (comp a)).Perm (goes n n []) := by
  refine (List.perm_ext_iff_of_nodup ?_ (goes_nodup n [])).2 fun x => ?_
  · refine List.pairwise_map.2 (List.Pairwise.imp_of_mem (fun {q r} hq hr hqr e => hqr ?_) (goes_nodup n []))
    obtain ⟨hq1, hq2⟩ := goes_iff.1 hq
    obtain ⟨hr1, hr2⟩ := goes_iff.1 hr
    refine List.ext_getElem (by omega) fun i h1 h2 => ?_
    have e1 : (comp a q).getD i 0 = (comp a r).getD i 0 := by rw [e]
    rw [comp_at h1, comp_at h2] at e1
    have := ha.inj (by rw [hla]; exact hq1.at h1) (by rw [hla]; exact hr1.at h2) e1
    simpa [List.getD, h1, h2] using this
  · rw [List.mem_map, goes_iff]
    constructor
    · rintro ⟨q, hq, rfl⟩
      obtain ⟨hq1, hq2⟩ := goes_iff.1 hq
      exact ⟨ha.comp hla hq1, by rw [comp_len, hq2]⟩
    · rintro ⟨h1, h2⟩
      obtain ⟨hb, hc⟩ := ha.inv hla (xs := x) (fun y hy => by
        obtain ⟨i, hi, e⟩ := ha.all hla (h1.lt y hy)
        have : i < a.length := by omega
        rw [← e]
        simp [List.getD, this]) h1.once
      exact ⟨x.map a.idxOf, goes_iff.2 ⟨hb, by rw [List.length_map, h2]⟩, hc⟩
theorem fiber {n : Nat} {A q0 : List Nat} (hf : Fam n A) (hq : q0 ∈ goes n n []) : (goes n n []).countP (fun q => renL n q A == renL n q0 A) = (isoL n A A).length := by
  obtain ⟨h1, h2⟩ := goes_iff.1 hq
  rw [← (goes_perm h1 h2).countP_eq, List.countP_map, List.countP_eq_length_filter]
  unfold isoL
  congr 1
  refine List.filter_congr fun q hq2 => ?_
  obtain ⟨h3, h4⟩ := goes_iff.1 hq2
  show (renL n (comp q0 q) A == renL n q0 A) = (renL n q A == A)
  rw [ren_comp h1 h2 h3 h4 hf, Bool.eq_iff_iff, beq_iff_eq, beq_iff_eq]
  exact ⟨fun e => ren_inj h1 h2 (ren_fam n q A) hf e, fun e => by rw [e]⟩
/-- The unlike ones among those of a list. -/
def addU (L : List (List Nat)) (x : List Nat) : List (List Nat) := if x ∈ L then L else L ++ [x]
theorem addU_mem {L : List (List Nat)} {x y : List Nat} : y ∈ addU L x ↔ y ∈ L ∨ y = x := by
  unfold addU
  split
  · constructor
    · exact .inl
    · rintro (h | rfl)
      · exact h
      · assumption
  · simp
theorem addU_nodup {L : List (List Nat)} {x : List Nat} (h : L.Nodup) : (addU L x).Nodup := by
  unfold addU
  split
  · exact h
  · rename_i hx
    rw [List.nodup_append]
    refine ⟨h, by simp, fun a ha b hb e => ?_⟩
    rw [List.mem_singleton] at hb
    subst hb
    subst e
    exact hx ha
theorem unl_spec (f : List Nat → List Nat) : ∀ (G : List (List Nat)) (L : List (List Nat)), L.Nodup → (G.foldl (fun L q => addU L (f q)) L).Nodup ∧ ∀ y, y ∈ G.foldl (fun L q => addU L (f q)) L ↔ y ∈ L ∨ ∃ q ∈ G, f q = y
  | [], L, h => ⟨h, fun y => by simp⟩
  | q :: G, L, h => by
    obtain ⟨h1, h2⟩ := unl_spec f G (addU L (f q)) (addU_nodup h)
    refine ⟨h1, fun y => ?_⟩
    rw [List.foldl_cons, h2, addU_mem]
    constructor
    · rintro ((h | h) | ⟨r, hr, e⟩)
      · exact .inl h
      · exact .inr ⟨q, List.mem_cons_self, h.symm⟩
      · exact .inr ⟨r, List.mem_cons_of_mem _ hr, e⟩
    · rintro (h | ⟨r, hr, e⟩)
      · exact .inl (.inl h)
      · rcases List.mem_cons.1 hr with rfl | hr
        · exact .inl (.inr e.symm)
        · exact .inr ⟨r, hr, e⟩
theorem countP_or {α : Type} (p r : α → Bool) (G : List α) (h : ∀ x ∈ G, ¬ (p x = true ∧ r x = true)) : G.countP (fun x => p x || r x) = G.countP p + G.countP r := by
  induction G with
  | nil => rfl
  | cons x G ih =>
    have h1 := ih fun y hy => h y (List.mem_cons_of_mem _ hy)
    have h2 := h x List.mem_cons_self
    rw [List.countP_cons, List.countP_cons, List.countP_cons, h1]
    cases e1 : p x <;> cases e2 : r x <;> simp_all <;> omega
theorem count_sum {c : Nat} (f : List Nat → List Nat) (G : List (List Nat)) : ∀ (D : List (List Nat)), D.Nodup → (∀ d ∈ D, G.countP (fun q => f q == d) = c) → G.countP (fun q => decide (f q ∈ D)) = D.length * c
  | [], _, _ => by simp
  | d :: D, hn, hc => by
    obtain ⟨h1, h2⟩ := List.nodup_cons.1 hn
    have ih := count_sum f G D h2 fun e he => hc e (List.mem_cons_of_mem _ he)
    rw [List.length_cons, Nat.succ_mul, ← ih, ← hc d List.mem_cons_self, Nat.add_comm, ← countP_or]
    · refine List.countP_congr fun q _ => ?_
      simp [List.mem_cons]
    · rintro q _ ⟨h3, h4⟩
      rw [beq_iff_eq] at h3
      rw [decide_eq_true_eq, h3] at h4
      exact h1 h4
/-- LAGRANGE. -/
theorem lagrange {n : Nat} {A : List Nat} (hf : Fam n A) : ((goes n n []).foldl (fun L q => addU L (renL n q A)) []).length * (isoL n A A).length = (goes n n []).length := by
  obtain ⟨h1, h2⟩ := unl_spec (fun q => renL n q A) (goes n n []) [] List.nodup_nil
  rw [← count_sum (c := (isoL n A A).length) (fun q => renL n q A) (goes n n []) _ h1 fun d hd => ?_]
  · rw [List.countP_eq_length]
    intro q hq
    rw [decide_eq_true_eq, h2]
    exact .inr ⟨q, hq, rfl⟩
  · rcases (h2 d).1 hd with h | ⟨q0, hq0, rfl⟩
    · cases h
    · exact fiber hf hq0
end Go.Proofs.YtfajbmcdkhgipaaDoor

namespace Go.Proofs.YtfajbmcdkhgipaaDoor

/-- The first list has the first set that only one has. -/
def ltV (T : Nat) (a b : Nat → Bool) : Prop := ∃ s, s < T ∧ (∀ t, t < s → a t = b t) ∧ a s = true ∧ b s = false
def leV (T : Nat) (a b : Nat → Bool) : Prop := ltV T a b ∨ ∀ t, t < T → a t = b t
theorem ltV.trans {T : Nat} {a b c : Nat → Bool} (h : ltV T a b) (k : ltV T b c) : ltV T a c := by
  obtain ⟨s, h1, h2, h3, h4⟩ := h
  obtain ⟨u, k1, k2, k3, k4⟩ := k
  rcases Nat.lt_trichotomy s u with e | e | e
  · exact ⟨s, h1, fun t ht => (h2 t ht).trans (k2 t (by omega)), h3, by rw [← k2 s e]; exact h4⟩
  · subst e
    rw [h4] at k3
    cases k3
  · exact ⟨u, k1, fun t ht => (h2 t (by omega)).trans (k2 t ht), by rw [h2 u e]; exact k3, k4⟩
theorem leV.refl (T : Nat) (a : Nat → Bool) : leV T a a := .inr fun _ _ => rfl
theorem ltV.congr {T : Nat} {a b a' b' : Nat → Bool} (h : ltV T a b) (ha : ∀ t, t < T → a t = a' t) (hb : ∀ t, t < T → b t = b' t) : ltV T a' b' := by
  obtain ⟨s, h1, h2, h3, h4⟩ := h
  exact ⟨s, h1, fun t ht => by rw [← ha t (by omega), ← hb t (by omega)]; exact h2 t ht, by rw [← ha s h1]; exact h3, by rw [← hb s h1]; exact h4⟩
theorem leV.trans {T : Nat} {a b c : Nat → Bool} (h : leV T a b) (k : leV T b c) : leV T a c := by
  rcases h with h | h
  · rcases k with k | k
    · exact .inl (h.trans k)
    · exact .inl (h.congr (fun _ _ => rfl) k)
  · rcases k with k | k
    · exact .inl (k.congr (fun t ht => (h t ht).symm) fun _ _ => rfl)
    · exact .inr fun t ht => (h t ht).trans (k t ht)
theorem leV.anti {T : Nat} {a b : Nat → Bool} (h : leV T a b) (k : leV T b a) : ∀ t, t < T → a t = b t := by
  rcases h with h | h
  · rcases k with k | k
    · obtain ⟨s, _, _, h3, h4⟩ := h.trans k
      rw [h3] at h4
      cases h4
    · exact fun t ht => (k t ht).symm
  · exact h
theorem leV.congr {T : Nat} {a b a' b' : Nat → Bool} (h : leV T a b) (ha : ∀ t, t < T → a t = a' t) (hb : ∀ t, t < T → b t = b' t) : leV T a' b' := by
  rcases h with h | h
  · exact .inl (h.congr ha hb)
  · exact .inr fun t ht => by rw [← ha t ht, ← hb t ht]; exact h t ht
theorem leV.of_not {T : Nat} : ∀ {a b : Nat → Bool}, (∀ s, s < T → (∀ t, t < s → a t = b t) → a s ≠ b s → a s = true) → leV T a b := by
  intro a b h
  by_cases e : ∀ t, t < T → a t = b t
  · exact .inr e
  · have hex : ∃ s, s < T ∧ a s ≠ b s := Classical.byContradiction fun c => e fun t ht => Classical.byContradiction fun d => c ⟨t, ht, d⟩
    have key : ∀ N, ∀ s, s < N → s < T → a s ≠ b s → leV T a b := by
      intro N
      induction N with
      | zero => intro s hs; omega
      | succ N ih =>
        intro s hs hT hne
        by_cases c : ∀ t, t < s → a t = b t
        · have ha := h s hT c hne
          refine .inl ⟨s, hT, c, ha, ?_⟩
          cases hb : b s with
          | false => rfl
          | true => exact absurd (ha.trans hb.symm) hne
        · have : ∃ t, t < s ∧ a t ≠ b t := Classical.byContradiction fun d => c fun t ht => Classical.byContradiction fun f => d ⟨t, ht, f⟩
          obtain ⟨t, ht, hne2⟩ := this
          exact ih t (by omega) (by omega) hne2
    obtain ⟨s, h1, h2⟩ := hex
    exact key (s + 1) s (by omega) h1 h2
/-- Is the list, as far as it is known, no greater? -/
def noGr (a b : Nat → Bool) : List Nat → Bool
  | [] => true
  | s :: r => if a s = b s then noGr a b r else a s
theorem noGr_skip {a b : Nat → Bool} : ∀ (xs : List Nat) (i : Nat), (∀ j, j < i → ∀ (h : j < xs.length), a xs[j] = b xs[j]) → noGr a b xs = noGr a b (xs.drop i)
  | xs, 0, _ => by rw [List.drop_zero]
  | [], i + 1, _ => rfl
  | x :: xs, i + 1, h => by
    have h0 := h 0 (by omega) (by simp)
    rw [noGr, if_pos (by simpa using h0), List.drop_succ_cons]
    exact noGr_skip xs i fun j hj hl => by
      have := h (j + 1) (by omega) (by simpa using hl)
      simpa using this
theorem noGr_at {a b : Nat → Bool} {K i : Nat} (hi : i < K) (h : ∀ t, t < i → a t = b t) : noGr a b (List.range K) = if a i = b i then noGr a b ((List.range K).drop (i + 1)) else a i := by
  rw [noGr_skip (List.range K) i (fun j hj hl => by simp only [List.getElem_range]; exact h j hj), List.drop_eq_getElem_cons (by simpa using hi), noGr]
  simp
theorem noGr_all {a b : Nat → Bool} {K : Nat} (h : ∀ t, t < K → a t = b t) : noGr a b (List.range K) = true := by
  rw [noGr_skip (List.range K) K (fun j hj hl => by simp only [List.getElem_range]; exact h j hj), List.drop_of_length_le (by simp)]
  rfl
theorem noGr_first {a b : Nat → Bool} {K i : Nat} (hi : i < K) (h : ∀ t, t < i → a t = b t) (hne : a i ≠ b i) : noGr a b (List.range K) = a i := by rw [noGr_at hi h, if_neg hne]
theorem noGr_true {a b : Nat → Bool} {K : Nat} (h : noGr a b (List.range K) = true) : leV K a b := leV.of_not fun s hs h1 h2 => by rw [← noGr_first hs h1 h2]; exact h
theorem noGr_false {a b : Nat → Bool} {K : Nat} (h : noGr a b (List.range K) = false) : ltV K b a := by
  have h1 : leV K b a := leV.of_not fun s hs h1 h2 => by
    have h3 := noGr_first hs (fun t ht => (h1 t ht).symm) (fun e => h2 e.symm)
    rw [h] at h3
    cases hb : b s with
    | true => rfl
    | false => exact absurd (h3.symm.trans hb.symm).symm h2
  rcases h1 with h1 | h1
  · exact h1
  · rw [noGr_all fun t ht => (h1 t ht).symm] at h
    cases h
/-- Which sets become bases. -/
def vecB (A : List Nat) (p : List Nat) (s : Nat) : Bool := memB (image p s) A
def canF (A : List Nat) (L : Nat → Bool) (p : List Nat) : Bool := noGr (vecB A p) L (List.range (2 ^ p.length))
def canG (A : List Nat) (_ : Nat → Bool) (p : List Nat) : Bool × (Nat → Bool) := (true, vecB A p)
theorem ltV.mono {T K : Nat} {a b : Nat → Bool} (h : ltV K a b) (hk : K ≤ T) : ltV T a b := by
  obtain ⟨s, h1, h2⟩ := h
  exact ⟨s, by omega, h2⟩
theorem vec_take {A q p : List Nat} {n k : Nat} (h : q ∈ goes n k p) {s : Nat} (hs : s < 2 ^ p.length) : vecB A q s = vecB A p s := by
  obtain ⟨h1, h2⟩ := goes_mem k p q h
  unfold vecB
  rw [← image_take hs (by omega), h2]
/-- What the walk leaves as the least one. -/
def LeastOf (A : List Nat) (T : Nat) (G : List (List Nat)) (L L' : Nat → Bool) : Prop := (L' = L ∨ ∃ q ∈ G, L' = vecB A q) ∧ leV T L' L ∧ ∀ q ∈ G, leV T L' (vecB A q)
theorem LeastOf.trans {A : List Nat} {T : Nat} {G H : List (List Nat)} {L M N : Nat → Bool} (h : LeastOf A T G L M) (k : LeastOf A T H M N) : LeastOf A T (G ++ H) L N := by
  obtain ⟨h1, h2, h3⟩ := h
  obtain ⟨k1, k2, k3⟩ := k
  refine ⟨?_, k2.trans h2, fun q hq => ?_⟩
  · rcases k1 with rfl | ⟨q, hq, e⟩
    · rcases h1 with h1 | ⟨q, hq, e⟩
      · exact .inl h1
      · exact .inr ⟨q, List.mem_append_left _ hq, e⟩
    · exact .inr ⟨q, List.mem_append_right _ hq, e⟩
  · rcases List.mem_append.1 hq with hq | hq
    · exact k2.trans (h3 q hq)
    · exact k3 q hq
theorem can_walk (A : List Nat) (n : Nat) : ∀ (k : Nat) (L : Nat → Bool) (p : List Nat), p.length + k = n → canF A L p = true → (walkO (canF A) (canG A) n k L p).1 = true ∧ LeastOf A (2 ^ n) (goes n k p) L (walkO (canF A) (canG A) n k L p).2
  | 0, L, p, hp, hf => by
    refine ⟨rfl, .inr ⟨p, by rw [goes]; exact List.mem_singleton.2 rfl, rfl⟩, ?_, fun q hq => ?_⟩
    · have := noGr_true hf
      rw [show p.length = n by omega] at this
      exact this
    · rw [goes, List.mem_singleton] at hq
      subst hq
      exact leV.refl _ _
  | k + 1, L, p, hp, _ => by
    have key : ∀ (xs : List Nat) (L : Nat → Bool), (loopO (fun s x => if x ∈ p then (true, s) else if canF A s (p ++ [x]) = true then walkO (canF A) (canG A) n k s (p ++ [x]) else (true, s)) xs L).1 = true ∧ LeastOf A (2 ^ n) (xs.flatMap fun x => if x ∈ p then [] else goes n k (p ++ [x])) L (loopO (fun s x => if x ∈ p then (true, s) else if canF A s (p ++ [x]) = true then walkO (canF A) (canG A) n k s (p ++ [x]) else (true, s)) xs L).2 := by
      intro xs
      induction xs with
      | nil => intro L; exact ⟨rfl, .inl rfl, leV.refl _ _, fun q hq => by cases hq⟩
      | cons x xs ih =>
        intro L
        rw [List.flatMap_cons, loopO]
        by_cases hx : x ∈ p
        · simp only [if_pos hx, if_true, List.nil_append]
          exact ih L
        · by_cases hf : canF A L (p ++ [x]) = true
          · simp only [if_neg hx, if_pos hf]
            obtain ⟨h1, h2⟩ := can_walk A n k L (p ++ [x]) (by simp; omega) hf
            rw [if_pos h1]
            obtain ⟨h3, h4⟩ := ih (walkO (canF A) (canG A) n k L (p ++ [x])).2
            exact ⟨h3, h2.trans h4⟩
          · simp only [if_neg hx, if_neg hf, if_true]
            obtain ⟨h3, h4⟩ := ih L
            refine ⟨h3, LeastOf.trans (M := L) ⟨.inl rfl, leV.refl _ _, fun q hq => ?_⟩ h4⟩
            have h5 := noGr_false (Bool.eq_false_iff.2 hf)
            have hle : (p ++ [x]).length ≤ n := by simp; omega
            refine .inl ((ltV.congr h5 (fun _ _ => rfl) fun t ht => (vec_take hq ht).symm).mono (Nat.pow_le_pow_right (by decide) hle))
    rw [walkO, goes]
    exact key (List.range n) L
/-- The least list: what the program's walk finds. -/
def canV (n : Nat) (A : List Nat) : Nat → Bool := (walkO (canF A) (canG A) n n (fun s => memB s A) []).2
def canL (n : Nat) (A : List Nat) : List Nat := (List.range (2 ^ n)).filter (canV n A)
theorem can_fam (n : Nat) (A : List Nat) : Fam n (canL n A) := Fam.range n _
theorem mem_can {n : Nat} {A : List Nat} {s : Nat} (hs : s < 2 ^ n) : memB s (canL n A) = canV n A s := by
  unfold canL memB
  rw [Bool.eq_iff_iff, decide_eq_true_iff, List.mem_filter, List.mem_range]
  exact ⟨fun h => h.2, fun h => ⟨hs, h⟩⟩
/-- The order that turns another one round. -/
def invL (n : Nat) (p : List Nat) : List Nat := (List.range n).map p.idxOf
theorem inv_beg {n : Nat} {p : List Nat} (h : Beg n p) (hl : p.length = n) : Beg n (invL n p) ∧ (invL n p).length = n ∧ comp p (invL n p) = List.range n := by
  obtain ⟨h1, h2⟩ := h.inv hl (xs := List.range n) (fun x hx => by
    obtain ⟨i, hi, e⟩ := h.all hl (List.mem_range.1 hx)
    have : i < p.length := by omega
    rw [← e]
    simp [List.getD, this]) List.nodup_range
  exact ⟨h1, by simp [invL], h2⟩
theorem inv_image {n : Nat} {p : List Nat} (h : Beg n p) (hl : p.length = n) {s : Nat} (hs : s < 2 ^ n) : image p (image (invL n p) s) = s := by
  obtain ⟨h1, h2, h3⟩ := inv_beg h hl
  rw [image_comp (fun x hx => by rw [hl]; exact h1.lt x hx), h3, image_range hs]
theorem ren_vec {n : Nat} {p A : List Nat} (h : Beg n p) (hl : p.length = n) {s : Nat} (hs : s < 2 ^ n) : memB s (renL n p A) = vecB A (invL n p) s := by
  obtain ⟨h1, h2, _⟩ := inv_beg h hl
  have e : back p s = image (invL n p) s := by
    have := h.back_image (s := image (invL n p) s) (by rw [hl]; exact h1.image_lt _)
    rw [inv_image h hl hs] at this
    exact this
  unfold vecB
  rw [← e, Bool.eq_iff_iff]
  unfold memB
  rw [decide_eq_true_iff, decide_eq_true_iff, mem_ren]
  exact ⟨fun h => h.2, fun h => ⟨hs, h⟩⟩
theorem vec_ren {n : Nat} {q A : List Nat} (h : Beg n q) (hl : q.length = n) {s : Nat} (hs : s < 2 ^ n) : vecB A q s = memB s (renL n (invL n q) A) := by
  obtain ⟨h1, h2, _⟩ := inv_beg h hl
  have e : back (invL n q) s = image q s := by
    have e1 := h1.image_back h2 hs
    rw [← e1, inv_image h hl (by have := back_lt (invL n q) s; rw [h2] at this; exact this), e1]
  unfold vecB
  rw [← e, Bool.eq_iff_iff]
  unfold memB
  rw [decide_eq_true_iff, decide_eq_true_iff, mem_ren]
  exact ⟨fun h => ⟨hs, h⟩, fun h => h.2⟩
theorem fam_ext {n : Nat} {A B : List Nat} (fA : Fam n A) (fB : Fam n B) (h : ∀ s, s < 2 ^ n → memB s A = memB s B) : A = B := by
  refine sorted_ext fA.up fB.up fun t => ?_
  have key : ∀ {X Y : List Nat}, Fam n X → (∀ s, s < 2 ^ n → memB s X = memB s Y) → t ∈ X → t ∈ Y := fun fX h ht => by
    have := h t (fX.lt t ht)
    unfold memB at this
    rw [decide_eq_true ht] at this
    exact of_decide_eq_true this.symm
  exact ⟨key fA h, key fB fun s hs => (h s hs).symm⟩
/-- The least one is one of the renamed ones, and none is less. -/
theorem can_spec {n : Nat} {A : List Nat} (hf : Fam n A) : (∃ p, (Beg n p ∧ p.length = n) ∧ renL n p A = canL n A) ∧ ∀ p, Beg n p → p.length = n → leV (2 ^ n) (fun s => memB s (canL n A)) fun s => memB s (renL n p A) := by
  have h0 : canF A (fun s => memB s A) [] = true := noGr_all fun t ht => by
    have : t = 0 := by simpa using ht
    subst this
    unfold vecB
    rw [image_zero]
  obtain ⟨_, h1, h2, h3⟩ := can_walk A n n (fun s => memB s A) [] (by simp) h0
  constructor
  · rcases h1 with h1 | ⟨q, hq, e⟩
    · refine ⟨List.range n, ⟨⟨fun x hx => List.mem_range.1 hx, List.nodup_range⟩, by simp⟩, fam_ext (ren_fam _ _ _) (can_fam n A) fun s hs => ?_⟩
      rw [mem_can hs]
      unfold canV
      rw [h1, Bool.eq_iff_iff]
      have hr : Beg n (List.range n) := ⟨fun x hx => List.mem_range.1 hx, List.nodup_range⟩
      unfold memB
      rw [decide_eq_true_iff, decide_eq_true_iff, hr.mem_image (by simp) hf]
      constructor
      · rintro ⟨b, hb, rfl⟩
        rw [image_range (hf.lt b hb)]
        exact hb
      · intro h
        exact ⟨s, h, image_range hs⟩
    · obtain ⟨g1, g2⟩ := goes_iff.1 hq
      obtain ⟨g3, g4, _⟩ := inv_beg g1 g2
      refine ⟨invL n q, ⟨g3, g4⟩, fam_ext (ren_fam _ _ _) (can_fam n A) fun s hs => ?_⟩
      rw [mem_can hs, ← vec_ren g1 g2 hs]
      unfold canV
      rw [e]
  · intro p hp hl
    obtain ⟨g3, g4, _⟩ := inv_beg hp hl
    exact (h3 _ (goes_iff.2 ⟨g3, g4⟩)).congr (fun t ht => (mem_can ht).symm) fun t ht => (ren_vec hp hl ht).symm
/-- Other names have the same least list. -/
theorem can_ren {n : Nat} {A p : List Nat} (hf : Fam n A) (hp : Beg n p) (hl : p.length = n) : canL n (renL n p A) = canL n A := by
  obtain ⟨⟨a, ⟨a1, a2⟩, a3⟩, a4⟩ := can_spec hf
  obtain ⟨⟨b, ⟨b1, b2⟩, b3⟩, b4⟩ := can_spec (ren_fam n p A)
  refine fam_ext (can_fam _ _) (can_fam _ _) (leV.anti ?_ ?_)
  · obtain ⟨g3, g4, g5⟩ := inv_beg hp hl
    have h1 := b4 (comp a (invL n p)) (a1.comp a2 g3) (by rw [comp_len, g4])
    have e : renL n (comp a (invL n p)) (renL n p A) = canL n A := by
      rw [ren_comp a1 a2 g3 g4 (ren_fam n p A), ← a3]
      congr 1
      rw [← ren_comp g3 g4 hp hl hf]
      refine fam_ext (ren_fam _ _ _) hf fun s hs => ?_
      have hc := g3.comp g4 hp
      have hlc : (comp (invL n p) p).length = n := by rw [comp_len, hl]
      have key : ∀ t, t < 2 ^ n → image (comp (invL n p) p) t = t := fun t ht => by
        rw [← image_comp (fun x hx => by rw [g4]; exact hp.lt x hx)]
        refine hp.image_inj (by rw [hl]; exact g3.image_lt _) (by rw [hl]; exact ht) ?_
        exact inv_image hp hl (hp.image_lt t)
      rw [Bool.eq_iff_iff]
      unfold memB
      rw [decide_eq_true_iff, decide_eq_true_iff, hc.mem_image hlc hf]
      constructor
      · rintro ⟨x, hx, rfl⟩
        rw [key x (hf.lt x hx)]
        exact hx
      · intro h
        exact ⟨s, h, key s hs⟩
    rw [e] at h1
    exact h1
  · have h1 := a4 (comp b p) (b1.comp b2 hp) (by rw [comp_len, hl])
    rw [ren_comp b1 b2 hp hl hf, b3] at h1
    exact h1
end Go.Proofs.YtfajbmcdkhgipaaDoor

namespace Go.Proofs.YtfajbmcdkhgipaaDoor

/-- What i becomes by the orders of a list. -/
def toS (G : List (List Nat)) (i : Nat) : Nat := G.foldl (fun u q => u ||| 2 ^ q.getD i 0) 0
theorem toS_fold {i j : Nat} : ∀ (G : List (List Nat)) (u : Nat), (G.foldl (fun u q => u ||| 2 ^ q.getD i 0) u).testBit j = (u.testBit j || G.any fun q => decide (q.getD i 0 = j))
  | [], u => by simp
  | q :: G, u => by
    rw [List.foldl_cons, toS_fold G, Nat.testBit_or, Nat.testBit_two_pow, List.any_cons, Bool.or_assoc]
theorem toS_bit {G : List (List Nat)} {i j : Nat} : (toS G i).testBit j = true ↔ ∃ q ∈ G, q.getD i 0 = j := by
  unfold toS
  rw [toS_fold, Nat.zero_testBit, Bool.false_or, List.any_eq_true]
  constructor
  · rintro ⟨q, hq, h⟩
    exact ⟨q, hq, of_decide_eq_true h⟩
  · rintro ⟨q, hq, h⟩
    exact ⟨q, hq, decide_eq_true h⟩
def orbS (n : Nat) (A : List Nat) (i : Nat) : Nat := toS (isoL n A A) i
/-- The sets that elements are in. -/
def orbL (n : Nat) (A : List Nat) : List Nat := (List.range (2 ^ n)).filter fun s => memB s ((List.range n).map (orbS n A))
theorem orbS_lt {n : Nat} {A : List Nat} {i : Nat} (hi : i < n) : orbS n A i < 2 ^ n := lt_of_bits fun j hj => by
  obtain ⟨q, hq, rfl⟩ := toS_bit.1 hj
  obtain ⟨⟨h1, h2⟩, _⟩ := isoL_mem.1 hq
  exact h1.at (by omega)
theorem orb_fam (n : Nat) (A : List Nat) : Fam n (orbL n A) := Fam.range n _
theorem mem_orb {n : Nat} {A : List Nat} {s : Nat} : s ∈ orbL n A ↔ ∃ i, i < n ∧ orbS n A i = s := by
  unfold orbL memB
  rw [List.mem_filter, List.mem_range, decide_eq_true_iff, List.mem_map]
  constructor
  · rintro ⟨_, i, hi, rfl⟩
    exact ⟨i, List.mem_range.1 hi, rfl⟩
  · rintro ⟨i, hi, rfl⟩
    exact ⟨orbS_lt hi, i, List.mem_range.2 hi, rfl⟩
theorem iso_one {n : Nat} {A : List Nat} (hf : Fam n A) : List.range n ∈ isoL n A A := by
  have hr : Beg n (List.range n) := ⟨fun x hx => List.mem_range.1 hx, List.nodup_range⟩
  refine isoL_mem.2 ⟨⟨hr, by simp⟩, fam_ext (ren_fam _ _ _) hf fun s hs => ?_⟩
  rw [Bool.eq_iff_iff]
  unfold memB
  rw [decide_eq_true_iff, decide_eq_true_iff, hr.mem_image (by simp) hf]
  constructor
  · rintro ⟨b, hb, rfl⟩
    rw [image_range (hf.lt b hb)]
    exact hb
  · intro h
    exact ⟨s, h, image_range hs⟩
theorem iso_comp {n : Nat} {A a b : List Nat} (hf : Fam n A) (ha : a ∈ isoL n A A) (hb : b ∈ isoL n A A) : comp a b ∈ isoL n A A := by
  obtain ⟨⟨a1, a2⟩, a3⟩ := isoL_mem.1 ha
  obtain ⟨⟨b1, b2⟩, b3⟩ := isoL_mem.1 hb
  exact isoL_mem.2 ⟨⟨a1.comp a2 b1, by rw [comp_len, b2]⟩, by rw [ren_comp a1 a2 b1 b2 hf, b3, a3]⟩
theorem range_beg (n : Nat) : Beg n (List.range n) := ⟨fun _ hx => List.mem_range.1 hx, List.nodup_range⟩
/-- Both ways round. -/
theorem inv_both {n : Nat} {p : List Nat} (h : Beg n p) (hl : p.length = n) {i : Nat} (hi : i < n) : p.getD ((invL n p).getD i 0) 0 = i ∧ (invL n p).getD (p.getD i 0) 0 = i := by
  obtain ⟨h1, h2, h3⟩ := inv_beg h hl
  have key : ∀ j, j < n → p.getD ((invL n p).getD j 0) 0 = j := fun j hj => by
    rw [← comp_at (a := p) (by omega : j < (invL n p).length), h3, range_at hj]
  refine ⟨key i hi, ?_⟩
  have hp := h.at (by omega : i < p.length)
  exact h.inj (by rw [hl]; exact h1.at (by omega)) (by omega) (key _ hp)
theorem ren_inv {n : Nat} {A p : List Nat} (hf : Fam n A) (hp : Beg n p) (hl : p.length = n) : renL n (invL n p) (renL n p A) = A := by
  obtain ⟨g3, g4, g5⟩ := inv_beg hp hl
  rw [← ren_comp g3 g4 hp hl hf]
  refine fam_ext (ren_fam _ _ _) hf fun s hs => ?_
  have hc := g3.comp g4 hp
  have hlc : (comp (invL n p) p).length = n := by rw [comp_len, hl]
  have key : ∀ t, t < 2 ^ n → image (comp (invL n p) p) t = t := fun t ht => by
    rw [← image_comp (fun x hx => by rw [g4]; exact hp.lt x hx)]
    refine hp.image_inj (by rw [hl]; exact g3.image_lt _) (by rw [hl]; exact ht) ?_
    exact inv_image hp hl (hp.image_lt t)
  rw [Bool.eq_iff_iff]
  unfold memB
  rw [decide_eq_true_iff, decide_eq_true_iff, hc.mem_image hlc hf]
  constructor
  · rintro ⟨x, hx, rfl⟩
    rw [key x (hf.lt x hx)]
    exact hx
  · intro h
    exact ⟨s, h, key s hs⟩
theorem iso_inv {n : Nat} {A a : List Nat} (hf : Fam n A) (ha : a ∈ isoL n A A) : invL n a ∈ isoL n A A := by
  obtain ⟨⟨a1, a2⟩, a3⟩ := isoL_mem.1 ha
  obtain ⟨g3, g4, _⟩ := inv_beg a1 a2
  refine isoL_mem.2 ⟨⟨g3, g4⟩, ?_⟩
  have := ren_inv hf a1 a2
  rwa [a3] at this
/-- Where j is of i's, both have the same. -/
theorem orb_same {n : Nat} {A : List Nat} (hf : Fam n A) {i j : Nat} (hi : i < n) (h : (orbS n A i).testBit j = true) : orbS n A i = orbS n A j := by
  obtain ⟨q, hq, rfl⟩ := toS_bit.1 h
  obtain ⟨⟨q1, q2⟩, _⟩ := isoL_mem.1 hq
  refine Nat.eq_of_testBit_eq fun k => ?_
  rw [Bool.eq_iff_iff]
  unfold orbS
  rw [toS_bit, toS_bit]
  constructor
  · rintro ⟨r, hr, rfl⟩
    obtain ⟨⟨r1, r2⟩, _⟩ := isoL_mem.1 hr
    obtain ⟨g3, g4, _⟩ := inv_beg q1 q2
    refine ⟨comp r (invL n q), iso_comp hf hr (iso_inv hf hq), ?_⟩
    rw [comp_at (by rw [g4]; exact q1.at (by omega)), (inv_both q1 q2 hi).2]
  · rintro ⟨r, hr, rfl⟩
    exact ⟨comp r q, iso_comp hf hr hq, comp_at (by omega)⟩
theorem orb_self {n : Nat} {A : List Nat} (hf : Fam n A) {i : Nat} (hi : i < n) : (orbS n A i).testBit i = true := toS_bit.2 ⟨_, iso_one hf, range_at hi⟩
/-- Two that have an element together are one. -/
theorem orb_meet {n : Nat} {A : List Nat} (hf : Fam n A) {s t : Nat} (hs : s ∈ orbL n A) (ht : t ∈ orbL n A) (h : s &&& t ≠ 0) : s = t := by
  obtain ⟨i, hi, rfl⟩ := mem_orb.1 hs
  obtain ⟨k, hk, rfl⟩ := mem_orb.1 ht
  obtain ⟨j, hj⟩ := exists_bit h
  rw [Nat.testBit_and, Bool.and_eq_true] at hj
  rw [orb_same hf hi hj.1, orb_same hf hk hj.2]
/-- As many orders take i to the one as to the other. -/
theorem orb_count {n : Nat} {A : List Nat} (hf : Fam n A) {i j : Nat} (hi : i < n) (h : (orbS n A i).testBit j = true) : (isoL n A A).countP (fun q => [q.getD i 0] == [j]) = (isoL n A A).countP fun q => [q.getD i 0] == [i] := by
  obtain ⟨a, ha, rfl⟩ := toS_bit.1 h
  obtain ⟨⟨a1, a2⟩, _⟩ := isoL_mem.1 ha
  have hperm : ((isoL n A A).map (comp a)).Perm (isoL n A A) := by
    have hnd : (isoL n A A).Nodup := (goes_nodup n []).sublist List.filter_sublist
    refine (List.perm_ext_iff_of_nodup ?_ hnd).2 fun x => ?_
    · refine List.pairwise_map.2 (List.Pairwise.imp_of_mem (fun {q r} hq hr hqr e => hqr ?_) hnd)
      obtain ⟨⟨q1, q2⟩, _⟩ := isoL_mem.1 hq
      obtain ⟨⟨r1, r2⟩, _⟩ := isoL_mem.1 hr
      refine List.ext_getElem (by omega) fun k h1 h2 => ?_
      have e1 : (comp a q).getD k 0 = (comp a r).getD k 0 := by rw [e]
      rw [comp_at h1, comp_at h2] at e1
      have := a1.inj (by rw [a2]; exact q1.at h1) (by rw [a2]; exact r1.at h2) e1
      simpa [List.getD, h1, h2] using this
    · rw [List.mem_map]
      constructor
      · rintro ⟨q, hq, rfl⟩
        exact iso_comp hf ha hq
      · intro hx
        obtain ⟨⟨x1, x2⟩, _⟩ := isoL_mem.1 hx
        obtain ⟨g3, g4, _⟩ := inv_beg a1 a2
        refine ⟨comp (invL n a) x, iso_comp hf (iso_inv hf ha) hx, ?_⟩
        refine List.ext_getElem (by rw [comp_len, comp_len]) fun k h1 h2 => ?_
        have e1 : (comp a (comp (invL n a) x)).getD k 0 = x.getD k 0 := by
          rw [comp_at (by rw [comp_len]; exact h2), comp_at h2, (inv_both a1 a2 (x1.at h2)).1]
        simpa [List.getD, h1, h2] using e1
  rw [← hperm.countP_eq, List.countP_map]
  refine List.countP_congr fun q hq => ?_
  obtain ⟨⟨q1, q2⟩, _⟩ := isoL_mem.1 hq
  simp only [Function.comp_apply, beq_iff_eq, List.cons.injEq, and_true]
  rw [comp_at (by omega)]
  constructor
  · intro e
    exact a1.inj (by rw [a2]; exact q1.at (by omega)) (by omega) e
  · intro e
    rw [e]
/-- The number of elements of a set, counted one by one. -/
theorem pop_list {n : Nat} (hn : n ≤ 8) : ∀ (N : Nat) {s : Nat}, pop s ≤ N → s < 2 ^ n → ((List.range n).filter s.testBit).length = pop s := by
  intro N
  induction N with
  | zero =>
    intro s h0 hs
    have : s = 0 := (pop_pos s (lt256 hn hs)).1 (by omega)
    subst this
    rw [List.filter_eq_nil_iff.2 (fun x _ h => by rw [Nat.zero_testBit] at h; cases h)]
    decide
  | succ N ih =>
    intro s hN hs
    by_cases e0 : s = 0
    · subst e0
      exact ih (by rw [show pop 0 = 0 from by decide]; omega) hs
    · obtain ⟨i, hi⟩ := exists_bit e0
      have hs8 := lt256 hn hs
      have h1 := pop_rm' hs8 hi
      have hlt := rm_lt hs8 hi
      have h2 := ih (s := rm s i) (by omega) (by omega)
      have hil := bit_lt hs hi
      have hc : ((List.range n).filter s.testBit).length = ((List.range n).filter (rm s i).testBit).length + ((List.range n).filter fun x => decide (x = i)).length := by
        rw [← List.countP_eq_length_filter, ← List.countP_eq_length_filter, ← List.countP_eq_length_filter]
        generalize List.range n = G
        induction G with
        | nil => rfl
        | cons x G ih2 =>
          rw [List.countP_cons, List.countP_cons, List.countP_cons, ih2, rm_bit]
          by_cases ex : i = x
          · subst ex
            simp [hi]
            omega
          · have : ¬ x = i := fun e => ex e.symm
            simp [ex, this]
            omega
      have h3 : ((List.range n).filter fun x => decide (x = i)).length = 1 := by
        rw [← List.countP_eq_length_filter]
        have := List.nodup_range (n := n) |>.count (a := i)
        rw [if_pos (List.mem_range.2 hil), List.count_eq_countP] at this
        rw [← this]
        exact List.countP_congr fun x _ => by simp
      omega
/-- A set's size is one of the group's number. -/
theorem orb_divides {n : Nat} {A : List Nat} (hn : n ≤ 8) (hf : Fam n A) {s : Nat} (hs : s ∈ orbL n A) : (isoL n A A).length % pop s = 0 := by
  obtain ⟨i, hi, rfl⟩ := mem_orb.1 hs
  have hD : (((List.range n).filter (orbS n A i).testBit).map fun j => [j]).Nodup := by
    refine List.pairwise_map.2 (List.Pairwise.imp (fun h e => h (by simpa using e)) (List.nodup_range.sublist List.filter_sublist))
  have h1 := count_sum (c := (isoL n A A).countP fun q => [q.getD i 0] == [i]) (fun q => [q.getD i 0]) (isoL n A A) _ hD (fun d hd => by
    obtain ⟨j, hj, rfl⟩ := List.mem_map.1 hd
    exact orb_count hf hi (List.mem_filter.1 hj).2)
  rw [List.length_map, pop_list hn _ (Nat.le_refl _) (orbS_lt hi)] at h1
  have h2 : (isoL n A A).countP (fun q => decide ([q.getD i 0] ∈ (((List.range n).filter (orbS n A i).testBit).map fun j => [j]))) = (isoL n A A).length := by
    rw [List.countP_eq_length]
    intro q hq
    obtain ⟨⟨q1, q2⟩, _⟩ := isoL_mem.1 hq
    rw [decide_eq_true_iff, List.mem_map]
    exact ⟨q.getD i 0, List.mem_filter.2 ⟨List.mem_range.2 (q1.at (by omega)), toS_bit.2 ⟨q, hq, rfl⟩⟩, rfl⟩
  rw [h2] at h1
  rw [h1]
  exact Nat.mul_mod_right _ _
def fac : Nat → Nat
  | 0 => 1
  | n + 1 => (n + 1) * fac n
/-- There are so many orders. -/
theorem goes_fac {n : Nat} : ∀ (k : Nat) (p : List Nat), Beg n p → p.length + k = n → (goes n k p).length = fac k
  | 0, p, _, _ => rfl
  | k + 1, p, hb, hl => by
    rw [goes, fac]
    have h : ∀ (xs : List Nat), (∀ x ∈ xs, x < n) → (xs.flatMap fun x => if x ∈ p then [] else goes n k (p ++ [x])).length = (xs.countP fun x => decide (x ∉ p)) * fac k := fun xs => by
      induction xs with
      | nil => intro _; simp
      | cons x xs ih =>
        intro hx
        rw [List.flatMap_cons, List.length_append, List.countP_cons, ih fun y hy => hx y (List.mem_cons_of_mem _ hy)]
        by_cases hm : x ∈ p
        · rw [if_pos hm]
          simp [hm]
        · rw [if_neg hm, goes_fac k (p ++ [x]) ?_ (by simp; omega)]
          · simp [hm, Nat.add_mul, Nat.add_comm]
          · refine ⟨fun y hy => ?_, ?_⟩
            · rcases List.mem_append.1 hy with hy | hy
              · exact hb.lt y hy
              · rw [List.mem_singleton.1 hy]; exact hx x List.mem_cons_self
            · rw [List.nodup_append]
              refine ⟨hb.once, List.nodup_cons.2 ⟨List.not_mem_nil, List.nodup_nil⟩, fun a ha b hb' => ?_⟩
              rw [List.mem_singleton.1 hb']
              rintro rfl
              exact hm ha
    rw [h _ fun x hx => List.mem_range.1 hx]
    congr 1
    have h1 : (List.range n).countP (fun x => decide (x ∉ p)) + (List.range n).countP (fun x => decide (x ∈ p)) = n := by
      have := List.length_eq_countP_add_countP (fun x => decide (x ∉ p)) (l := List.range n)
      rw [List.length_range] at this
      have e : (List.range n).countP (fun a => decide ¬ (decide (a ∉ p)) = true) = (List.range n).countP fun x => decide (x ∈ p) := List.countP_congr fun x _ => by simp
      omega
    have h2 : (List.range n).countP (fun x => decide (x ∈ p)) = p.length := by
      rw [List.countP_eq_length_filter]
      refine List.Perm.length_eq ((List.perm_ext_iff_of_nodup (List.nodup_range.sublist List.filter_sublist) hb.once).2 fun x => ?_)
      rw [List.mem_filter, List.mem_range, decide_eq_true_iff]
      exact ⟨fun h => h.2, fun h => ⟨hb.lt x h, h⟩⟩
    omega
/-- LAGRANGE: the group's number is one of all orders'. -/
theorem iso_divides {n : Nat} {A : List Nat} (hf : Fam n A) : fac n % (isoL n A A).length = 0 := by
  have h := lagrange hf
  rw [goes_fac n [] (beg_nil n) (by simp)] at h
  rw [← h]
  exact Nat.mul_mod_left _ _
theorem iso_pos {n : Nat} {A : List Nat} (hf : Fam n A) : 0 < (isoL n A A).length := List.length_pos_of_mem (iso_one hf)
/-- Other names have as large a group. -/
theorem iso_ren {n : Nat} {A p : List Nat} (hf : Fam n A) (hp : Beg n p) (hl : p.length = n) : (isoL n (renL n p A) (renL n p A)).length = (isoL n A A).length := by
  rw [← fiber hf (goes_iff.2 ⟨hp, hl⟩), List.countP_eq_length_filter]
  have hnd : ((goes n n []).filter fun q => renL n q A == renL n p A).Nodup := (goes_nodup n []).sublist List.filter_sublist
  have hnd2 : (isoL n (renL n p A) (renL n p A)).Nodup := (goes_nodup n []).sublist List.filter_sublist
  have hperm : ((isoL n (renL n p A) (renL n p A)).map fun q => comp q p).Perm ((goes n n []).filter fun q => renL n q A == renL n p A) := by
    refine (List.perm_ext_iff_of_nodup ?_ hnd).2 fun x => ?_
    · refine List.pairwise_map.2 (List.Pairwise.imp_of_mem (fun {q r} hq hr hqr e => hqr ?_) hnd2)
      obtain ⟨⟨q1, q2⟩, _⟩ := isoL_mem.1 hq
      obtain ⟨⟨r1, r2⟩, _⟩ := isoL_mem.1 hr
      refine List.ext_getElem (by omega) fun k h1 h2 => ?_
      obtain ⟨i, hi, rfl⟩ := hp.all hl (show k < n by omega)
      have e1 : (comp q p).getD i 0 = (comp r p).getD i 0 := by rw [e]
      rw [comp_at (by omega), comp_at (by omega)] at e1
      generalize p.getD i 0 = k at *
      simpa [List.getD, h1, h2] using e1
    · rw [List.mem_map, List.mem_filter, beq_iff_eq]
      constructor
      · rintro ⟨q, hq, rfl⟩
        obtain ⟨⟨q1, q2⟩, q3⟩ := isoL_mem.1 hq
        exact ⟨goes_iff.2 ⟨q1.comp q2 hp, by rw [comp_len, hl]⟩, by rw [ren_comp q1 q2 hp hl hf, q3]⟩
      · rintro ⟨hx, hx3⟩
        obtain ⟨x1, x2⟩ := goes_iff.1 hx
        obtain ⟨g3, g4, _⟩ := inv_beg hp hl
        refine ⟨comp x (invL n p), isoL_mem.2 ⟨⟨x1.comp x2 g3, by rw [comp_len, g4]⟩, ?_⟩, ?_⟩
        · rw [ren_comp x1 x2 g3 g4 (ren_fam n p A), ren_inv hf hp hl, hx3]
        · refine List.ext_getElem (by rw [comp_len, hl, x2]) fun k h1 h2 => ?_
          have hk : k < n := by omega
          have e1 : (comp (comp x (invL n p)) p).getD k 0 = x.getD k 0 := by
            rw [comp_at (by omega), comp_at (by rw [g4]; exact hp.at (by omega)), (inv_both hp hl hk).2]
          simpa [List.getD, h1, h2] using e1
  rw [← hperm.length_eq, List.length_map]
/-- All that is in the first i of them. -/
def orT (L : List Nat) (i : Nat) : Nat := (L.take i).foldl (· ||| ·) 0
theorem orT_fold : ∀ (L : List Nat) (u j : Nat), (L.foldl (· ||| ·) u).testBit j = (u.testBit j || L.any fun s => s.testBit j)
  | [], u, j => by simp
  | s :: L, u, j => by rw [List.foldl_cons, orT_fold L, Nat.testBit_or, List.any_cons, Bool.or_assoc]
theorem orT_bit {L : List Nat} {i j : Nat} : (orT L i).testBit j = true ↔ ∃ s ∈ L.take i, s.testBit j = true := by
  unfold orT
  rw [orT_fold, Nat.zero_testBit, Bool.false_or, List.any_eq_true]
theorem orT_succ {L : List Nat} {i : Nat} (h : i < L.length) : orT L (i + 1) = orT L i ||| L.getD i 0 := by
  unfold orT
  rw [List.take_add_one, List.foldl_append, List.getElem?_eq_getElem h]
  simp [List.getD, h]
theorem orT_lt {n : Nat} {L : List Nat} (hL : ∀ s ∈ L, s < 2 ^ n) (i : Nat) : orT L i < 2 ^ n := lt_of_bits fun j hj => by
  obtain ⟨s, hs, hb⟩ := orT_bit.1 hj
  exact bit_lt (hL s (List.mem_of_mem_take hs)) hb
theorem orb_free {n : Nat} {A : List Nat} (hf : Fam n A) {i : Nat} (hi : i < (orbL n A).length) : orT (orbL n A) i &&& (orbL n A).getD i 0 = 0 := by
  refine Classical.byContradiction fun c => ?_
  obtain ⟨j, hj⟩ := exists_bit c
  rw [Nat.testBit_and, Bool.and_eq_true] at hj
  obtain ⟨s, hs, hb⟩ := orT_bit.1 hj.1
  obtain ⟨k, hk, e⟩ := List.mem_take_iff_getElem.1 hs
  have hm : (orbL n A).getD i 0 ∈ orbL n A := by simp [List.getD, hi]
  have hs2 : s ∈ orbL n A := List.mem_of_mem_take hs
  have hne : s &&& (orbL n A).getD i 0 ≠ 0 := fun e0 => by
    have : (s &&& (orbL n A).getD i 0).testBit j = true := by rw [Nat.testBit_and, hb, hj.2]; rfl
    rw [e0, Nat.zero_testBit] at this
    cases this
  have h1 := orb_meet hf hs2 hm hne
  have hki : k < i := by omega
  have h2 := List.pairwise_iff_getElem.1 (orb_fam n A).up k i (by omega) hi hki
  rw [e, h1] at h2
  simp [List.getD, hi] at h2
theorem orb_all {n : Nat} {A : List Nat} (hf : Fam n A) : orT (orbL n A) (orbL n A).length = 2 ^ n - 1 := Nat.eq_of_testBit_eq fun j => by
  rw [Nat.testBit_two_pow_sub_one, Bool.eq_iff_iff, orT_bit, List.take_length, decide_eq_true_iff]
  constructor
  · rintro ⟨s, hs, hb⟩
    exact bit_lt ((orb_fam n A).lt s hs) hb
  · intro hj
    exact ⟨_, mem_orb.2 ⟨j, hj, rfl⟩, orb_self hf hj⟩
theorem orb_pos {n : Nat} {A : List Nat} (hn : n ≤ 8) (hf : Fam n A) {s : Nat} (hs : s ∈ orbL n A) : pop s ≠ 0 := by
  obtain ⟨i, hi, rfl⟩ := mem_orb.1 hs
  intro e
  have := (pop_pos _ (lt256 hn (orbS_lt hi))).1 e
  have h1 := orb_self hf hi
  rw [this, Nat.zero_testBit] at h1
  cases h1
theorem fac_le {n : Nat} (hn : n ≤ 8) : fac n ≤ 40320 := by
  have : ∀ k, k ≤ 8 → fac k ≤ 40320 := by decide
  exact this n hn
theorem tmod_nat (a b : Nat) (h : a % b = 0) : Int.tmod (a : Int) (b : Int) = 0 := by
  rw [Int.tmod_eq_emod_of_nonneg (by omega)]
  omega
end Go.Proofs.YtfajbmcdkhgipaaDoor

namespace Go.Proofs.YtfajbmcdkhgipaaDoor

theorem top_add {n s : Nat} (hs : s < 2 ^ n) : s ||| 2 ^ n = s + 2 ^ n := by
  have := Nat.two_pow_add_eq_or_of_lt hs 1
  rw [Nat.mul_one] at this
  rw [Nat.or_comm, Nat.add_comm, ← this]
theorem top_lt {n s : Nat} (hs : s < 2 ^ n) : s ||| 2 ^ n < 2 ^ (n + 1) := by rw [top_add hs, Nat.pow_succ]; omega
theorem up_lt {n s : Nat} (hs : s < 2 ^ n) : s < 2 ^ (n + 1) := by rw [Nat.pow_succ]; omega
theorem top_cpl {n s : Nat} (hs : s < 2 ^ n) : 2 ^ (n + 1) - 1 - s = (2 ^ n - 1 - s) ||| 2 ^ n := by
  rw [top_add (by omega), Nat.pow_succ]; omega
theorem top_cpl' {n s : Nat} (hs : s < 2 ^ n) : 2 ^ (n + 1) - 1 - (s ||| 2 ^ n) = 2 ^ n - 1 - s := by
  rw [top_add hs, Nat.pow_succ]; omega
theorem no_top {n s : Nat} (hs : s < 2 ^ n) : s.testBit n = false := Nat.testBit_lt_two_pow hs
theorem or_ltn {n s t : Nat} (hs : s < 2 ^ n) (ht : t < 2 ^ n) : s ||| t < 2 ^ n := Nat.or_lt_two_pow hs ht
theorem RkOn.down {n : Nat} {r : Nat → Nat} (h : RkOn (n + 1) r) : RkOn n r :=
  ⟨fun s hs => h.le s (up_lt hs), fun s t hs ht => h.mono s t (up_lt hs) (up_lt ht), fun s t hs ht => h.sub s t (up_lt hs) (up_lt ht)⟩
theorem RkOn.add {n : Nat} {r : Nat → Nat} (h : RkOn n r) {s t : Nat} (hs : s < 2 ^ n) (ht : t < 2 ^ n) : r (s ||| t) ≤ r s + r t := by
  have := h.sub s t hs ht; omega
theorem RkOn.con {n : Nat} {r : Nat → Nat} (hn : n < 8) (h : RkOn (n + 1) r) (h1 : 1 ≤ r (2 ^ n)) : RkOn n (fun s => r (s ||| 2 ^ n) - 1) := by
  have he : 2 ^ n < 2 ^ (n + 1) := by rw [Nat.pow_succ]; have := Nat.two_pow_pos n; omega
  have hge : ∀ s, s < 2 ^ n → 1 ≤ r (s ||| 2 ^ n) := fun s hs => Nat.le_trans h1 (h.mono _ _ he (top_lt hs) (subB_iff.2 fun i hi => by rw [Nat.testBit_or, hi]; simp))
  refine ⟨fun s hs => ?_, fun s t hs ht hst => ?_, fun s t hs ht => ?_⟩
  · have := h.le _ (top_lt hs)
    rw [pop_ad s (Nat.lt_of_lt_of_le hs (Nat.pow_le_pow_right (by omega) (by omega : n ≤ 8))) n hn (no_top hs)] at this
    omega
  · have := h.mono _ _ (top_lt hs) (top_lt ht) (subB_iff.2 fun i hi => by
      rw [Nat.testBit_or] at hi ⊢
      have := subB_iff.1 hst i
      cases e : s.testBit i <;> simp_all)
    omega
  · have h2 := h.sub _ _ (top_lt hs) (top_lt ht)
    have e1 : (s ||| 2 ^ n) ||| (t ||| 2 ^ n) = (s ||| t) ||| 2 ^ n := Nat.eq_of_testBit_eq fun j => by
      simp only [Nat.testBit_or]; cases s.testBit j <;> cases t.testBit j <;> cases (2 ^ n).testBit j <;> rfl
    have e2 : (s ||| 2 ^ n) &&& (t ||| 2 ^ n) = (s &&& t) ||| 2 ^ n := Nat.eq_of_testBit_eq fun j => by
      simp only [Nat.testBit_or, Nat.testBit_and]; cases s.testBit j <;> cases t.testBit j <;> cases (2 ^ n).testBit j <;> rfl
    rw [e1, e2] at h2
    have h3 := hge (s ||| t) (or_ltn hs ht)
    have h4 := hge (s &&& t) (and_ltn hs)
    have h5 := hge s hs
    have h6 := hge t ht
    omega
/-- EDMONDS: where no set bars it there is a set of k elements that is independent in both. -/
theorem isect : ∀ (n : Nat), n ≤ 8 → ∀ (r q : Nat → Nat), RkOn n r → RkOn n q → ∀ k, (∀ s, s < 2 ^ n → k ≤ r s + q (2 ^ n - 1 - s)) → ∃ i, i < 2 ^ n ∧ pop i = k ∧ r i = k ∧ q i = k := by
  intro n
  induction n with
  | zero =>
    intro _ r q hr hq k hk
    have h1 := hk 0 (by decide)
    have h2 := hr.zero
    have h3 := hq.zero
    have e : 2 ^ 0 - 1 - 0 = 0 := rfl
    rw [e, h2, h3] at h1
    have e2 : k = 0 := by omega
    subst e2
    exact ⟨0, by decide, by decide, h2, h3⟩
  | succ n ih =>
    intro hn r q hr hq k hk
    by_cases hA : ∀ s, s < 2 ^ n → k ≤ r s + q (2 ^ n - 1 - s)
    · obtain ⟨i, h1, h2⟩ := ih (by omega) r q hr.down hq.down k hA
      exact ⟨i, up_lt h1, h2⟩
    · obtain ⟨s, hs⟩ := Classical.not_forall.1 hA
      obtain ⟨hs, hlt⟩ := Classical.not_imp.1 hs
      have hlt : r s + q (2 ^ n - 1 - s) < k := by omega
      have hcs : 2 ^ n - 1 - s < 2 ^ n := by have := Nat.two_pow_pos n; omega
      have he : 2 ^ n < 2 ^ (n + 1) := by rw [Nat.pow_succ]; have := Nat.two_pow_pos n; omega
      have r1 : 1 ≤ r (2 ^ n) := by
        have h1 := hk (s ||| 2 ^ n) (top_lt hs)
        rw [top_cpl' hs] at h1
        have h2 := hr.add (up_lt hs) he
        omega
      have q1 : 1 ≤ q (2 ^ n) := by
        have h1 := hk s (up_lt hs)
        rw [top_cpl hs] at h1
        have h2 := hq.add (up_lt hcs) he
        omega
      obtain ⟨i, i1, i2, i3, i4⟩ := ih (by omega) _ _ (hr.con (by omega) r1) (hq.con (by omega) q1) (k - 1) (fun t ht => by
        have hct : 2 ^ n - 1 - t < 2 ^ n := by have := Nat.two_pow_pos n; omega
        have a1 := hr.sub s (t ||| 2 ^ n) (up_lt hs) (top_lt ht)
        have a2 := hq.sub (2 ^ n - 1 - s) ((2 ^ n - 1 - t) ||| 2 ^ n) (up_lt hcs) (top_lt hct)
        have b1 := hk (s &&& t) (up_lt (and_ltn hs))
        have b2 := hk ((s ||| t) ||| 2 ^ n) (top_lt (or_ltn hs ht))
        rw [top_cpl (and_ltn hs), cpl_and hs ht] at b1
        rw [top_cpl' (or_ltn hs ht), cpl_or hs ht] at b2
        have e1 : s ||| (t ||| 2 ^ n) = (s ||| t) ||| 2 ^ n := (Nat.or_assoc ..).symm
        have e2 : s &&& (t ||| 2 ^ n) = s &&& t := and_ad_out (no_top hs)
        have e3 : (2 ^ n - 1 - s) ||| ((2 ^ n - 1 - t) ||| 2 ^ n) = ((2 ^ n - 1 - s) ||| (2 ^ n - 1 - t)) ||| 2 ^ n := (Nat.or_assoc ..).symm
        have e4 : (2 ^ n - 1 - s) &&& ((2 ^ n - 1 - t) ||| 2 ^ n) = (2 ^ n - 1 - s) &&& (2 ^ n - 1 - t) := and_ad_out (no_top hcs)
        rw [e1, e2] at a1
        rw [e3, e4] at a2
        have c1 : 1 ≤ r (t ||| 2 ^ n) := Nat.le_trans r1 (hr.mono _ _ he (top_lt ht) (subB_iff.2 fun i hi => by rw [Nat.testBit_or, hi]; simp))
        have c2 : 1 ≤ q ((2 ^ n - 1 - t) ||| 2 ^ n) := Nat.le_trans q1 (hq.mono _ _ he (top_lt hct) (subB_iff.2 fun i hi => by rw [Nat.testBit_or, hi]; simp))
        omega)
      have p := pop_ad i (Nat.lt_of_lt_of_le i1 (Nat.pow_le_pow_right (by omega) (by omega : n ≤ 8))) n (by omega) (no_top i1)
      have c1 : 1 ≤ r (i ||| 2 ^ n) := Nat.le_trans r1 (hr.mono _ _ he (top_lt i1) (subB_iff.2 fun i hi => by rw [Nat.testBit_or, hi]; simp))
      have c2 : 1 ≤ q (i ||| 2 ^ n) := Nat.le_trans q1 (hq.mono _ _ he (top_lt i1) (subB_iff.2 fun i hi => by rw [Nat.testBit_or, hi]; simp))
      exact ⟨i ||| 2 ^ n, top_lt i1, by omega, by omega, by omega⟩

theorem difn_lt {n a b : Nat} (h : a < 2 ^ n) : dif a b < 2 ^ n := sub_lt (subB_iff.2 fun i hi => by rw [dif_bit] at hi; simp at hi; exact hi.1) h
theorem dif_subl (a b : Nat) : subB (dif a b) a = true := subB_iff.2 fun i hi => by rw [dif_bit] at hi; simp at hi; exact hi.1
theorem RkOn.gap {n : Nat} {r : Nat → Nat} (h : RkOn n r) {a b : Nat} (ha : a < 2 ^ n) (hb : b < 2 ^ n) : r a ≤ r b + pop (dif a b) := by
  have h1 := h.add hb (difn_lt (b := b) ha)
  have h2 := h.le _ (difn_lt (b := b) ha)
  have h3 := h.mono a (b ||| dif a b) ha (or_ltn hb (difn_lt ha)) (subB_iff.2 fun i hi => by rw [Nat.testBit_or, dif_bit, hi]; cases b.testBit i <;> rfl)
  omega
theorem pop_disj {a b : Nat} (h : a &&& b = 0) : pop (a ||| b) = pop a + pop b := by
  have := pop_or_and a b
  rw [h] at this
  have e : pop 0 = 0 := by decide
  omega
/-- GREENE: of two bases, for any elements of the one alone there are some of the other alone. -/
theorem greene {n : Nat} {l : List Nat} (hn : n ≤ 8) (hf : Fam n l) (hb : Bas l) {a b x : Nat} (ha : a ∈ l) (hbb : b ∈ l) (hx : subB x (dif a b) = true) :
    ∃ y, subB y (dif b a) = true ∧ pop y = pop x ∧ (dif a x ||| y) ∈ l ∧ (dif b y ||| x) ∈ l := by
  have self := basR_self hn hf hb
  rw [← self] at ha hbb
  obtain ⟨a1, a2, a3⟩ := mem_basR.1 ha
  obtain ⟨b1, b2, b3⟩ := mem_basR.1 hbb
  have R := hb.rkOn n
  generalize rk l = r at *
  have hx1 : x < 2 ^ n := sub_lt hx (difn_lt a1)
  have c1 : dif a x < 2 ^ n := difn_lt a1
  have xa : ∀ i, x.testBit i = true → a.testBit i = true ∧ b.testBit i = false := fun i hi => by
    have := subB_iff.1 hx i hi
    rw [dif_bit] at this
    simp at this
    exact this
  have ca : dif a x ||| x = a := Nat.eq_of_testBit_eq fun i => by
    rw [Nat.testBit_or, dif_bit]
    have := xa i
    cases e : x.testBit i <;> cases e2 : a.testBit i <;> simp_all
  have cx : dif a x &&& x = 0 := Nat.eq_of_testBit_eq fun i => by
    rw [Nat.testBit_and, dif_bit]
    cases e : x.testBit i <;> simp
  have pc := pop_disj cx
  rw [ca] at pc
  -- what is left of a is independent
  have rc : r (dif a x) = pop (dif a x) := by
    have h1 := R.add c1 hx1
    have h2 := R.le _ c1
    have h3 := R.le _ hx1
    rw [ca] at h1
    omega
  have rx : r x = pop x := by
    have h1 := R.add c1 hx1
    have h2 := R.le _ c1
    have h3 := R.le _ hx1
    rw [ca] at h1
    omega
  have hbs : ∀ s, s &&& b < 2 ^ n := fun s => Nat.lt_of_le_of_lt Nat.and_le_right b1
  have full : 2 ^ n - 1 < 2 ^ n := full_lt n
  have u1 : ∀ s, (s &&& b) ||| dif a x < 2 ^ n := fun s => or_ltn (hbs s) c1
  have u2 : ∀ s, dif b s ||| x < 2 ^ n := fun s => or_ltn (difn_lt b1) hx1
  have g1 : ∀ s, pop (dif a x) ≤ r ((s &&& b) ||| dif a x) := fun s => by
    rw [← rc]
    exact R.mono _ _ c1 (u1 s) (subB_iff.2 fun i hi => by rw [Nat.testBit_or, hi]; simp)
  have top : ∀ s, s < 2 ^ n → r s ≤ r (2 ^ n - 1) := fun s hs => R.mono _ _ hs full (full_sub hs)
  have g2 : ∀ s, r (2 ^ n - 1) ≤ pop (s &&& b) + r (dif b s ||| x) := fun s => by
    have h1 := R.gap b1 (u2 s)
    have h2 : pop (dif b (dif b s ||| x)) ≤ pop (s &&& b) := pop_sub (subB_iff.2 fun i hi => by
      rw [dif_bit, Nat.testBit_or, dif_bit] at hi
      rw [Nat.testBit_and]
      cases e : s.testBit i <;> cases e2 : b.testBit i <;> simp_all)
    omega
  have r1on : RkOn n (fun s => r ((s &&& b) ||| dif a x) - pop (dif a x)) := by
    refine ⟨fun s hs => ?_, fun s t hs ht hst => ?_, fun s t hs ht => ?_⟩
    · have h1 := R.add (hbs s) c1
      have h2 := R.le _ (hbs s)
      have h3 : pop (s &&& b) ≤ pop s := pop_sub (subB_iff.2 fun i hi => by rw [Nat.testBit_and] at hi; simp at hi; exact hi.1)
      omega
    · have := R.mono _ _ (u1 s) (u1 t) (subB_iff.2 fun i hi => by
        rw [Nat.testBit_or, Nat.testBit_and] at hi ⊢
        have := subB_iff.1 hst i
        cases e : s.testBit i <;> cases e2 : b.testBit i <;> simp_all)
      omega
    · have h1 := R.sub _ _ (u1 s) (u1 t)
      have e1 : ((s &&& b) ||| dif a x) ||| ((t &&& b) ||| dif a x) = ((s ||| t) &&& b) ||| dif a x := Nat.eq_of_testBit_eq fun i => by
        simp only [Nat.testBit_or, Nat.testBit_and]
        cases s.testBit i <;> cases t.testBit i <;> cases b.testBit i <;> cases (dif a x).testBit i <;> rfl
      have e2 : ((s &&& b) ||| dif a x) &&& ((t &&& b) ||| dif a x) = ((s &&& t) &&& b) ||| dif a x := Nat.eq_of_testBit_eq fun i => by
        simp only [Nat.testBit_or, Nat.testBit_and]
        cases s.testBit i <;> cases t.testBit i <;> cases b.testBit i <;> cases (dif a x).testBit i <;> rfl
      rw [e1, e2] at h1
      have := g1 s; have := g1 t; have := g1 (s ||| t); have := g1 (s &&& t)
      omega
  have r2on : RkOn n (fun s => pop (s &&& b) + r (dif b s ||| x) - r (2 ^ n - 1)) := by
    refine ⟨fun s hs => ?_, fun s t hs ht hst => ?_, fun s t hs ht => ?_⟩
    · have h1 := top _ (u2 s)
      have h3 : pop (s &&& b) ≤ pop s := pop_sub (subB_iff.2 fun i hi => by rw [Nat.testBit_and] at hi; simp at hi; exact hi.1)
      omega
    · have h1 := R.gap (u2 s) (u2 t)
      have h2 : pop (dif (dif b s ||| x) (dif b t ||| x)) + pop (s &&& b) ≤ pop (t &&& b) := by
        have hd : dif (dif b s ||| x) (dif b t ||| x) &&& (s &&& b) = 0 := Nat.eq_of_testBit_eq fun i => by
          simp only [Nat.testBit_and, dif_bit, Nat.testBit_or]
          cases s.testBit i <;> cases t.testBit i <;> cases b.testBit i <;> cases x.testBit i <;> simp
        rw [← pop_disj hd]
        refine pop_sub (subB_iff.2 fun i hi => ?_)
        simp only [Nat.testBit_and, dif_bit, Nat.testBit_or] at hi ⊢
        have := subB_iff.1 hst i
        cases e : s.testBit i <;> cases e1 : t.testBit i <;> cases e2 : b.testBit i <;> cases e3 : x.testBit i <;> simp_all
      omega
    · have h1 := R.sub _ _ (u2 s) (u2 t)
      have e1 : (dif b s ||| x) ||| (dif b t ||| x) = dif b (s &&& t) ||| x := Nat.eq_of_testBit_eq fun i => by
        simp only [Nat.testBit_or, Nat.testBit_and, dif_bit]
        cases s.testBit i <;> cases t.testBit i <;> cases b.testBit i <;> cases x.testBit i <;> rfl
      have e2 : (dif b s ||| x) &&& (dif b t ||| x) = dif b (s ||| t) ||| x := Nat.eq_of_testBit_eq fun i => by
        simp only [Nat.testBit_or, Nat.testBit_and, dif_bit]
        cases s.testBit i <;> cases t.testBit i <;> cases b.testBit i <;> cases x.testBit i <;> rfl
      rw [e1, e2] at h1
      have h2 := pop_or_and (s &&& b) (t &&& b)
      have e3 : (s &&& b) ||| (t &&& b) = (s ||| t) &&& b := Nat.eq_of_testBit_eq fun i => by
        simp only [Nat.testBit_or, Nat.testBit_and]
        cases s.testBit i <;> cases t.testBit i <;> cases b.testBit i <;> rfl
      have e4 : (s &&& b) &&& (t &&& b) = (s &&& t) &&& b := Nat.eq_of_testBit_eq fun i => by
        simp only [Nat.testBit_and]
        cases s.testBit i <;> cases t.testBit i <;> cases b.testBit i <;> rfl
      rw [e3, e4] at h2
      have := g2 s; have := g2 t; have := g2 (s ||| t); have := g2 (s &&& t)
      omega
  obtain ⟨y, y1, y2, y3, y4⟩ := isect n hn _ _ r1on r2on (pop x) (fun s hs => by
    have hc : 2 ^ n - 1 - s < 2 ^ n := by have := Nat.two_pow_pos n; omega
    have cb : ∀ i, (2 ^ n - 1 - s).testBit i = (decide (i < n) && !s.testBit i) := fun i => by
      rw [show 2 ^ n - 1 - s = 2 ^ n - (s + 1) by omega, Nat.testBit_two_pow_sub_succ hs]
    have bn : ∀ i, b.testBit i = true → i < n := fun i hi => by
      apply Classical.byContradiction; intro hh
      rw [Nat.testBit_lt_two_pow (Nat.lt_of_lt_of_le b1 (Nat.pow_le_pow_right (by omega) (by omega)))] at hi
      cases hi
    have e1 : dif b (2 ^ n - 1 - s) = s &&& b := Nat.eq_of_testBit_eq fun i => by
      rw [dif_bit, cb, Nat.testBit_and]
      have := bn i
      cases e : b.testBit i <;> cases e2 : s.testBit i <;> simp_all
    have e2 : (2 ^ n - 1 - s) &&& b = dif b s := Nat.eq_of_testBit_eq fun i => by
      rw [dif_bit, Nat.testBit_and, cb]
      have := bn i
      cases e : b.testBit i <;> cases e2 : s.testBit i <;> simp_all
    have h1 := R.sub _ _ (u1 s) (u2 (2 ^ n - 1 - s))
    show pop x ≤ (r ((s &&& b) ||| dif a x) - pop (dif a x)) + (pop ((2 ^ n - 1 - s) &&& b) + r (dif b (2 ^ n - 1 - s) ||| x) - r (2 ^ n - 1))
    rw [e1] at h1 ⊢
    rw [e2]
    have k1 : ((s &&& b) ||| dif a x) ||| ((s &&& b) ||| x) = (s &&& b) ||| a := Nat.eq_of_testBit_eq fun i => by
      simp only [Nat.testBit_or, Nat.testBit_and, dif_bit]
      have := xa i
      cases e1 : s.testBit i <;> cases e2 : b.testBit i <;> cases e3 : a.testBit i <;> cases e4 : x.testBit i <;> simp_all
    have k2 : ((s &&& b) ||| dif a x) &&& ((s &&& b) ||| x) = s &&& b := Nat.eq_of_testBit_eq fun i => by
      simp only [Nat.testBit_or, Nat.testBit_and, dif_bit]
      cases s.testBit i <;> cases b.testBit i <;> cases a.testBit i <;> cases x.testBit i <;> rfl
    rw [k1, k2] at h1
    have h2 := R.mono a _ a1 (or_ltn (hbs s) a1) (subB_iff.2 fun i hi => by rw [Nat.testBit_or, hi]; simp : subB a ((s &&& b) ||| a) = true)
    have h3 : r (s &&& b) = pop (s &&& b) := by
      have i1 := R.gap b1 (hbs s)
      have i2 := R.le _ (hbs s)
      have i3 := pop_dif b (s &&& b)
      have e5 : b &&& (s &&& b) = s &&& b := Nat.eq_of_testBit_eq fun i => by
        simp only [Nat.testBit_and]
        cases s.testBit i <;> cases b.testBit i <;> rfl
      rw [e5] at i3
      omega
    have h4 := pop_dif b s
    rw [Nat.and_comm] at h4
    have := g1 s
    have := g2 (2 ^ n - 1 - s)
    rw [e2, e1] at this
    omega)
  have q1 := g1 y
  have q2 := g2 y
  -- y lies in b
  have t1 := R.add (hbs y) c1
  have t2 := R.le _ (hbs y)
  have t3 : pop (y &&& b) ≤ pop y := pop_sub (subB_iff.2 fun i hi => by rw [Nat.testBit_and] at hi; simp at hi; exact hi.1)
  have yb : y &&& b = y := eq_of_pop (lt256 hn y1) (subB_iff.2 fun i hi => by rw [Nat.testBit_and] at hi; simp at hi; exact hi.1) (by omega)
  rw [yb] at q1 q2 y3 y4
  have t4 := R.le _ (or_ltn y1 c1)
  have t5 := pop_or_and y (dif a x)
  have t6 : y &&& dif a x = 0 := by
    apply Classical.byContradiction; intro hh
    have : 0 < pop (y &&& dif a x) := by
      apply Nat.pos_of_ne_zero; intro h0
      exact hh (eq_of_pop (lt256 hn (and_ltn y1)) (subB_iff.2 fun i hi => by simp at hi) (by rw [h0]; omega)).symm
    omega
  have t6b : ∀ i, y.testBit i = true → b.testBit i = true ∧ a.testBit i = false := fun i hi => by
    have h1 : b.testBit i = true := by
      have := congrArg (·.testBit i) yb
      simp only [Nat.testBit_and] at this
      rw [hi] at this
      simpa using this
    refine ⟨h1, ?_⟩
    have h2 := congrArg (·.testBit i) t6
    simp only [Nat.testBit_and, dif_bit, Nat.zero_testBit] at h2
    have h3 := xa i
    cases e : a.testBit i <;> cases e2 : x.testBit i <;> simp_all
  refine ⟨y, subB_iff.2 fun i hi => by rw [dif_bit]; obtain ⟨h1, h2⟩ := t6b i hi; rw [h1, h2]; rfl, y2, ?_, ?_⟩
  · rw [← self]
    have e1 : dif a x ||| y = y ||| dif a x := Nat.or_comm ..
    rw [e1]
    have h0 := pop_disj t6
    have h1 := top _ (or_ltn y1 c1)
    refine mem_basR.2 ⟨or_ltn y1 c1, ?_, ?_⟩ <;> omega
  · rw [← self]
    have h0 : dif b y &&& x = 0 := Nat.eq_of_testBit_eq fun i => by
      rw [Nat.testBit_and, dif_bit]
      have := xa i
      cases e : x.testBit i <;> simp_all
    have h1 := pop_disj h0
    have h2 := pop_dif b y
    rw [Nat.and_comm, yb] at h2
    have h3 := top _ (u2 y)
    have h4 := R.le _ (u2 y)
    refine mem_basR.2 ⟨u2 y, ?_, ?_⟩ <;> omega
end Go.Proofs.YtfajbmcdkhgipaaDoor

namespace Go.Proofs.YtfajbmcdkhgipaaDoor

/-- f tells each element's class. -/
structure Eqv (n : Nat) (f : Nat → Nat) : Prop where
  lt : ∀ i, i < n → f i < 2 ^ n
  self : ∀ i, i < n → (f i).testBit i = true
  same : ∀ i j, i < n → (f i).testBit j = true → f i = f j
def eqL (n : Nat) (f : Nat → Nat) : List Nat := (List.range (2 ^ n)).filter fun s => memB s ((List.range n).map f)
theorem eq_fam (n : Nat) (f : Nat → Nat) : Fam n (eqL n f) := Fam.range n _
theorem mem_eqL {n : Nat} {f : Nat → Nat} (h : Eqv n f) {s : Nat} : s ∈ eqL n f ↔ ∃ i, i < n ∧ f i = s := by
  unfold eqL memB
  rw [List.mem_filter, List.mem_range, decide_eq_true_iff, List.mem_map]
  constructor
  · rintro ⟨_, i, hi, rfl⟩
    exact ⟨i, List.mem_range.1 hi, rfl⟩
  · rintro ⟨i, hi, rfl⟩
    exact ⟨h.lt i hi, i, List.mem_range.2 hi, rfl⟩
theorem Eqv.meet {n : Nat} {f : Nat → Nat} (h : Eqv n f) {s t : Nat} (hs : s ∈ eqL n f) (ht : t ∈ eqL n f) (hne : s &&& t ≠ 0) : s = t := by
  obtain ⟨i, hi, rfl⟩ := (mem_eqL h).1 hs
  obtain ⟨k, hk, rfl⟩ := (mem_eqL h).1 ht
  obtain ⟨j, hj⟩ := exists_bit hne
  rw [Nat.testBit_and, Bool.and_eq_true] at hj
  rw [h.same i j hi hj.1, h.same k j hk hj.2]
theorem Eqv.free {n : Nat} {f : Nat → Nat} (h : Eqv n f) {i : Nat} (hi : i < (eqL n f).length) : orT (eqL n f) i &&& (eqL n f).getD i 0 = 0 := by
  refine Classical.byContradiction fun c => ?_
  obtain ⟨j, hj⟩ := exists_bit c
  rw [Nat.testBit_and, Bool.and_eq_true] at hj
  obtain ⟨s, hs, hb⟩ := orT_bit.1 hj.1
  obtain ⟨k, hk, e⟩ := List.mem_take_iff_getElem.1 hs
  have hm : (eqL n f).getD i 0 ∈ eqL n f := by simp [List.getD, hi]
  have hne : s &&& (eqL n f).getD i 0 ≠ 0 := fun e0 => by
    have : (s &&& (eqL n f).getD i 0).testBit j = true := by rw [Nat.testBit_and, hb, hj.2]; rfl
    rw [e0, Nat.zero_testBit] at this
    cases this
  have h1 := h.meet (List.mem_of_mem_take hs) hm hne
  have hki : k < i := by omega
  have h2 := List.pairwise_iff_getElem.1 (eq_fam n f).up k i (by omega) hi hki
  rw [e, h1] at h2
  simp [List.getD, hi] at h2
theorem Eqv.all {n : Nat} {f : Nat → Nat} (h : Eqv n f) : orT (eqL n f) (eqL n f).length = 2 ^ n - 1 := Nat.eq_of_testBit_eq fun j => by
  rw [Nat.testBit_two_pow_sub_one, Bool.eq_iff_iff, orT_bit, List.take_length, decide_eq_true_iff]
  constructor
  · rintro ⟨s, hs, hb⟩
    exact bit_lt ((eq_fam n f).lt s hs) hb
  · intro hj
    exact ⟨_, (mem_eqL h).2 ⟨j, hj, rfl⟩, h.self j hj⟩
/-- What is left to part is made of whole classes. -/
def Whole (n : Nat) (f : Nat → Nat) (F : Nat) : Prop := F < 2 ^ n ∧ ∀ i j, i < n → F.testBit i = true → (f i).testBit j = true → F.testBit j = true
theorem prts_eqv {n : Nat} {f : Nat → Nat} {T : Nat → Nat → Bool} (hn : n ≤ 8) (h : Eqv n f) (hT : ∀ i j, i < n → j < n → (f i).testBit j = (decide (i = j) || T i j)) : ∀ (N F : Nat) (L : List Nat), F ≤ N → Whole n f F → Prts T F L → L.Nodup ∧ ∀ s, s ∈ L ↔ ∃ i, i < n ∧ F.testBit i = true ∧ f i = s := by
  intro N
  induction N with
  | zero =>
    intro F L hF _ hp
    have : F = 0 := by omega
    subst this
    rw [prts_zero hp]
    exact ⟨List.nodup_nil, fun s => ⟨(fun h => by cases h), (fun ⟨i, _, h1, _⟩ => by rw [Nat.zero_testBit] at h1; cases h1)⟩⟩
  | succ N ih =>
    intro F L hF hW hp
    by_cases h0 : F = 0
    · subst h0
      rw [prts_zero hp]
      exact ⟨List.nodup_nil, fun s => ⟨(fun h => by cases h), (fun ⟨i, _, h1, _⟩ => by rw [Nat.zero_testBit] at h1; cases h1)⟩⟩
    · obtain ⟨L', rfl, hp'⟩ := prts_cons hp h0
      have h8 := lt256 hn hW.1
      have hpos : 0 < F := by omega
      have htz := tz_bit F h8 hpos
      have hzn : tz F < n := bit_lt hW.1 htz
      have hpart : partR T F = f (tz F) := Nat.eq_of_testBit_eq fun j => by
        rw [partR_bit h8]
        by_cases hj : j < n
        · rw [hT _ _ hzn hj]
          by_cases e : tz F = j
          · simp [e]
          · by_cases hTj : T (tz F) j = true
            · have hfj : (f (tz F)).testBit j = true := by rw [hT _ _ hzn hj, hTj, Bool.or_true]
              have := hW.2 _ _ hzn htz hfj
              simp [e, hTj, this]
            · simp [e, hTj]
        · have e1 : (f (tz F)).testBit j = false := Nat.testBit_lt_two_pow (Nat.lt_of_lt_of_le (h.lt _ hzn) (Nat.pow_le_pow_right (by decide) (by omega)))
          have e2 : F.testBit j = false := Nat.testBit_lt_two_pow (Nat.lt_of_lt_of_le hW.1 (Nat.pow_le_pow_right (by decide) (by omega)))
          have e3 : tz F ≠ j := by omega
          simp [e1, e2, e3]
      rw [hpart] at hp' ⊢
      have hless := rest_less (T := T) h8 hpos
      rw [hpart] at hless
      have hW' : Whole n f (dif F (f (tz F))) := by
        refine ⟨Nat.lt_trans hless hW.1, fun i j hi h1 h2 => ?_⟩
        rw [dif_bit, Bool.and_eq_true, Bool.not_eq_true'] at h1
        rw [dif_bit, hW.2 i j hi h1.1 h2, Bool.true_and, Bool.not_eq_true']
        refine Bool.eq_false_iff.2 fun hc => ?_
        have e1 := h.same _ _ hzn hc
        have e2 := h.same i j hi h2
        have e3 := h.self i hi
        rw [e2, ← e1] at e3
        rw [e3] at h1
        cases h1.2
      obtain ⟨i1, i2⟩ := ih _ L' (by omega) hW' hp'
      refine ⟨List.nodup_cons.2 ⟨fun hm => ?_, i1⟩, fun s => ?_⟩
      · obtain ⟨i, hi, hb, e⟩ := (i2 _).1 hm
        rw [dif_bit, Bool.and_eq_true, Bool.not_eq_true'] at hb
        have := h.self i hi
        rw [e] at this
        rw [this] at hb
        cases hb.2
      · rw [List.mem_cons, i2]
        constructor
        · rintro (rfl | ⟨i, hi, hb, e⟩)
          · exact ⟨_, hzn, htz, rfl⟩
          · rw [dif_bit, Bool.and_eq_true] at hb
            exact ⟨i, hi, hb.1, e⟩
        · rintro ⟨i, hi, hb, rfl⟩
          by_cases hc : (f (tz F)).testBit i = true
          · exact .inl (h.same _ _ hzn hc).symm
          · exact .inr ⟨i, hi, by rw [dif_bit, hb, Bool.eq_false_iff.2 hc]; rfl, rfl⟩
/-- Put in order, the parts are the list of classes. -/
theorem prts_sorted {n : Nat} {f : Nat → Nat} {T : Nat → Nat → Bool} {L L' : List Nat} (hn : n ≤ 8) (h : Eqv n f) (hT : ∀ i j, i < n → j < n → (f i).testBit j = (decide (i = j) || T i j)) (hp : Prts T (2 ^ n - 1) L) (h1 : L'.Perm L) (h2 : L'.Pairwise (· ≤ ·)) : L' = eqL n f := by
  have hW : Whole n f (2 ^ n - 1) := ⟨full_lt n, fun i j hi _ hj => by
    rw [Nat.testBit_two_pow_sub_one]
    exact decide_eq_true (bit_lt (h.lt i hi) hj)⟩
  obtain ⟨n1, n2⟩ := prts_eqv hn h hT _ _ L (Nat.le_refl _) hW hp
  have hL : L'.Nodup := h1.nodup_iff.2 n1
  have h3 : L'.Pairwise (· < ·) := List.Pairwise.imp₂ (fun a b h4 h5 => Nat.lt_of_le_of_ne h4 h5) h2 hL
  refine sorted_ext h3 (eq_fam n f).up fun x => ?_
  rw [h1.mem_iff, n2, mem_eqL h]
  constructor
  · rintro ⟨i, hi, _, e⟩
    exact ⟨i, hi, e⟩
  · rintro ⟨i, hi, e⟩
    exact ⟨i, hi, by rw [Nat.testBit_two_pow_sub_one]; exact decide_eq_true hi, e⟩
/-- Components' classes. -/
theorem cls_eqv {n : Nat} {l : List Nat} (hn : n ≤ 8) (hb : Bas l) : Eqv n (cls (cirL n l) n) where
  lt := fun i _ => cls_lt _ _ _
  self := fun i hi => by rw [cls_bit, decide_eq_true hi, decide_eq_true (.inl rfl)]; rfl
  same := fun i j hi h => by
    rw [cls_bit, Bool.and_eq_true, decide_eq_true_iff, decide_eq_true_iff] at h
    refine Nat.eq_of_testBit_eq fun k => ?_
    rw [cls_bit, cls_bit]
    congr 1
    rw [Bool.eq_iff_iff, decide_eq_true_iff, decide_eq_true_iff]
    rcases h.2 with rfl | hij
    · exact Iff.rfl
    · constructor
      · rintro (rfl | hik)
        · exact .inr (by rw [tg_symm]; exact hij)
        · exact .inr (tg_trans hn hb (by rw [tg_symm]; exact hij) hik)
      · rintro (rfl | hjk)
        · exact .inr hij
        · exact .inr (tg_trans hn hb hij hjk)
theorem cls_T {n : Nat} {C : List Nat} : ∀ i j, i < n → j < n → (cls C n i).testBit j = (decide (i = j) || tg C i j) := fun i j _ hj => by
  rw [cls_bit, decide_eq_true hj, Bool.true_and, Bool.eq_iff_iff, decide_eq_true_iff, Bool.or_eq_true, decide_eq_true_iff]
/-- A separator's ranks add up in every set. -/
theorem sep_add {n : Nat} {r : Nat → Nat} (h : RkOn n r) {c x : Nat} (hc : c < 2 ^ n) (hx : x < 2 ^ n) (hs : r c + r (2 ^ n - 1 - c) = r (2 ^ n - 1)) : r x = r (x &&& c) + r (dif x c) := by
  have hv : 2 ^ n - 1 - c < 2 ^ n := by have := Nat.two_pow_pos n; omega
  have hxc : x &&& c < 2 ^ n := Nat.lt_of_le_of_lt Nat.and_le_left hx
  have hd : dif x c < 2 ^ n := difn_lt hx
  have hor : x ||| c < 2 ^ n := Nat.or_lt_two_pow hx hc
  have h1 := h.sub x c hx hc
  have h2 := h.sub (x ||| c) (2 ^ n - 1 - c) hor hv
  have e1 : (x ||| c) ||| (2 ^ n - 1 - c) = 2 ^ n - 1 := Nat.eq_of_testBit_eq fun i => by
    rw [Nat.testBit_or, Nat.testBit_or, cpl_bit hc, Nat.testBit_two_pow_sub_one]
    by_cases hi : i < n
    · cases x.testBit i <;> cases c.testBit i <;> simp [hi]
    · have a1 : x.testBit i = false := Nat.testBit_lt_two_pow (Nat.lt_of_lt_of_le hx (Nat.pow_le_pow_right (by decide) (by omega)))
      have a2 : c.testBit i = false := Nat.testBit_lt_two_pow (Nat.lt_of_lt_of_le hc (Nat.pow_le_pow_right (by decide) (by omega)))
      simp [a1, a2, hi]
  have e2 : (x ||| c) &&& (2 ^ n - 1 - c) = dif x c := Nat.eq_of_testBit_eq fun i => by
    rw [Nat.testBit_and, Nat.testBit_or, cpl_bit hc, dif_bit]
    by_cases hi : i < n
    · cases x.testBit i <;> cases c.testBit i <;> simp [hi]
    · have a1 : x.testBit i = false := Nat.testBit_lt_two_pow (Nat.lt_of_lt_of_le hx (Nat.pow_le_pow_right (by decide) (by omega)))
      simp [a1, hi]
  rw [e1, e2] at h2
  have h3 := h.sub (x &&& c) (dif x c) hxc hd
  have e3 : (x &&& c) ||| dif x c = x := Nat.eq_of_testBit_eq fun i => by
    rw [Nat.testBit_or, Nat.testBit_and, dif_bit]
    cases x.testBit i <;> cases c.testBit i <;> rfl
  rw [e3] at h3
  omega
/-- The sum of the ranks of the first i. -/
def sumT (r : Nat → Nat) (L : List Nat) (i : Nat) : Nat := (L.take i).foldl (fun a s => a + r s) 0
theorem sumT_succ {r : Nat → Nat} {L : List Nat} {i : Nat} (h : i < L.length) : sumT r L (i + 1) = sumT r L i + r (L.getD i 0) := by
  unfold sumT
  rw [List.take_add_one, List.foldl_append, List.getElem?_eq_getElem h]
  simp [List.getD, h]
theorem comp_sum {n : Nat} {l : List Nat} (hn : n ≤ 8) (hb : Bas l) : ∀ i, i ≤ (eqL n (cls (cirL n l) n)).length → sumT (rk l) (eqL n (cls (cirL n l) n)) i = rk l (orT (eqL n (cls (cirL n l) n)) i)
  | 0, _ => by
    have h1 := (hb.rkOn n).le 0 (Nat.two_pow_pos n)
    have e : pop 0 = 0 := by decide
    show 0 = rk l 0
    omega
  | i + 1, hi => by
    have hE := cls_eqv hn hb
    have hlt : i < (eqL n (cls (cirL n l) n)).length := by omega
    have hmem : (eqL n (cls (cirL n l) n)).getD i 0 ∈ eqL n (cls (cirL n l) n) := by simp [List.getD, hlt]
    have hfree := hE.free hlt
    rw [sumT_succ hlt, comp_sum hn hb i (by omega), orT_succ hlt]
    obtain ⟨k, hk, e⟩ := (mem_eqL hE).1 hmem
    have hc := (eq_fam n (cls (cirL n l) n)).lt _ hmem
    have ho := orT_lt (eq_fam n (cls (cirL n l) n)).lt i
    generalize orT (eqL n (cls (cirL n l) n)) i = o at *
    rw [← e] at hfree hc ⊢
    have hs := cls_sep (i := k) hn hb
    have h1 := sep_add (hb.rkOn n) hc (Nat.or_lt_two_pow ho hc) hs
    have e1 : (o ||| cls (cirL n l) n k) &&& cls (cirL n l) n k = cls (cirL n l) n k := Nat.eq_of_testBit_eq fun j => by
      rw [Nat.testBit_and, Nat.testBit_or]
      cases (cls (cirL n l) n k).testBit j <;> simp
    have e2 : dif (o ||| cls (cirL n l) n k) (cls (cirL n l) n k) = o := Nat.eq_of_testBit_eq fun j => by
      rw [dif_bit, Nat.testBit_or]
      have h2 : (o &&& cls (cirL n l) n k).testBit j = false := by rw [hfree, Nat.zero_testBit]
      rw [Nat.testBit_and] at h2
      revert h2
      cases o.testBit j <;> cases (cls (cirL n l) n k).testBit j <;> simp
    rw [e1, e2] at h1
    omega
end Go.Proofs.YtfajbmcdkhgipaaDoor

namespace Go.Proofs.YtfajbmcdkhgipaaDoor

/-- Are i and j loops both, or parallel? -/
def parP (r : Nat → Nat) (i j : Nat) : Bool := r (2 ^ i ||| 2 ^ j) == r (2 ^ i) && r (2 ^ i ||| 2 ^ j) == r (2 ^ j)
theorem par_iff {r : Nat → Nat} {i j : Nat} : parP r i j = true ↔ r (2 ^ i ||| 2 ^ j) = r (2 ^ i) ∧ r (2 ^ i ||| 2 ^ j) = r (2 ^ j) := by
  unfold parP
  rw [Bool.and_eq_true, beq_iff_eq, beq_iff_eq]
theorem par_symm {r : Nat → Nat} {i j : Nat} (h : parP r i j = true) : parP r j i = true := by
  rw [par_iff] at h ⊢
  rw [Nat.or_comm]
  exact ⟨h.2, h.1⟩
theorem par_trans {r : Nat → Nat} (hr : Rk r) {i j k : Nat} (h1 : parP r i j = true) (h2 : parP r j k = true) : parP r i k = true := by
  rw [par_iff] at h1 h2 ⊢
  have hs := hr.sub (2 ^ i ||| 2 ^ j) (2 ^ j ||| 2 ^ k)
  have m1 := hr.mono (2 ^ i ||| 2 ^ k) ((2 ^ i ||| 2 ^ j) ||| (2 ^ j ||| 2 ^ k)) (subB_iff.2 fun x hx => by
    simp only [Nat.testBit_or] at hx ⊢
    revert hx
    cases (2 ^ i).testBit x <;> cases (2 ^ k).testBit x <;> simp)
  have m2 := hr.mono (2 ^ j) ((2 ^ i ||| 2 ^ j) &&& (2 ^ j ||| 2 ^ k)) (subB_iff.2 fun x hx => by
    simp only [Nat.testBit_and, Nat.testBit_or, hx]
    simp)
  have m3 := hr.mono (2 ^ i) (2 ^ i ||| 2 ^ k) (subB_iff.2 fun x hx => by rw [Nat.testBit_or, hx]; rfl)
  have m4 := hr.mono (2 ^ k) (2 ^ i ||| 2 ^ k) (subB_iff.2 fun x hx => by rw [Nat.testBit_or, hx, Bool.or_true])
  omega
/-- An element's class. -/
def pcl (r : Nat → Nat) (n i : Nat) : Nat := (List.range n).foldl (fun a j => if i = j ∨ parP r i j = true then a ||| 2 ^ j else a) 0
theorem pcl_bit (r : Nat → Nat) (n i j : Nat) : (pcl r n i).testBit j = (decide (j < n) && decide (i = j ∨ parP r i j = true)) := by
  unfold pcl
  have key : ∀ (xs : List Nat) (a : Nat), (xs.foldl (fun a j => if i = j ∨ parP r i j = true then a ||| 2 ^ j else a) a).testBit j = (a.testBit j || (decide (j ∈ xs) && decide (i = j ∨ parP r i j = true))) := fun xs => by
    induction xs with
    | nil => intro a; simp
    | cons x xs ih =>
      intro a
      rw [List.foldl_cons, ih]
      by_cases hx : i = x ∨ parP r i x = true
      · rw [if_pos hx, Nat.testBit_or, Nat.testBit_two_pow]
        by_cases e : x = j
        · subst e
          rw [decide_eq_true hx]
          simp
        · have e' : ¬ j = x := fun c => e c.symm
          simp [e, e']
      · rw [if_neg hx]
        by_cases e : j = x
        · subst e
          rw [decide_eq_false hx]
          simp
        · simp [e]
  rw [key, Nat.zero_testBit, Bool.false_or]
  simp
theorem pcl_eqv {n : Nat} {r : Nat → Nat} (hr : Rk r) : Eqv n (pcl r n) where
  lt := fun i _ => lt_of_bits fun j hj => by rw [pcl_bit, Bool.and_eq_true, decide_eq_true_iff] at hj; exact hj.1
  self := fun i hi => by rw [pcl_bit, decide_eq_true hi, decide_eq_true (.inl rfl)]; rfl
  same := fun i j hi h => by
    rw [pcl_bit, Bool.and_eq_true, decide_eq_true_iff, decide_eq_true_iff] at h
    refine Nat.eq_of_testBit_eq fun k => ?_
    rw [pcl_bit, pcl_bit]
    congr 1
    rw [Bool.eq_iff_iff, decide_eq_true_iff, decide_eq_true_iff]
    rcases h.2 with rfl | hij
    · exact Iff.rfl
    · constructor
      · rintro (rfl | hik)
        · exact .inr (par_symm hij)
        · exact .inr (par_trans hr (par_symm hij) hik)
      · rintro (rfl | hjk)
        · exact .inr hij
        · exact .inr (par_trans hr hij hjk)
theorem pcl_T {n : Nat} {r : Nat → Nat} : ∀ i j, i < n → j < n → (pcl r n i).testBit j = (decide (i = j) || parP r i j) := fun i j _ hj => by
  rw [pcl_bit, decide_eq_true hj, Bool.true_and, Bool.eq_iff_iff, decide_eq_true_iff, Bool.or_eq_true, decide_eq_true_iff]
/-- A class has its elements' rank. -/
theorem pcl_rk {n : Nat} {r : Nat → Nat} (hn : n ≤ 8) (hr : Rk r) {i : Nat} (hi : i < n) : r (pcl r n i) = r (2 ^ i) := by
  have hE := pcl_eqv (n := n) hr
  have key : ∀ (N t : Nat), pop t ≤ N → subB t (pcl r n i) = true → r (2 ^ i ||| t) = r (2 ^ i) := by
    intro N
    induction N with
    | zero =>
      intro t h0 hs
      have : t = 0 := (pop_pos t (lt256 hn (sub_lt hs (hE.lt i hi)))).1 (by omega)
      rw [this, Nat.or_zero]
    | succ N ih =>
      intro t hN hs
      by_cases e0 : t = 0
      · rw [e0, Nat.or_zero]
      · obtain ⟨x, hx⟩ := exists_bit e0
        have h8 := lt256 hn (sub_lt hs (hE.lt i hi))
        have h1 := pop_rm' h8 hx
        have hxc := subB_iff.1 hs x hx
        rw [pcl_bit, Bool.and_eq_true, decide_eq_true_iff, decide_eq_true_iff] at hxc
        have h3 := ih (rm t x) (by omega) (subB_iff.2 fun y hy => by rw [rm_bit, Bool.and_eq_true] at hy; exact subB_iff.1 hs y hy.1)
        have h4 : r (2 ^ i ||| 2 ^ x) = r (2 ^ i) := by
          rcases hxc.2 with rfl | h
          · rw [Nat.or_self]
          · exact (par_iff.1 h).1
        have h5 := hr.sub (2 ^ i ||| rm t x) (2 ^ i ||| 2 ^ x)
        have e1 : (2 ^ i ||| rm t x) ||| (2 ^ i ||| 2 ^ x) = 2 ^ i ||| t := Nat.eq_of_testBit_eq fun y => by
          simp only [Nat.testBit_or, rm_bit, Nat.testBit_two_pow]
          by_cases ey : x = y
          · subst ey; simp [hx]
          · cases decide (i = y) <;> simp [ey]
        have h6 := hr.mono (2 ^ i) ((2 ^ i ||| rm t x) &&& (2 ^ i ||| 2 ^ x)) (subB_iff.2 fun y hy => by rw [Nat.testBit_and, Nat.testBit_or, Nat.testBit_or, hy]; rfl)
        have h7 := hr.mono (2 ^ i) (2 ^ i ||| t) (subB_iff.2 fun y hy => by rw [Nat.testBit_or, hy]; rfl)
        rw [e1] at h5
        omega
  have h1 := key _ _ (Nat.le_refl _) (sub_refl (pcl r n i))
  have e : 2 ^ i ||| pcl r n i = pcl r n i := Nat.eq_of_testBit_eq fun y => by
    rw [Nat.testBit_or, Nat.testBit_two_pow]
    by_cases ey : i = y
    · subst ey; simp [hE.self i hi]
    · simp [ey]
  rw [e] at h1
  exact h1
/-- What goes: loops, and all but the least of parallel ones. -/
def goneP (r : Nat → Nat) (L : List Nat) : Nat := L.foldl (fun g c => if 0 < r c then dif (g ||| c) (2 ^ tz c) else g ||| c) 0
theorem gone_fold {r : Nat → Nat} {j : Nat} : ∀ (L : List Nat) (g : Nat), (∀ c ∈ L, c.testBit j = false ∧ c < 256 ∧ 0 < c) → (L.foldl (fun g c => if 0 < r c then dif (g ||| c) (2 ^ tz c) else g ||| c) g).testBit j = g.testBit j
  | [], g, _ => rfl
  | c :: L, g, h => by
    obtain ⟨h1, h2, h3⟩ := h c List.mem_cons_self
    rw [List.foldl_cons, gone_fold L _ fun d hd => h d (List.mem_cons_of_mem _ hd)]
    by_cases hc : 0 < r c
    · rw [if_pos hc, dif_bit, Nat.testBit_or, h1, Bool.or_false, Nat.testBit_two_pow]
      have : tz c ≠ j := fun e => by
        have := tz_bit c h2 h3
        rw [e, h1] at this
        cases this
      simp [this]
    · rw [if_neg hc, Nat.testBit_or, h1, Bool.or_false]
theorem gone_bit {n : Nat} {r : Nat → Nat} (hn : n ≤ 8) (hr : Rk r) {i : Nat} (hi : i < n) : (goneP r (eqL n (pcl r n))).testBit i = (decide (r (2 ^ i) = 0) || decide (tz (pcl r n i) ≠ i)) := by
  have hE := pcl_eqv (n := n) hr
  have hmem : pcl r n i ∈ eqL n (pcl r n) := (mem_eqL hE).2 ⟨i, hi, rfl⟩
  have hprop : ∀ c ∈ eqL n (pcl r n), c < 256 ∧ 0 < c := fun c hc => by
    obtain ⟨k, hk, rfl⟩ := (mem_eqL hE).1 hc
    refine ⟨lt256 hn (hE.lt k hk), Nat.pos_of_ne_zero fun e => ?_⟩
    have := hE.self k hk
    rw [e, Nat.zero_testBit] at this
    cases this
  obtain ⟨A, B, hAB⟩ := List.append_of_mem hmem
  have hnd : (eqL n (pcl r n)).Nodup := (eq_fam n _).up.imp (fun h => Nat.ne_of_lt h)
  have hout : ∀ c ∈ eqL n (pcl r n), c ≠ pcl r n i → c.testBit i = false := fun c hc hne => Bool.eq_false_iff.2 fun hb => hne (by
    obtain ⟨k, hk, rfl⟩ := (mem_eqL hE).1 hc
    exact hE.same k i hk hb)
  have hnotB : ∀ c ∈ B, c ≠ pcl r n i := fun c hc e => by
    rw [hAB, List.nodup_append] at hnd
    exact (List.nodup_cons.1 hnd.2.1).1 (e ▸ hc)
  unfold goneP
  rw [hAB, List.foldl_append, List.foldl_cons, gone_fold B _ fun c hc => by
    have hc2 : c ∈ eqL n (pcl r n) := by rw [hAB]; exact List.mem_append_right _ (List.mem_cons_of_mem _ hc)
    exact ⟨hout c hc2 (hnotB c hc), hprop c hc2⟩]
  rw [pcl_rk hn hr hi]
  have hself := hE.self i hi
  by_cases hz : 0 < r (2 ^ i)
  · rw [if_pos hz, dif_bit, Nat.testBit_or, hself, Bool.or_true, Bool.true_and, Nat.testBit_two_pow]
    have : ¬ r (2 ^ i) = 0 := by omega
    by_cases e : tz (pcl r n i) = i <;> simp [this, e]
  · rw [if_neg hz, Nat.testBit_or, hself, Bool.or_true]
    have : r (2 ^ i) = 0 := by omega
    simp [this]
/-- Where no two are parallel and there is no loop, nothing goes, and each class is one element. -/
theorem simple_none {n : Nat} {r : Nat → Nat} (hn : n ≤ 8) (hr : Rk r) (h1 : ∀ i, i < n → r (2 ^ i) = 1) (h2 : ∀ i j, i < n → j < n → i ≠ j → parP r i j = false) : goneP r (eqL n (pcl r n)) = 0 ∧ (eqL n (pcl r n)).length = n := by
  have hE := pcl_eqv (n := n) hr
  have hone : ∀ i, i < n → pcl r n i = 2 ^ i := fun i hi => Nat.eq_of_testBit_eq fun j => by
    rw [pcl_bit, Nat.testBit_two_pow]
    by_cases hj : j < n
    · by_cases e : i = j
      · subst e; simp [hi]
      · rw [decide_eq_true hj, Bool.true_and, decide_eq_false e]
        refine decide_eq_false fun c => ?_
        rcases c with c | c
        · exact e c
        · rw [h2 i j hi hj e] at c
          cases c
    · have : i ≠ j := by omega
      simp [hj, this]
  constructor
  · refine Nat.eq_of_testBit_eq fun j => ?_
    rw [Nat.zero_testBit]
    by_cases hj : j < n
    · rw [gone_bit hn hr hj, hone j hj, h1 j hj]
      have ht : tz (2 ^ j) = j := by
        have : ∀ j, j < 8 → tz (2 ^ j) = j := by decide
        exact this j (by omega)
      simp [ht]
    · have hlt : goneP r (eqL n (pcl r n)) < 2 ^ n := by
        have key : ∀ (L : List Nat) (g : Nat), g < 2 ^ n → (∀ c ∈ L, c < 2 ^ n) → L.foldl (fun g c => if 0 < r c then dif (g ||| c) (2 ^ tz c) else g ||| c) g < 2 ^ n := fun L => by
          induction L with
          | nil => intro g hg _; exact hg
          | cons c L ih =>
            intro g hg hc
            rw [List.foldl_cons]
            have hgc : g ||| c < 2 ^ n := Nat.or_lt_two_pow hg (hc c List.mem_cons_self)
            refine ih _ ?_ fun d hd => hc d (List.mem_cons_of_mem _ hd)
            split
            · exact difn_lt hgc
            · exact hgc
        exact key _ 0 (Nat.two_pow_pos n) (eq_fam n _).lt
      exact Nat.testBit_lt_two_pow (Nat.lt_of_lt_of_le hlt (Nat.pow_le_pow_right (by decide) (by omega)))
  · have hnd : (eqL n (pcl r n)).Nodup := (eq_fam n _).up.imp (fun h => Nat.ne_of_lt h)
    have hnd2 : ((List.range n).map fun i => 2 ^ i).Nodup := by
      refine List.pairwise_map.2 (List.Pairwise.imp (fun h e => h (Nat.pow_right_inj (by decide) |>.1 e)) List.nodup_range)
    have hp := (List.perm_ext_iff_of_nodup hnd hnd2).2 fun s => by
      rw [mem_eqL hE, List.mem_map]
      constructor
      · rintro ⟨i, hi, rfl⟩
        exact ⟨i, List.mem_range.2 hi, (hone i hi).symm⟩
      · rintro ⟨i, hi, rfl⟩
        exact ⟨i, List.mem_range.1 hi, hone i (List.mem_range.1 hi)⟩
    rw [hp.length_eq]
    simp
/-- What is left behind Simple has neither loops nor parallel ones. -/
theorem simple_left {n : Nat} {l : List Nat} (hn : n ≤ 8) (hb : Bas l) : (∀ i, i < pop (dif (2 ^ n - 1) (goneP (rk l) (eqL n (pcl (rk l) n)))) → rk (minL n l (goneP (rk l) (eqL n (pcl (rk l) n))) 0) (2 ^ i) = 1) ∧ ∀ i j, i < pop (dif (2 ^ n - 1) (goneP (rk l) (eqL n (pcl (rk l) n)))) → j < pop (dif (2 ^ n - 1) (goneP (rk l) (eqL n (pcl (rk l) n)))) → i ≠ j → parP (rk (minL n l (goneP (rk l) (eqL n (pcl (rk l) n))) 0)) i j = false := by
  have hE := pcl_eqv (n := n) hb.rk
  obtain ⟨K, hK⟩ : ∃ K, dif (2 ^ n - 1) (goneP (rk l) (eqL n (pcl (rk l) n))) = K := ⟨_, rfl⟩
  have hKb : ∀ j, K.testBit j = true → j < n ∧ rk l (2 ^ j) = 1 ∧ tz (pcl (rk l) n j) = j := fun j hj => by
    rw [← hK, dif_bit, Bool.and_eq_true, Bool.not_eq_true', Nat.testBit_two_pow_sub_one, decide_eq_true_iff] at hj
    have h1 := hj.2
    rw [gone_bit hn hb.rk hj.1, Bool.or_eq_false_iff, decide_eq_false_iff_not, decide_eq_false_iff_not] at h1
    have h2 := hb.rk.le (2 ^ j)
    have h3 := pop_pow j
    exact ⟨hj.1, by omega, Classical.byContradiction h1.2⟩
  have hK8 : K < 256 := by rw [← hK]; exact kept_lt hn _
  have hone : ∀ i, i < pop K → ∃ e, (els K)[i]? = some e ∧ K.testBit e = true ∧ old (els K) (2 ^ i) = 2 ^ e := fun i hi => by
    have hl : (els K).length = pop K := els_len
    have hil : i < (els K).length := by omega
    refine ⟨(els K)[i], List.getElem?_eq_getElem hil, (mem_els8 hK8).1 (List.getElem_mem _), Nat.eq_of_testBit_eq fun j => ?_⟩
    rw [Bool.eq_iff_iff, old_bit, Nat.testBit_two_pow, decide_eq_true_iff]
    constructor
    · rintro ⟨k, hk, hb2⟩
      rw [Nat.testBit_two_pow, decide_eq_true_iff] at hb2
      subst hb2
      rw [List.getElem?_eq_getElem hil] at hk
      exact Option.some.inj hk
    · intro e
      exact ⟨i, by rw [List.getElem?_eq_getElem hil, e], by simp⟩
  have hrk : ∀ t, t < 2 ^ pop K → rk (minL n l (goneP (rk l) (eqL n (pcl (rk l) n))) 0) t = rk l (old (els K) t) := fun t ht => by
    rw [min_rk hn hb _ _ (by rw [hK]; exact ht)]
    unfold minR
    rw [hK, Nat.or_zero]
    have h0 := hb.rk.le 0
    have e : pop 0 = 0 := by decide
    omega
  rw [hK]
  constructor
  · intro i hi
    obtain ⟨e, e1, e2, e3⟩ := hone i hi
    rw [hrk _ (Nat.pow_lt_pow_right (by decide) hi), e3]
    exact (hKb e e2).2.1
  · intro i j hi hj hij
    obtain ⟨e, e1, e2, e3⟩ := hone i hi
    obtain ⟨f, f1, f2, f3⟩ := hone j hj
    refine Bool.eq_false_iff.2 fun hp => ?_
    rw [par_iff, hrk _ (Nat.or_lt_two_pow (Nat.pow_lt_pow_right (by decide) hi) (Nat.pow_lt_pow_right (by decide) hj)), hrk _ (Nat.pow_lt_pow_right (by decide) hi), hrk _ (Nat.pow_lt_pow_right (by decide) hj), old_or, e3, f3] at hp
    obtain ⟨k1, k2, k3⟩ := hKb e e2
    obtain ⟨m1, m2, m3⟩ := hKb f f2
    have hcl : pcl (rk l) n e = pcl (rk l) n f := hE.same e f k1 (by rw [pcl_bit, decide_eq_true m1, decide_eq_true (.inr (par_iff.2 hp))]; rfl)
    have hef : e = f := by rw [← k3, ← m3, hcl]
    subst hef
    have hl : (els K).length = pop K := els_len
    have h1 : (els K)[i]? = (els K)[j]? := by rw [e1, f1]
    have hnd : (els K).Nodup := by unfold els; exact List.nodup_range.sublist List.filter_sublist
    exact hij ((List.getElem?_inj (by omega) hnd).1 h1)
end Go.Proofs.YtfajbmcdkhgipaaDoor

namespace Go.Proofs.YtfajbmcdkhgipaaDoor

theorem pop_two : ∀ n, n ≤ 8 → ∀ s, s < 256 → pop s = pop (s % 2 ^ n) + pop (s / 2 ^ n) := by decide +kernel
theorem rm_mod {n s i : Nat} : rm s i % 2 ^ n = rm (s % 2 ^ n) i := Nat.eq_of_testBit_eq fun j => by
  rw [Nat.testBit_mod_two_pow, rm_bit, rm_bit, Nat.testBit_mod_two_pow, Bool.and_assoc]
theorem rm_div {n s i : Nat} (hi : i < n) : rm s i / 2 ^ n = s / 2 ^ n := Nat.eq_of_testBit_eq fun j => by
  rw [Nat.testBit_div_two_pow, rm_bit, Nat.testBit_div_two_pow]
  have : i ≠ j + n := by omega
  simp [this]
theorem rm_mod' {n s i : Nat} : rm s (n + i) % 2 ^ n = s % 2 ^ n := Nat.eq_of_testBit_eq fun j => by
  rw [Nat.testBit_mod_two_pow, rm_bit, Nat.testBit_mod_two_pow]
  by_cases hj : j < n
  · have : n + i ≠ j := by omega
    simp [this]
  · simp [hj]
theorem rm_div' {n s i : Nat} : rm s (n + i) / 2 ^ n = rm (s / 2 ^ n) i := Nat.eq_of_testBit_eq fun j => by
  rw [Nat.testBit_div_two_pow, rm_bit, rm_bit, Nat.testBit_div_two_pow]
  have : decide (n + i ≠ j + n) = decide (i ≠ j) := by
    rw [Bool.eq_iff_iff, decide_eq_true_iff, decide_eq_true_iff]
    omega
  rw [this]
/-- The sum's ranks. -/
def sumR (n : Nat) (r q : Nat → Nat) (s : Nat) : Nat := r (s % 2 ^ n) + q (s / 2 ^ n)
theorem mod_or (n s t : Nat) : (s ||| t) % 2 ^ n = s % 2 ^ n ||| t % 2 ^ n := Nat.eq_of_testBit_eq fun j => by
  simp only [Nat.testBit_mod_two_pow, Nat.testBit_or]
  cases decide (j < n) <;> simp
theorem mod_and (n s t : Nat) : (s &&& t) % 2 ^ n = s % 2 ^ n &&& t % 2 ^ n := Nat.eq_of_testBit_eq fun j => by
  simp only [Nat.testBit_mod_two_pow, Nat.testBit_and]
  cases decide (j < n) <;> simp
theorem div_or (n s t : Nat) : (s ||| t) / 2 ^ n = s / 2 ^ n ||| t / 2 ^ n := Nat.eq_of_testBit_eq fun j => by simp only [Nat.testBit_div_two_pow, Nat.testBit_or]
theorem div_and (n s t : Nat) : (s &&& t) / 2 ^ n = s / 2 ^ n &&& t / 2 ^ n := Nat.eq_of_testBit_eq fun j => by simp only [Nat.testBit_div_two_pow, Nat.testBit_and]
theorem mod_ltn (n s : Nat) : s % 2 ^ n < 2 ^ n := Nat.mod_lt _ (Nat.two_pow_pos n)
theorem div_ltn {n k s : Nat} (h : s < 2 ^ (n + k)) : s / 2 ^ n < 2 ^ k := by
  rw [Nat.pow_add] at h
  exact Nat.div_lt_of_lt_mul h
theorem sum_rkOn {n k : Nat} {r q : Nat → Nat} (hnk : n + k ≤ 8) (hr : RkOn n r) (hq : RkOn k q) : RkOn (n + k) (sumR n r q) where
  le := fun s hs => by
    have h1 := hr.le _ (mod_ltn n s)
    have h2 := hq.le _ (div_ltn hs)
    have h3 := pop_two n (by omega) s (lt256 hnk hs)
    show r (s % 2 ^ n) + q (s / 2 ^ n) ≤ pop s
    omega
  mono := fun s t hs ht h => by
    have h1 := hr.mono _ _ (mod_ltn n s) (mod_ltn n t) (subB_iff.2 fun j hj => by
      rw [Nat.testBit_mod_two_pow, Bool.and_eq_true] at hj ⊢
      exact ⟨hj.1, subB_iff.1 h j hj.2⟩)
    have h2 := hq.mono _ _ (div_ltn hs) (div_ltn ht) (subB_iff.2 fun j hj => by
      rw [Nat.testBit_div_two_pow] at hj ⊢
      exact subB_iff.1 h _ hj)
    show r (s % 2 ^ n) + q (s / 2 ^ n) ≤ r (t % 2 ^ n) + q (t / 2 ^ n)
    omega
  sub := fun s t hs ht => by
    have h1 := hr.sub _ _ (mod_ltn n s) (mod_ltn n t)
    have h2 := hq.sub _ _ (div_ltn hs) (div_ltn ht)
    show r ((s ||| t) % 2 ^ n) + q ((s ||| t) / 2 ^ n) + (r ((s &&& t) % 2 ^ n) + q ((s &&& t) / 2 ^ n)) ≤ r (s % 2 ^ n) + q (s / 2 ^ n) + (r (t % 2 ^ n) + q (t / 2 ^ n))
    rw [mod_or, mod_and, div_or, div_and]
    omega
/-- A set is independent in the sum just if both its parts are. -/
theorem sum_ind {n k s : Nat} {r q : Nat → Nat} (hnk : n + k ≤ 8) (hr : RkOn n r) (hq : RkOn k q) (hs : s < 2 ^ (n + k)) : sumR n r q s = pop s ↔ r (s % 2 ^ n) = pop (s % 2 ^ n) ∧ q (s / 2 ^ n) = pop (s / 2 ^ n) := by
  have h1 := hr.le _ (mod_ltn n s)
  have h2 := hq.le _ (div_ltn hs)
  have h3 := pop_two n (by omega) s (lt256 hnk hs)
  unfold sumR
  omega
def sumL (n : Nat) (l : List Nat) (k : Nat) (l' : List Nat) : List Nat := basR (n + k) (sumR n (rk l) (rk l'))
theorem sum_fam (n : Nat) (l : List Nat) (k : Nat) (l' : List Nat) : Fam (n + k) (sumL n l k l') := basR_fam _ _
theorem sum_bas {n k : Nat} {l l' : List Nat} (hnk : n + k ≤ 8) (hb : Bas l) (hb' : Bas l') : Bas (sumL n l k l') := (sum_rkOn hnk (hb.rkOn n) (hb'.rkOn k)).bas hnk
theorem sum_rk {n k s : Nat} {l l' : List Nat} (hnk : n + k ≤ 8) (hb : Bas l) (hb' : Bas l') (hs : s < 2 ^ (n + k)) : rk (sumL n l k l') s = sumR n (rk l) (rk l') s := (sum_rkOn hnk (hb.rkOn n) (hb'.rkOn k)).rk_eq hnk hs
theorem rm_ltN {n s i : Nat} (hs : s < 2 ^ n) : rm s i < 2 ^ n := sub_lt (subB_iff.2 fun j hj => by rw [rm_bit, Bool.and_eq_true] at hj; exact hj.1) hs
/-- Its circuits are both ones'. -/
theorem sum_cir {n k c : Nat} {l l' : List Nat} (hnk : n + k ≤ 8) (hb : Bas l) (hb' : Bas l') (hc : c < 2 ^ (n + k)) : cirB (rk (sumL n l k l')) c = true ↔ (c / 2 ^ n = 0 ∧ cirB (rk l) (c % 2 ^ n) = true) ∨ (c % 2 ^ n = 0 ∧ cirB (rk l') (c / 2 ^ n) = true) := by
  have hr := hb.rkOn n
  have hq := hb'.rkOn k
  have c8 := lt256 hnk hc
  have m8 : c % 2 ^ n < 256 := lt256 (by omega) (mod_ltn n c)
  have d8 : c / 2 ^ n < 256 := lt256 (by omega) (div_ltn hc)
  have ind : ∀ s, s < 2 ^ (n + k) → (rk (sumL n l k l') s = pop s ↔ rk l (s % 2 ^ n) = pop (s % 2 ^ n) ∧ rk l' (s / 2 ^ n) = pop (s / 2 ^ n)) := fun s hs => by rw [sum_rk hnk hb hb' hs, sum_ind hnk hr hq hs]
  have zero : ∀ {L : List Nat}, Bas L → rk L 0 = pop 0 := fun hL => by
    have h1 := hL.rk.le 0
    have e : pop 0 = 0 := by decide
    omega
  have bitm : ∀ i, i < n → (c % 2 ^ n).testBit i = c.testBit i := fun i hi => by rw [Nat.testBit_mod_two_pow, decide_eq_true hi, Bool.true_and]
  have bitd : ∀ i, (c / 2 ^ n).testBit i = c.testBit (n + i) := fun i => by rw [Nat.testBit_div_two_pow, Nat.add_comm]
  rw [cir_iff c8, cir_iff m8, cir_iff d8]
  constructor
  · rintro ⟨h1, h2⟩
    rw [Ne, ind c hc] at h2
    by_cases hm : rk l (c % 2 ^ n) = pop (c % 2 ^ n)
    · have hd : rk l' (c / 2 ^ n) ≠ pop (c / 2 ^ n) := fun e => h2 ⟨hm, e⟩
      refine .inr ⟨Classical.byContradiction fun h0 => ?_, fun i hi => ?_, hd⟩
      · obtain ⟨i, hi⟩ := exists_bit h0
        have hin : i < n := bit_lt (mod_ltn n c) hi
        have h3 := h1 i (by rw [← bitm i hin]; exact hi)
        rw [ind _ (rm_ltN hc), rm_div hin] at h3
        exact hd h3.2
      · have h3 := h1 (n + i) (by rw [← bitd]; exact hi)
        rw [ind _ (rm_ltN hc), rm_div'] at h3
        exact h3.2
    · refine .inl ⟨Classical.byContradiction fun h0 => ?_, fun i hi => ?_, hm⟩
      · obtain ⟨i, hi⟩ := exists_bit h0
        have h3 := h1 (n + i) (by rw [← bitd]; exact hi)
        rw [ind _ (rm_ltN hc), rm_mod'] at h3
        exact hm h3.1
      · have hin : i < n := bit_lt (mod_ltn n c) hi
        have h3 := h1 i (by rw [← bitm i hin]; exact hi)
        rw [ind _ (rm_ltN hc), rm_mod] at h3
        exact h3.1
  · rintro (⟨h0, h1, h2⟩ | ⟨h0, h1, h2⟩)
    · refine ⟨fun i hi => ?_, fun e => h2 ((ind c hc).1 e).1⟩
      have hin : i < n := Classical.byContradiction fun hn' => by
        have : (c / 2 ^ n).testBit (i - n) = true := by rw [bitd, show n + (i - n) = i by omega]; exact hi
        rw [h0, Nat.zero_testBit] at this
        cases this
      rw [ind _ (rm_ltN hc), rm_mod, rm_div hin, h0]
      exact ⟨h1 i (by rw [bitm i hin]; exact hi), zero hb'⟩
    · refine ⟨fun i hi => ?_, fun e => h2 ((ind c hc).1 e).2⟩
      have hin : ¬ i < n := fun hin => by
        have : (c % 2 ^ n).testBit i = true := by rw [bitm i hin]; exact hi
        rw [h0, Nat.zero_testBit] at this
        cases this
      obtain ⟨j, rfl⟩ : ∃ j, i = n + j := ⟨i - n, by omega⟩
      rw [ind _ (rm_ltN hc), rm_mod', rm_div', h0]
      exact ⟨zero hb, h1 j (by rw [bitd]; exact hi)⟩
/-- The sum's classes: those of the one, and those of the other one, behind it. -/
theorem sum_tg {n k i j : Nat} {l l' : List Nat} (hnk : n + k ≤ 8) (hb : Bas l) (hb' : Bas l') : tg (cirL (n + k) (sumL n l k l')) i j = true ↔ (i < n ∧ j < n ∧ tg (cirL n l) i j = true) ∨ (n ≤ i ∧ n ≤ j ∧ tg (cirL k l') (i - n) (j - n) = true) := by
  rw [tg_iff, tg_iff, tg_iff]
  constructor
  · rintro ⟨c, c1, c2, c3, c4⟩
    rcases (sum_cir hnk hb hb' c1).1 c2 with ⟨h0, h1⟩ | ⟨h0, h1⟩
    · have hc : c = c % 2 ^ n := by
        have := Nat.div_add_mod c (2 ^ n)
        rw [h0, Nat.mul_zero, Nat.zero_add] at this
        exact this.symm
      have hlt := mod_ltn n c
      rw [← hc] at h1 hlt
      exact .inl ⟨bit_lt hlt c3, bit_lt hlt c4, c, hlt, h1, c3, c4⟩
    · have hge : ∀ x, c.testBit x = true → n ≤ x := fun x hx => Classical.byContradiction fun hn' => by
        have : (c % 2 ^ n).testBit x = true := by rw [Nat.testBit_mod_two_pow, hx, decide_eq_true (by omega)]; rfl
        rw [h0, Nat.zero_testBit] at this
        cases this
      have g3 := hge i c3
      have g4 := hge j c4
      exact .inr ⟨g3, g4, c / 2 ^ n, div_ltn c1, h1, by rw [Nat.testBit_div_two_pow, show (i - n) + n = i by omega]; exact c3, by rw [Nat.testBit_div_two_pow, show (j - n) + n = j by omega]; exact c4⟩
  · rintro (⟨_, _, c, c1, c2, c3, c4⟩ | ⟨g3, g4, c, c1, c2, c3, c4⟩)
    · have hlt : c < 2 ^ (n + k) := Nat.lt_of_lt_of_le c1 (Nat.pow_le_pow_right (by decide) (by omega))
      exact ⟨c, hlt, (sum_cir hnk hb hb' hlt).2 (.inl ⟨Nat.div_eq_of_lt c1, by rw [Nat.mod_eq_of_lt c1]; exact c2⟩), c3, c4⟩
    · have hlt : c * 2 ^ n < 2 ^ (n + k) := by rw [Nat.pow_add, Nat.mul_comm]; exact Nat.mul_lt_mul_of_pos_left c1 (Nat.two_pow_pos n)
      have hd : c * 2 ^ n / 2 ^ n = c := Nat.mul_div_cancel _ (Nat.two_pow_pos n)
      have hbit : ∀ x, n ≤ x → (c * 2 ^ n).testBit x = c.testBit (x - n) := fun x hx => by
        have h1 : (c * 2 ^ n / 2 ^ n).testBit (x - n) = (c * 2 ^ n).testBit ((x - n) + n) := Nat.testBit_div_two_pow ..
        rw [hd, show (x - n) + n = x by omega] at h1
        exact h1.symm
      exact ⟨c * 2 ^ n, hlt, (sum_cir hnk hb hb' hlt).2 (.inr ⟨Nat.mul_mod_left _ _, by rw [hd]; exact c2⟩), by rw [hbit i g3]; exact c3, by rw [hbit j g4]; exact c4⟩
theorem sum_cls_low {n k i : Nat} {l l' : List Nat} (hnk : n + k ≤ 8) (hb : Bas l) (hb' : Bas l') (hi : i < n) : cls (cirL (n + k) (sumL n l k l')) (n + k) i = cls (cirL n l) n i := Nat.eq_of_testBit_eq fun j => by
  rw [cls_bit, cls_bit, Bool.eq_iff_iff, Bool.and_eq_true, Bool.and_eq_true, decide_eq_true_iff, decide_eq_true_iff, decide_eq_true_iff, decide_eq_true_iff, sum_tg hnk hb hb']
  constructor
  · rintro ⟨h1, rfl | ⟨_, h2, h3⟩ | ⟨h2, _⟩⟩
    · exact ⟨hi, .inl rfl⟩
    · exact ⟨h2, .inr h3⟩
    · omega
  · rintro ⟨h1, rfl | h2⟩
    · exact ⟨by omega, .inl rfl⟩
    · exact ⟨by omega, .inr (.inl ⟨hi, h1, h2⟩)⟩
theorem sum_cls_high {n k i : Nat} {l l' : List Nat} (hnk : n + k ≤ 8) (hb : Bas l) (hb' : Bas l') (hi : i < k) : cls (cirL (n + k) (sumL n l k l')) (n + k) (n + i) = cls (cirL k l') k i * 2 ^ n := Nat.eq_of_testBit_eq fun j => by
  have hbit : (cls (cirL k l') k i * 2 ^ n).testBit j = (decide (n ≤ j) && (cls (cirL k l') k i).testBit (j - n)) := by
    rw [Nat.testBit_mul_two_pow]
  rw [hbit, cls_bit, cls_bit, Bool.eq_iff_iff]
  simp only [Bool.and_eq_true, decide_eq_true_iff]
  rw [sum_tg hnk hb hb']
  constructor
  · rintro ⟨h1, rfl | ⟨h2, _⟩ | ⟨_, h2, h3⟩⟩
    · exact ⟨by omega, by omega, .inl (by omega)⟩
    · omega
    · rw [show n + i - n = i by omega] at h3
      exact ⟨h2, by omega, .inr h3⟩
  · rintro ⟨h1, h2, h3 | h3⟩
    · exact ⟨by omega, .inl (by omega)⟩
    · exact ⟨by omega, .inr (.inr ⟨by omega, h1, by rw [show n + i - n = i by omega]; exact h3⟩)⟩
/-- Both ones' components, put in order, are the sum's. -/
theorem sum_comps {n k : Nat} {l l' L : List Nat} (hnk : n + k ≤ 8) (hb : Bas l) (hb' : Bas l') (h1 : L.Perm (eqL n (cls (cirL n l) n) ++ (eqL k (cls (cirL k l') k)).map (· * 2 ^ n))) (h2 : L.Pairwise (· ≤ ·)) : L = eqL (n + k) (cls (cirL (n + k) (sumL n l k l')) (n + k)) := by
  have hE := cls_eqv (n := n) (by omega) hb
  have hE' := cls_eqv (n := k) (by omega) hb'
  have hS := cls_eqv (n := n + k) hnk (sum_bas hnk hb hb')
  have nd1 : (eqL n (cls (cirL n l) n)).Nodup := (eq_fam n _).up.imp (fun h => Nat.ne_of_lt h)
  have nd2 : ((eqL k (cls (cirL k l') k)).map (· * 2 ^ n)).Nodup := List.pairwise_map.2 ((eq_fam k _).up.imp fun h e => by
    have := Nat.eq_of_mul_eq_mul_right (Nat.two_pow_pos n) e
    omega)
  have nd : (eqL n (cls (cirL n l) n) ++ (eqL k (cls (cirL k l') k)).map (· * 2 ^ n)).Nodup := by
    rw [List.nodup_append]
    refine ⟨nd1, nd2, fun a ha b hbm e => ?_⟩
    obtain ⟨i, hi, rfl⟩ := (mem_eqL hE).1 ha
    obtain ⟨c, hc, rfl⟩ := List.mem_map.1 hbm
    obtain ⟨j, hj, rfl⟩ := (mem_eqL hE').1 hc
    have h3 := hE.self i hi
    rw [e, Nat.testBit_mul_two_pow] at h3
    have : ¬ n ≤ i := by omega
    simp [this] at h3
  have hL : L.Nodup := h1.nodup_iff.2 nd
  have h3 : L.Pairwise (· < ·) := List.Pairwise.imp₂ (fun a b h4 h5 => Nat.lt_of_le_of_ne h4 h5) h2 hL
  refine sorted_ext h3 (eq_fam _ _).up fun x => ?_
  rw [h1.mem_iff, List.mem_append, List.mem_map, mem_eqL hE, mem_eqL hS]
  constructor
  · rintro (⟨i, hi, rfl⟩ | ⟨c, hc, rfl⟩)
    · exact ⟨i, by omega, sum_cls_low hnk hb hb' hi⟩
    · obtain ⟨j, hj, rfl⟩ := (mem_eqL hE').1 hc
      exact ⟨n + j, by omega, sum_cls_high hnk hb hb' hj⟩
  · rintro ⟨i, hi, rfl⟩
    by_cases hin : i < n
    · exact .inl ⟨i, hin, (sum_cls_low hnk hb hb' hin).symm⟩
    · obtain ⟨j, rfl⟩ : ∃ j, i = n + j := ⟨i - n, by omega⟩
      have hj : j < k := by omega
      exact .inr ⟨_, (mem_eqL hE').2 ⟨j, hj, rfl⟩, (sum_cls_high hnk hb hb' hj).symm⟩
end Go.Proofs.YtfajbmcdkhgipaaDoor

namespace Go.Proofs.YtfajbmcdkhgipaaDoor

theorem flip_cpl {n b e i : Nat} (hb : b < 2 ^ n) (he : e < n) (hi : i < n) : (2 ^ n - 1 - b) ^^^ 2 ^ e ^^^ 2 ^ i = 2 ^ n - 1 - (b ^^^ 2 ^ e ^^^ 2 ^ i) := Nat.eq_of_testBit_eq fun j => by
  rw [flip_bit, flip_bit, cpl_bit hb, cpl_bit (flip_lt (flip_lt hb he) hi), flip_bit, flip_bit]
  by_cases hj : j < n
  · simp [hj]
  · have h1 : e ≠ j := by omega
    have h2 : i ≠ j := by omega
    simp [hj, h1, h2]
theorem act_cmp {n : Nat} {l : List Nat} {b e : Nat} (hf : ∀ s ∈ l, s < 2 ^ n) (hb : b < 2 ^ n) (he : e < n) : actB (cmp n l) (2 ^ n - 1 - b) e = actB l b e := by
  rw [Bool.eq_iff_iff, act_iff, act_iff]
  refine forall_congr' fun i => forall_congr' fun hi => not_congr ?_
  rw [flip_cpl hb he (by omega), mem_cmp hf, cpl_cpl (flip_lt (flip_lt hb he) (by omega))]
  simp [cpl_lt]
theorem actI_cmp {n : Nat} {l : List Nat} {b : Nat} (hf : ∀ s ∈ l, s < 2 ^ n) (hb : b < 2 ^ n) : actI (cmp n l) (2 ^ n - 1 - b) n = actO l b n := Nat.eq_of_testBit_eq fun j => by
  rw [actI_bit, actO_bit]
  by_cases h : j < n
  · rw [act_cmp hf hb h, cpl_bit hb]; simp [h]
  · simp [h]
theorem actO_cmp {n : Nat} {l : List Nat} {b : Nat} (hf : ∀ s ∈ l, s < 2 ^ n) (hb : b < 2 ^ n) : actO (cmp n l) (2 ^ n - 1 - b) n = actI l b n := Nat.eq_of_testBit_eq fun j => by
  rw [actI_bit, actO_bit]
  by_cases h : j < n
  · rw [act_cmp hf hb h, cpl_bit hb]; simp [h]
  · simp [h]
/-- the Dual's is turned over -/
theorem wt_cmp {n : Nat} {l : List Nat} (hf : ∀ s ∈ l, s < 2 ^ n) (g : Nat → Nat → Int) : wt n (cmp n l) g = wt n l fun i j => g j i := by
  have h1 : wt n (cmp n l) g = tal (fun b => g (pop (actI (cmp n l) (2 ^ n - 1 - b) n)) (pop (actO (cmp n l) (2 ^ n - 1 - b) n))) l.reverse := by
    unfold wt
    rw [show tal (fun b => g (pop (actI (cmp n l) b n)) (pop (actO (cmp n l) b n))) (cmp n l) = tal (fun b => g (pop (actI (cmp n l) b n)) (pop (actO (cmp n l) b n))) (l.reverse.map fun s => 2 ^ n - 1 - s) from rfl, tal_map]
  rw [h1, tal_perm _ (List.reverse_perm l)]
  unfold wt
  exact tal_congr fun b hb => by rw [actI_cmp hf (hf b hb), actO_cmp hf (hf b hb)]

theorem dz_mul (c : Int) : ∀ (a b : Nat) (g : Nat → Nat → Int), dz (fun i j => c * g i j) a b = c * dz g a b
  | 0, 0, g => by simp [dz]
  | 0, b + 1, g => by
    rw [dz.eq_2, dz.eq_2, dz_mul c 0 b (fun i j => g i (j + 1)), dz_mul c 0 b g, Int.mul_sub]
  | a + 1, b, g => by
    rw [dz.eq_3, dz.eq_3, dz_mul c a b (fun i j => g (i + 1) j), dz_mul c a b g, Int.mul_sub]
theorem dz_pow (x y : Int) : ∀ a b : Nat, dz (fun i j => x ^ i * y ^ j) a b = (x - 1) ^ a * (y - 1) ^ b
  | 0, 0 => by simp [dz]
  | 0, b + 1 => by
    have h : (fun i j => x ^ i * y ^ (j + 1)) = fun i j => y * (x ^ i * y ^ j) := by
      funext i j
      rw [Int.pow_succ, Int.mul_comm y, Int.mul_assoc]
    rw [dz.eq_2, h, dz_mul, dz_pow x y 0 b, Int.pow_succ (y - 1) b]
    simp only [Int.pow_zero, Int.one_mul]
    rw [Int.mul_sub, Int.mul_one, Int.mul_comm]
  | a + 1, b => by
    have h : (fun i j => x ^ (i + 1) * y ^ j) = fun i j => x * (x ^ i * y ^ j) := by
      funext i j
      rw [Int.pow_succ, Int.mul_comm (x ^ i) x, Int.mul_assoc]
    rw [dz.eq_3, h, dz_mul, dz_pow x y a b, Int.pow_succ (x - 1) a, Int.mul_comm ((x - 1) ^ a) (x - 1), Int.mul_assoc, Int.sub_mul, Int.one_mul]
/-- the value at a point -/
def pvZ (n : Nat) (l : List Nat) (x y : Int) : Int := wt n l fun i j => x ^ i * y ^ j
theorem pv_sum {n : Nat} {l : List Nat} (hn : n ≤ 8) (hf : Fam n l) (hb : Bas l) (x y : Int) : pvZ n l x y = tal (fun s => (x - 1) ^ (rk l (2 ^ n - 1) - rk l s) * (y - 1) ^ (pop s - rk l s)) (List.range (2 ^ n)) := by
  unfold pvZ
  rw [wt_cz n l hn hf hb]
  unfold cz
  exact tal_congr fun s _ => dz_pow x y _ _
theorem tal_cnt (p : Nat → Bool) : ∀ l : List Nat, tal (fun s => if p s = true then 1 else 0) l = ((l.filter p).length : Int)
  | [] => rfl
  | a :: l => by
    simp only [tal, tal_cnt p l, List.filter_cons]
    cases h : p a
    · simp
    · simp; omega
theorem pv_11 (n : Nat) (l : List Nat) : pvZ n l 1 1 = l.length := by
  unfold pvZ wt
  rw [tal_congr (G := fun _ => 1) (fun b _ => by show (1 : Int) ^ _ * 1 ^ _ = 1; rw [Int.one_pow, Int.one_pow]; rfl), tal_const, Int.one_mul]
theorem zero_pow' (k : Nat) : (0 : Int) ^ k = if k = 0 then 1 else 0 := by
  cases k with
  | zero => rfl
  | succ k => rw [Int.pow_succ, Int.mul_zero]; rfl
theorem pv_21 {n : Nat} {l : List Nat} (hn : n ≤ 8) (hf : Fam n l) (hb : Bas l) : pvZ n l 2 1 = (((List.range (2 ^ n)).filter fun s => rk l s == pop s).length : Int) := by
  rw [pv_sum hn hf hb, ← tal_cnt]
  refine tal_congr fun s _ => ?_
  have := hb.rk.le s
  rw [show (2 : Int) - 1 = 1 from rfl, show (1 : Int) - 1 = 0 from rfl, Int.one_pow, Int.one_mul, zero_pow']
  by_cases h : rk l s = pop s
  · rw [if_pos (by omega), if_pos (by simp [h])]
  · rw [if_neg (by omega), if_neg (by simp [h])]
theorem pv_12 {n : Nat} {l : List Nat} (hn : n ≤ 8) (hf : Fam n l) (hb : Bas l) : pvZ n l 1 2 = (((List.range (2 ^ n)).filter fun s => rk l s == rk l (2 ^ n - 1)).length : Int) := by
  rw [pv_sum hn hf hb, ← tal_cnt]
  refine tal_congr fun s hs => ?_
  have := hb.rk.mono s _ (full_sub (List.mem_range.1 hs))
  rw [show (2 : Int) - 1 = 1 from rfl, show (1 : Int) - 1 = 0 from rfl, Int.one_pow, Int.mul_one, zero_pow']
  by_cases h : rk l s = rk l (2 ^ n - 1)
  · rw [if_pos (by omega), if_pos (by simp [h])]
  · rw [if_neg (by omega), if_neg (by simp [h])]
theorem pv_22 {n : Nat} {l : List Nat} (hn : n ≤ 8) (hf : Fam n l) (hb : Bas l) : pvZ n l 2 2 = (2 ^ n : Nat) := by
  rw [pv_sum hn hf hb, tal_congr (G := fun _ => 1), tal_const]
  · simp
  · intro s _
    rw [show (2 : Int) - 1 = 1 from rfl, Int.one_pow, Int.one_pow]; rfl

/-- the sets without e, and with it -/
theorem shf_oldT {k c : Nat} (hc : c < 2 ^ pop k) : shf (els k) (old (els k) c) = c := Nat.eq_of_testBit_eq fun i => by
  rw [Bool.eq_iff_iff, shf_bit]
  constructor
  · rintro ⟨x, h1, h2⟩
    obtain ⟨j, h3, h4⟩ := old_bit.1 h2
    rw [up_inj (els_up k) h1 h3]; exact h4
  · intro h
    have hi := bit_n hc h
    rw [← els_len] at hi
    exact ⟨(els k)[i], List.getElem?_eq_getElem hi, old_bit.2 ⟨i, List.getElem?_eq_getElem hi, h⟩⟩
theorem keptE_pop {n e : Nat} (hn : n ≤ 8) (he : e < n) : pop (dif (2 ^ n - 1) (2 ^ e)) + 1 = n := by
  have h1 := pop_rm (2 ^ n - 1) (lt256 hn (full_lt n)) e (by omega) (by rw [full_bit]; simpa using he)
  have h2 := popB_full n hn
  rw [h2] at h1
  have h3 : dif (2 ^ n - 1) (2 ^ e) = rm (2 ^ n - 1) e := rfl
  rw [h3]
  omega
theorem old_noE {n e : Nat} (hn : n ≤ 8) (t : Nat) : (old (els (dif (2 ^ n - 1) (2 ^ e))) t).testBit e = false := by
  have h := old_sub (kept_lt hn (2 ^ e)) t
  cases hb : (old (els (dif (2 ^ n - 1) (2 ^ e))) t).testBit e
  · rfl
  · have := subB_iff.1 h e hb
    rw [dif_bit, Nat.testBit_two_pow] at this
    simp at this
theorem rangeE_at {n e : Nat} (hn : n ≤ 8) (he : e < n) : (List.range (2 ^ n)).Perm ((List.range (2 ^ (n - 1))).map (old (els (dif (2 ^ n - 1) (2 ^ e)))) ++ (List.range (2 ^ (n - 1))).map fun t => old (els (dif (2 ^ n - 1) (2 ^ e))) t ||| 2 ^ e) := by
  have hp := keptE_pop hn he
  have hp' : n - 1 = pop (dif (2 ^ n - 1) (2 ^ e)) := by omega
  rw [hp']
  have hk := kept_lt hn (2 ^ e)
  have inj : ∀ a, a < 2 ^ pop (dif (2 ^ n - 1) (2 ^ e)) → ∀ b, b < 2 ^ pop (dif (2 ^ n - 1) (2 ^ e)) → old (els (dif (2 ^ n - 1) (2 ^ e))) a = old (els (dif (2 ^ n - 1) (2 ^ e))) b → a = b := fun a ha b hb h => by
    rw [← shf_oldT ha, ← shf_oldT hb, h]
  refine (List.perm_ext_iff_of_nodup List.nodup_range ?_).2 fun s => ?_
  · rw [List.nodup_append]
    refine ⟨?_, ?_, ?_⟩
    · refine List.pairwise_map.2 (List.Pairwise.imp_of_mem (fun {q r} hq hr hqr e' => hqr ?_) List.nodup_range)
      exact inj q (List.mem_range.1 hq) r (List.mem_range.1 hr) e'
    · refine List.pairwise_map.2 (List.Pairwise.imp_of_mem (fun {q r} hq hr hqr e' => hqr ?_) List.nodup_range)
      refine inj q (List.mem_range.1 hq) r (List.mem_range.1 hr) (Nat.eq_of_testBit_eq fun j => ?_)
      have h1 := congrArg (fun x => x.testBit j) e'
      simp only [or_bit] at h1
      by_cases hj : e = j
      · subst hj
        rw [old_noE hn, old_noE hn]
      · simpa [hj] using h1
    · intro a ha b hb hab
      rw [List.mem_map] at ha hb
      obtain ⟨x, _, rfl⟩ := ha
      obtain ⟨y, _, rfl⟩ := hb
      have h1 := congrArg (fun x => x.testBit e) hab
      simp only [or_bit] at h1
      rw [old_noE hn] at h1
      simp at h1
  · rw [List.mem_range, List.mem_append, List.mem_map, List.mem_map]
    constructor
    · intro hs
      cases hb : s.testBit e
      · refine Or.inl ⟨shf (els (dif (2 ^ n - 1) (2 ^ e))) s, List.mem_range.2 (shf_lt s), ?_⟩
        rw [old_shf hk]
        refine Nat.eq_of_testBit_eq fun j => ?_
        rw [Nat.testBit_and, dif_bit, full_bit, Nat.testBit_two_pow]
        by_cases hj : e = j
        · subst hj; simp [hb]
        · cases hsj : s.testBit j
          · simp
          · simp [hj, bit_n hs hsj]
      · refine Or.inr ⟨shf (els (dif (2 ^ n - 1) (2 ^ e))) s, List.mem_range.2 (shf_lt s), ?_⟩
        rw [old_shf hk]
        refine Nat.eq_of_testBit_eq fun j => ?_
        rw [or_bit, Nat.testBit_and, dif_bit, full_bit, Nat.testBit_two_pow]
        by_cases hj : e = j
        · subst hj; simp [hb]
        · cases hsj : s.testBit j
          · simp [hj]
          · simp [hj, bit_n hs hsj]
    · rintro (⟨t, _, rfl⟩ | ⟨t, _, rfl⟩)
      · exact old_ltn hn _ t
      · exact ad_lt (old_ltn hn _ t) he
theorem cz_at {n e : Nat} (hn : n ≤ 8) (he : e < n) (r : Nat → Nat) (g : Nat → Nat → Int) :
    cz n r g = tal (fun t => dz g (r (2 ^ n - 1) - r (old (els (dif (2 ^ n - 1) (2 ^ e))) t)) (pop t - r (old (els (dif (2 ^ n - 1) (2 ^ e))) t)) + dz g (r (2 ^ n - 1) - r (old (els (dif (2 ^ n - 1) (2 ^ e))) t ||| 2 ^ e)) (pop t + 1 - r (old (els (dif (2 ^ n - 1) (2 ^ e))) t ||| 2 ^ e))) (List.range (2 ^ (n - 1))) := by
  have hp := keptE_pop hn he
  unfold cz
  rw [tal_perm _ (rangeE_at hn he), tal_append, tal_map, tal_map, tal_add]
  congr 1
  · refine tal_congr fun t ht => ?_
    have ht := List.mem_range.1 ht
    rw [els_pop (kept_lt hn _) (by rw [show pop (dif (2 ^ n - 1) (2 ^ e)) = n - 1 by omega]; exact ht)]
  · refine tal_congr fun t ht => ?_
    have ht := List.mem_range.1 ht
    rw [pop_ad _ (lt256 hn (old_ltn hn _ t)) e (by omega) (old_noE hn t), els_pop (kept_lt hn _) (by rw [show pop (dif (2 ^ n - 1) (2 ^ e)) = n - 1 by omega]; exact ht)]
theorem min_fam' {n e : Nat} (hn : n ≤ 8) (he : e < n) (l : List Nat) (b : Nat) : Fam (n - 1) (minL n l (2 ^ e) b) := by
  have h := min_fam n l (2 ^ e) b
  have hp := keptE_pop hn he
  rwa [show pop (dif (2 ^ n - 1) (2 ^ e)) = n - 1 by omega] at h
theorem min_rk' {n e : Nat} {l : List Nat} (hn : n ≤ 8) (he : e < n) (hb : Bas l) (b : Nat) {t : Nat} (ht : t < 2 ^ (n - 1)) : rk (minL n l (2 ^ e) b) t = rk l (old (els (dif (2 ^ n - 1) (2 ^ e))) t ||| b) - rk l b := by
  have hp := keptE_pop hn he
  rw [min_rk hn hb _ _ (by rw [show pop (dif (2 ^ n - 1) (2 ^ e)) = n - 1 by omega]; exact ht)]
  rfl
theorem old_fullE {n e : Nat} (hn : n ≤ 8) (he : e < n) : old (els (dif (2 ^ n - 1) (2 ^ e))) (2 ^ (n - 1) - 1) = dif (2 ^ n - 1) (2 ^ e) := by
  have hp := keptE_pop hn he
  have := old_full (kept_lt hn (2 ^ e))
  rwa [show pop (dif (2 ^ n - 1) (2 ^ e)) = n - 1 by omega] at this
theorem dif_ad {n e : Nat} (he : e < n) : dif (2 ^ n - 1) (2 ^ e) ||| 2 ^ e = 2 ^ n - 1 := by
  have : (2 ^ n - 1).testBit e = true := by rw [full_bit]; simpa using he
  exact ad_rm this
/-- a loop -/
theorem wt_del {n e : Nat} {l : List Nat} (hn : n ≤ 8) (he : e < n) (hf : Fam n l) (hb : Bas l) (h0 : rk l (2 ^ e) = 0) (g : Nat → Nat → Int) : wt n l g = wt (n - 1) (minL n l (2 ^ e) 0) fun i j => g i (j + 1) := by
  have hr := hb.rk
  have hz := hr.zero
  have hadd : ∀ s, rk l (s ||| 2 ^ e) = rk l s := fun s => hr.add (s := 0) (by unfold subB; simp) (by rw [Nat.zero_or, h0, hz])
  rw [wt_cz n l hn hf hb, wt_cz (n - 1) _ (by omega) (min_fam' hn he l 0) (min_bas hn hb _ _), cz_at hn he]
  unfold cz
  refine tal_congr fun t ht => ?_
  have ht := List.mem_range.1 ht
  rw [min_rk' hn he hb 0 ht, min_rk' hn he hb 0 (full_lt _), old_fullE hn he, hz, Nat.or_zero, Nat.or_zero, Nat.sub_zero, Nat.sub_zero, ← dz_out, hadd]
  have hk : rk l (dif (2 ^ n - 1) (2 ^ e)) = rk l (2 ^ n - 1) := by rw [← hadd, dif_ad he]
  have hle := hr.le (old (els (dif (2 ^ n - 1) (2 ^ e))) t)
  rw [els_pop (kept_lt hn _) (by have := keptE_pop hn he; rw [show pop (dif (2 ^ n - 1) (2 ^ e)) = n - 1 by omega]; exact ht)] at hle
  rw [hk, show pop t + 1 - rk l (old (els (dif (2 ^ n - 1) (2 ^ e))) t) = pop t - rk l (old (els (dif (2 ^ n - 1) (2 ^ e))) t) + 1 by omega]
/-- a bridge -/
theorem wt_con {n e : Nat} {l : List Nat} (hn : n ≤ 8) (he : e < n) (hf : Fam n l) (hb : Bas l) (h0 : rk l (dif (2 ^ n - 1) (2 ^ e)) < rk l (2 ^ n - 1)) (g : Nat → Nat → Int) : wt n l g = wt (n - 1) (minL n l (2 ^ e) (2 ^ e)) fun i j => g (i + 1) j := by
  have hr := hb.rk
  have hz := hr.zero
  have hadd : ∀ t, rk l (old (els (dif (2 ^ n - 1) (2 ^ e))) t ||| 2 ^ e) = rk l (old (els (dif (2 ^ n - 1) (2 ^ e))) t) + 1 := fun t => by
    have a1 := hr.step (old (els (dif (2 ^ n - 1) (2 ^ e))) t) e
    have a2 := hr.mono _ _ (sub_or (old (els (dif (2 ^ n - 1) (2 ^ e))) t) (2 ^ e))
    by_cases h : rk l (old (els (dif (2 ^ n - 1) (2 ^ e))) t ||| 2 ^ e) = rk l (old (els (dif (2 ^ n - 1) (2 ^ e))) t)
    · have := hr.add (old_sub (kept_lt hn (2 ^ e)) t) h
      rw [dif_ad he] at this
      omega
    · omega
  have h1 : rk l (2 ^ e) = 1 := by
    have := hadd 0
    rw [old_zero, Nat.zero_or, hz] at this
    exact this
  rw [wt_cz n l hn hf hb, wt_cz (n - 1) _ (by omega) (min_fam' hn he l _) (min_bas hn hb _ _), cz_at hn he]
  unfold cz
  refine tal_congr fun t ht => ?_
  have ht := List.mem_range.1 ht
  rw [min_rk' hn he hb _ ht, min_rk' hn he hb _ (full_lt _), old_fullE hn he, dif_ad he, h1, hadd, ← dz_in]
  have hm := hr.mono _ _ (old_sub (kept_lt hn (2 ^ e)) t)
  rw [Int.add_comm]
  congr 2 <;> omega
/-- neither -/
theorem wt_dc {n e : Nat} {l : List Nat} (hn : n ≤ 8) (he : e < n) (hf : Fam n l) (hb : Bas l) (h0 : rk l (2 ^ e) ≠ 0) (h1 : ¬ rk l (dif (2 ^ n - 1) (2 ^ e)) < rk l (2 ^ n - 1)) (g : Nat → Nat → Int) : wt n l g = wt (n - 1) (minL n l (2 ^ e) 0) g + wt (n - 1) (minL n l (2 ^ e) (2 ^ e)) g := by
  have hr := hb.rk
  have hz := hr.zero
  have h2 : rk l (2 ^ e) = 1 := by
    have := hr.step 0 e
    rw [Nat.zero_or, hz] at this
    omega
  have h3 : rk l (dif (2 ^ n - 1) (2 ^ e)) = rk l (2 ^ n - 1) := by
    have := hr.mono _ _ (full_sub (kept_ltn n (2 ^ e)))
    omega
  rw [wt_cz n l hn hf hb, wt_cz (n - 1) _ (by omega) (min_fam' hn he l _) (min_bas hn hb _ _), wt_cz (n - 1) _ (by omega) (min_fam' hn he l _) (min_bas hn hb _ _), cz_at hn he, tal_add]
  unfold cz
  congr 1
  · refine tal_congr fun t ht => ?_
    have ht := List.mem_range.1 ht
    rw [min_rk' hn he hb 0 ht, min_rk' hn he hb 0 (full_lt _), old_fullE hn he, hz, Nat.or_zero, Nat.or_zero, Nat.sub_zero, Nat.sub_zero, h3]
  · refine tal_congr fun t ht => ?_
    have ht := List.mem_range.1 ht
    have hg := min_ge hr (old (els (dif (2 ^ n - 1) (2 ^ e))) t) (2 ^ e)
    rw [min_rk' hn he hb _ ht, min_rk' hn he hb _ (full_lt _), old_fullE hn he, dif_ad he, h2]
    rw [h2] at hg
    congr 1 <;> omega

theorem dz_add : ∀ (a b : Nat) (g h : Nat → Nat → Int), dz (fun i j => g i j + h i j) a b = dz g a b + dz h a b
  | 0, 0, g, h => by simp [dz]
  | 0, b + 1, g, h => by
    rw [dz.eq_2, dz.eq_2, dz.eq_2, dz_add 0 b (fun i j => g i (j + 1)) (fun i j => h i (j + 1)), dz_add 0 b g h]; omega
  | a + 1, b, g, h => by
    rw [dz.eq_3, dz.eq_3, dz.eq_3, dz_add a b (fun i j => g (i + 1) j) (fun i j => h (i + 1) j), dz_add a b g h]; omega
theorem dz_none : ∀ (a b : Nat), dz (fun _ _ => 0) a b = 0
  | 0, 0 => by simp [dz]
  | 0, b + 1 => by rw [dz.eq_2, dz_none 0 b]; rfl
  | a + 1, b => by rw [dz.eq_3, dz_none a b]; rfl
theorem dz_tal (h : Nat → Nat → Nat → Int) (a b : Nat) : ∀ L : List Nat, dz (fun i j => tal (fun s => h s i j) L) a b = tal (fun s => dz (h s) a b) L
  | [] => dz_none a b
  | x :: L => by
    simp only [tal]
    rw [dz_add, dz_tal h a b L]
theorem dz_two : ∀ (a1 b1 a2 b2 : Nat) (g : Nat → Nat → Int), dz g (a1 + a2) (b1 + b2) = dz (fun i j => dz (fun i' j' => g (i + i') (j + j')) a2 b2) a1 b1
  | 0, 0, a2, b2, g => by simp [dz]
  | 0, b1 + 1, a2, b2, g => by
    have h1 := dz_out g (0 + a2) (b1 + b2)
    have h2 := dz_two 0 b1 a2 b2 (fun i j => g i (j + 1))
    have h3 := dz_two 0 b1 a2 b2 g
    rw [dz.eq_2]
    have h4 : (fun i j => dz (fun i' j' => g (i + i') (j + 1 + j')) a2 b2) = fun i j => dz (fun i' j' => g (i + i') (j + j' + 1)) a2 b2 := by
      funext i j
      congr 1
      funext i' j'
      rw [Nat.add_right_comm]
    rw [h4]
    have h2' : dz (fun i j => g i (j + 1)) (0 + a2) (b1 + b2) = dz (fun i j => dz (fun i' j' => g (i + i') (j + j' + 1)) a2 b2) 0 b1 := h2
    rw [show b1 + 1 + b2 = b1 + b2 + 1 by omega]
    omega
  | a1 + 1, b1, a2, b2, g => by
    have h2 := dz_two a1 b1 a2 b2 (fun i j => g (i + 1) j)
    have h3 := dz_two a1 b1 a2 b2 g
    rw [dz.eq_3, show a1 + 1 + a2 = a1 + a2 + 1 by omega, dz.eq_3]
    have h4 : (fun i j => dz (fun i' j' => g (i + 1 + i') (j + j')) a2 b2) = fun i j => dz (fun i' j' => g (i + i' + 1) (j + j')) a2 b2 := by
      funext i j
      congr 1
      funext i' j'
      rw [Nat.add_right_comm]
    rw [h4]
    have h2' : dz (fun i j => g (i + 1) j) (a1 + a2) (b1 + b2) = dz (fun i j => dz (fun i' j' => g (i + i' + 1) (j + j')) a2 b2) a1 b1 := h2
    omega
theorem tal_mulR (F : Nat → Int) (A : Nat) : ∀ B : Nat, tal F (List.range (A * B)) = tal (fun t => tal (fun s => F (A * t + s)) (List.range A)) (List.range B)
  | 0 => by simp [tal]
  | B + 1 => by
    have h1 : List.range (B + 1) = List.range B ++ [B] := List.range_succ
    rw [Nat.mul_succ, List.range_add, tal_append, tal_map, tal_mulR F A B, h1, tal_append]
    simp [tal]
theorem tal_swapT (H : Nat → Nat → Int) (L : List Nat) : ∀ l : List Nat, tal (fun f => tal (fun g => H f g) L) l = tal (fun g => tal (fun f => H f g) l) L
  | [] => by
    simp only [tal]
    induction L with
    | nil => rfl
    | cons a L ih => simp only [tal, ← ih]; rfl
  | x :: l => by
    simp only [tal]
    rw [tal_swapT H L l, ← tal_add]
/-- sums -/
theorem wt_sum {n k : Nat} {l l' : List Nat} (hnk : n + k ≤ 8) (hf : Fam n l) (hb : Bas l) (hf' : Fam k l') (hb' : Bas l') (g : Nat → Nat → Int) : wt (n + k) (sumL n l k l') g = wt n l fun i j => wt k l' fun i' j' => g (i + i') (j + j') := by
  have h1 := wt_cz (n + k) _ hnk (sum_fam n l k l') (sum_bas hnk hb hb') g
  have h2 : (fun i j => wt k l' fun i' j' => g (i + i') (j + j')) = fun i j => cz k (rk l') fun i' j' => g (i + i') (j + j') := by
    funext i j
    exact wt_cz k l' (by omega) hf' hb' _
  rw [h1, h2, wt_cz n l (by omega) hf hb]
  unfold cz
  rw [Nat.pow_add, tal_mulR, ← tal_swapT]
  refine tal_congr fun s hs => ?_
  rw [dz_tal]
  refine tal_congr fun t ht => ?_
  have hs := List.mem_range.1 hs
  have ht := List.mem_range.1 ht
  have hlt : 2 ^ n * t + s < 2 ^ (n + k) := by
    rw [Nat.pow_add]
    calc 2 ^ n * t + s < 2 ^ n * t + 2 ^ n := by omega
      _ = 2 ^ n * (t + 1) := by rw [Nat.mul_succ]
      _ ≤ 2 ^ n * 2 ^ k := Nat.mul_le_mul_left _ ht
  have em : (2 ^ n * t + s) % 2 ^ n = s := by rw [Nat.mul_add_mod]; exact Nat.mod_eq_of_lt hs
  have ed : (2 ^ n * t + s) / 2 ^ n = t := by rw [Nat.mul_add_div (Nat.two_pow_pos n), Nat.div_eq_of_lt hs, Nat.add_zero]
  have e1 : rk (sumL n l k l') (2 ^ n * t + s) = rk l s + rk l' t := by
    rw [sum_rk hnk hb hb' hlt]; unfold sumR; rw [em, ed]
  have fl := full_lt (n + k)
  have e2 : rk (sumL n l k l') (2 ^ n * 2 ^ k - 1) = rk l (2 ^ n - 1) + rk l' (2 ^ k - 1) := by
    rw [← Nat.pow_add, sum_rk hnk hb hb' fl]
    unfold sumR
    have hk0 := Nat.one_le_two_pow (n := k)
    have hn0 := Nat.one_le_two_pow (n := n)
    have e3 : 2 ^ (n + k) - 1 = 2 ^ n * (2 ^ k - 1) + (2 ^ n - 1) := by
      rw [Nat.pow_add, Nat.mul_sub, Nat.mul_one]
      have : 2 ^ n * 1 ≤ 2 ^ n * 2 ^ k := Nat.mul_le_mul_left _ hk0
      omega
    have f1 := full_lt n
    rw [e3, Nat.mul_add_mod, Nat.mod_eq_of_lt f1, Nat.mul_add_div (Nat.two_pow_pos n), Nat.div_eq_of_lt f1, Nat.add_zero]
  have e4 : pop (2 ^ n * t + s) = pop s + pop t := by
    rw [pop_two n (by omega) _ (lt256 hnk hlt), em, ed]
  have m1 := hb.rk.mono s _ (full_sub hs)
  have m2 := hb'.rk.mono t _ (full_sub ht)
  have p1 := hb.rk.le s
  have p2 := hb'.rk.le t
  rw [e1, e2, e4, ← dz_two]
  congr 1 <;> omega
end Go.Proofs.YtfajbmcdkhgipaaDoor

namespace Go.Proofs.YtfajbmcdkhgipaaDoor

/-- how many of the first k bases have so many active elements -/
def tcn (n : Nat) (l : List Nat) (k i j : Nat) : Nat := ((l.take k).filter fun b => pop (actI l b n) == i && pop (actO l b n) == j).length
def ttN (n : Nat) (l : List Nat) (i j : Nat) : Nat := (l.filter fun b => pop (actI l b n) == i && pop (actO l b n) == j).length
theorem tcn_zero (n : Nat) (l : List Nat) (i j : Nat) : tcn n l 0 i j = 0 := rfl
theorem tcn_full (n : Nat) (l : List Nat) (i j : Nat) : tcn n l l.length i j = ttN n l i j := by unfold tcn ttN; rw [List.take_length]
theorem tcn_step {n : Nat} {l : List Nat} {k : Nat} (hk : k < l.length) (i j : Nat) : tcn n l (k + 1) i j = if pop (actI l (l.getD k 0) n) = i ∧ pop (actO l (l.getD k 0) n) = j then tcn n l k i j + 1 else tcn n l k i j := by
  unfold tcn
  have e : l.getD k 0 = l[k] := by simp [List.getD, hk]
  rw [List.take_succ_eq_append_getElem hk, List.filter_append, List.length_append, e, List.filter_cons]
  by_cases h : pop (actI l l[k] n) = i ∧ pop (actO l l[k] n) = j
  · rw [if_pos h, if_pos (by simp [h.1, h.2])]; rfl
  · rw [if_neg h, if_neg (by simp; exact fun h1 h2 => h ⟨h1, h2⟩)]; rfl
theorem tcn_le (n : Nat) (l : List Nat) (k i j : Nat) : tcn n l k i j ≤ l.length :=
  Nat.le_trans (List.length_filter_le _ _) (by rw [List.length_take]; omega)
theorem ttN_le (n : Nat) (l : List Nat) (i j : Nat) : ttN n l i j ≤ l.length := List.length_filter_le _ _
theorem tt_wt (n : Nat) (l : List Nat) (i j : Nat) : (ttN n l i j : Int) = wt n l fun a b => if a = i ∧ b = j then 1 else 0 := by
  unfold ttN wt
  have : ∀ k : List Nat, ((k.filter fun b => pop (actI l b n) == i && pop (actO l b n) == j).length : Int) = tal (fun b => if pop (actI l b n) = i ∧ pop (actO l b n) = j then 1 else 0) k := fun k => by
    induction k with
    | nil => rfl
    | cons a k ih =>
      simp only [tal, List.filter_cons]
      by_cases h : pop (actI l a n) = i ∧ pop (actO l a n) = j
      · rw [if_pos h, if_pos (by simp [h.1, h.2]), List.length_cons, ← ih]; omega
      · rw [if_neg h, if_neg (by simp; exact fun h1 h2 => h ⟨h1, h2⟩), ih]; omega
  exact this l
theorem actI_pop {n : Nat} {l : List Nat} (hf : Fam n l) (hb : Bas l) {b : Nat} (hbl : b ∈ l) : pop (actI l b n) ≤ rk l (2 ^ n - 1) := by
  rw [bas_top hf hb hbl]
  exact pop_sub (actI_sub l b n)
theorem actO_pop {n : Nat} {l : List Nat} (hn : n ≤ 8) (hf : Fam n l) (hb : Bas l) {b : Nat} (hbl : b ∈ l) : pop (actO l b n) + rk l (2 ^ n - 1) ≤ n := by
  rw [bas_top hf hb hbl]
  have h1 := pop_or_and (actO l b n) b
  rw [actO_out, show pop 0 = 0 from rfl] at h1
  have h2 := pop_sub (full_sub (Nat.or_lt_two_pow (actO_lt l b n) (hf.lt b hbl)))
  rw [popB_full n hn] at h2
  omega
theorem rank_n {n : Nat} {l : List Nat} (hn : n ≤ 8) (hb : Bas l) : rk l (2 ^ n - 1) ≤ n := by
  have := hb.rk.le (2 ^ n - 1)
  rwa [popB_full n hn] at this
theorem fam_lenT {n : Nat} {l : List Nat} (hn : n ≤ 8) (hf : Fam n l) : l.length ≤ 256 := by
  have h1 : l.Sublist (List.range (2 ^ n)) := by
    have h2 : (List.range (2 ^ n)).filter (fun s => memB s l) = l := by
      refine sorted_ext (List.pairwise_lt_range.filter _) hf.up fun s => ?_
      rw [List.mem_filter, List.mem_range]
      unfold memB
      simp
      exact hf.lt s
    rw [← h2]
    exact List.filter_sublist
  have := h1.length_le
  rw [List.length_range] at this
  exact Nat.le_trans this (Nat.pow_le_pow_right (by omega) hn : 2 ^ n ≤ 2 ^ 8)
end Go.Proofs.YtfajbmcdkhgipaaDoor

namespace Go.Proofs.YtfajbmcdkhgipaaDoor

theorem tt_zero {n : Nat} {l : List Nat} (hn : n ≤ 8) (hf : Fam n l) (hb : Bas l) {i j : Nat} (h : rk l (2 ^ n - 1) < i ∨ n - rk l (2 ^ n - 1) < j) : ttN n l i j = 0 := by
  unfold ttN
  rw [List.length_eq_zero_iff, List.filter_eq_nil_iff]
  intro b hbl
  have h1 := actI_pop hf hb hbl
  have h2 := actO_pop hn hf hb hbl
  simp
  intro e
  omega
/-- the coefficient, nought beyond the table -/
def atZ (N M : Nat) (f : Nat → Nat → Int) (i j : Int) : Int := if 0 ≤ i ∧ 0 ≤ j ∧ i < N ∧ j < M then f i.toNat j.toNat else 0
theorem at_nat {n : Nat} {l : List Nat} (hn : n ≤ 8) (hf : Fam n l) (hb : Bas l) (i j : Nat) : atZ (rk l (2 ^ n - 1) + 1) (n - rk l (2 ^ n - 1) + 1) (fun i j => (ttN n l i j : Int)) i j = ttN n l i j := by
  unfold atZ
  split
  · simp
  · rename_i h
    rw [tt_zero hn hf hb (by omega)]; rfl
theorem at_neg1 (N M : Nat) (f : Nat → Nat → Int) (j : Int) : atZ N M f (-1) j = 0 := by unfold atZ; rw [if_neg (by omega)]
theorem at_neg2 (N M : Nat) (f : Nat → Nat → Int) (i : Int) : atZ N M f i (-1) = 0 := by unfold atZ; rw [if_neg (by omega)]
/-- what a coefficient is, by the minors -/
theorem tt_loop {n e : Nat} {l : List Nat} (hn : n ≤ 8) (he : e < n) (hf : Fam n l) (hb : Bas l) (h0 : rk l (2 ^ e) = 0) (p q : Nat) : (ttN n l p q : Int) = if q = 0 then 0 else ttN (n - 1) (minL n l (2 ^ e) 0) p (q - 1) := by
  rw [tt_wt, wt_del hn he hf hb h0]
  cases q with
  | zero =>
    rw [if_pos rfl]
    unfold wt
    rw [tal_congr (G := fun _ => 0) (fun b _ => by dsimp only; rw [if_neg (by omega)]), tal_const, Int.zero_mul]; try rfl
  | succ q =>
    rw [if_neg (by omega), Nat.add_sub_cancel, tt_wt]
    congr 1
    funext i j
    simp
theorem tt_bridge {n e : Nat} {l : List Nat} (hn : n ≤ 8) (he : e < n) (hf : Fam n l) (hb : Bas l) (h0 : rk l (dif (2 ^ n - 1) (2 ^ e)) < rk l (2 ^ n - 1)) (p q : Nat) : (ttN n l p q : Int) = if p = 0 then 0 else ttN (n - 1) (minL n l (2 ^ e) (2 ^ e)) (p - 1) q := by
  rw [tt_wt, wt_con hn he hf hb h0]
  cases p with
  | zero =>
    rw [if_pos rfl]
    unfold wt
    rw [tal_congr (G := fun _ => 0) (fun b _ => by dsimp only; rw [if_neg (by omega)]), tal_const, Int.zero_mul]; try rfl
  | succ p =>
    rw [if_neg (by omega), Nat.add_sub_cancel, tt_wt]
    congr 1
    funext i j
    simp
theorem tt_both {n e : Nat} {l : List Nat} (hn : n ≤ 8) (he : e < n) (hf : Fam n l) (hb : Bas l) (h0 : rk l (2 ^ e) ≠ 0) (h1 : ¬ rk l (dif (2 ^ n - 1) (2 ^ e)) < rk l (2 ^ n - 1)) (p q : Nat) : (ttN n l p q : Int) = ttN (n - 1) (minL n l (2 ^ e) 0) p q + ttN (n - 1) (minL n l (2 ^ e) (2 ^ e)) p q := by
  rw [tt_wt, wt_dc hn he hf hb h0 h1, ← tt_wt, ← tt_wt]
theorem tal_pickT (F : Nat → Int) {a n : Nat} (h : a < n) : tal (fun i => if a = i then F i else 0) (List.range n) = F a := by
  induction n with
  | zero => omega
  | succ n ih =>
    have e1 : tal (fun i => if a = i then F i else 0) (List.range (n + 1)) = tal (fun i => if a = i then F i else 0) (List.range n) + (if a = n then F n else 0) := by
      rw [List.range_succ, tal_append]; simp [tal]
    rw [e1]
    by_cases e : a = n
    · subst e
      rw [tal_congr (G := fun _ => 0) (fun i hi => by rw [if_neg (by have := List.mem_range.1 hi; omega)]), tal_const, if_pos rfl]
      omega
    · rw [ih (by omega), if_neg e]; omega
theorem tal_pickO (F : Nat → Int) {a n : Nat} (h : ¬ a < n) : tal (fun i => if a = i then F i else 0) (List.range n) = 0 := by
  rw [tal_congr (G := fun _ => 0) (fun i hi => by rw [if_neg (by have := List.mem_range.1 hi; omega)]), tal_const, Int.zero_mul]
/-- the product of two -/
def prodZ (f h : Nat → Nat → Int) (p q c d : Nat) : Int := tal (fun c => tal (fun d => f c d * h (p - c) (q - d)) (List.range (q + 1))) (List.range c) + tal (fun d => f c d * h (p - c) (q - d)) (List.range d)
theorem tt_sum {n k : Nat} {l l' : List Nat} (hnk : n + k ≤ 8) (hf : Fam n l) (hb : Bas l) (hf' : Fam k l') (hb' : Bas l') (p q : Nat) : (ttN (n + k) (sumL n l k l') p q : Int) = tal (fun c => tal (fun d => (ttN n l c d : Int) * ttN k l' (p - c) (q - d)) (List.range (q + 1))) (List.range (p + 1)) := by
  rw [tt_wt, wt_sum hnk hf hb hf' hb']
  have h1 : ∀ i j, (wt k l' fun i' j' => if i + i' = p ∧ j + j' = q then 1 else 0) = if i ≤ p ∧ j ≤ q then (ttN k l' (p - i) (q - j) : Int) else 0 := fun i j => by
    by_cases h : i ≤ p ∧ j ≤ q
    · rw [if_pos h, tt_wt]
      congr 1
      funext a b
      have : (i + a = p ∧ j + b = q) ↔ (a = p - i ∧ b = q - j) := by omega
      simp only [this]
    · rw [if_neg h]
      unfold wt
      rw [tal_congr (G := fun _ => 0) (fun b _ => by dsimp only; rw [if_neg (by omega)]), tal_const, Int.zero_mul]; try rfl
  simp only [h1]
  have h2 : ∀ c ∈ List.range (p + 1), tal (fun d => (ttN n l c d : Int) * ttN k l' (p - c) (q - d)) (List.range (q + 1)) = tal (fun b => if pop (actI l b n) = c then (if pop (actO l b n) ≤ q then (ttN k l' (p - c) (q - pop (actO l b n)) : Int) else 0) else 0) l := fun c _ => by
    rw [tal_congr (G := fun d => tal (fun b => if pop (actO l b n) = d then (if pop (actI l b n) = c then (ttN k l' (p - c) (q - d) : Int) else 0) else 0) l) (fun d _ => by
      rw [tt_wt]
      unfold wt
      rw [Int.mul_comm, ← tal_mul]
      refine tal_congr fun b _ => ?_
      by_cases a1 : pop (actI l b n) = c <;> by_cases a2 : pop (actO l b n) = d <;> simp [a1, a2]), tal_swapT]
    refine tal_congr fun b _ => ?_
    by_cases hq : pop (actO l b n) < q + 1
    · rw [tal_pickT (fun d => if pop (actI l b n) = c then (ttN k l' (p - c) (q - d) : Int) else 0) hq]
      by_cases a1 : pop (actI l b n) = c
      · rw [if_pos a1, if_pos a1, if_pos (by omega)]
      · rw [if_neg a1, if_neg a1]
    · rw [tal_pickO _ hq]
      by_cases a1 : pop (actI l b n) = c
      · rw [if_pos a1, if_neg (by omega)]
      · rw [if_neg a1]
  rw [tal_congr h2, tal_swapT]
  unfold wt
  refine tal_congr fun b _ => ?_
  dsimp only
  by_cases hp : pop (actI l b n) < p + 1
  · rw [tal_pickT (fun c => if pop (actO l b n) ≤ q then (ttN k l' (p - c) (q - pop (actO l b n)) : Int) else 0) hp]
    by_cases a2 : pop (actO l b n) ≤ q
    · rw [if_pos ⟨by omega, a2⟩, if_pos a2]
    · rw [if_neg (fun h => a2 h.2), if_neg a2]
  · rw [tal_pickO _ hp, if_neg (by omega)]
end Go.Proofs.YtfajbmcdkhgipaaDoor

namespace Go.Proofs.YtfajbmcdkhgipaaDoor

/-- The word with another letter at one place. -/
def updF (f : Nat → Nat) (n x : Nat) : Nat → Nat := fun i => if i = n then x else f i
/-- The sum over all words of n letters, the i-th out of A i; behind them noughts. -/
def itr (A : Nat → List Nat) : Nat → ((Nat → Nat) → Int) → Int
  | 0, F => F fun _ => 0
  | n + 1, F => tal (fun x => itr A n fun f => F (updF f n x)) (A n)
theorem itr_congr {A : Nat → List Nat} : ∀ {n : Nat} {F G : (Nat → Nat) → Int}, (∀ f, (∀ i, i < n → f i ∈ A i) → (∀ i, n ≤ i → f i = 0) → F f = G f) → itr A n F = itr A n G
  | 0, F, G, h => h _ (fun i hi => by omega) fun _ _ => rfl
  | n + 1, F, G, h => by
    refine tal_congr fun x hx => itr_congr fun f h1 h2 => h _ (fun i hi => ?_) fun i hi => ?_
    · unfold updF
      by_cases e : i = n
      · subst e; rw [if_pos rfl]; exact hx
      · rw [if_neg e]; exact h1 i (by omega)
    · unfold updF
      rw [if_neg (by omega)]
      exact h2 i (by omega)
theorem itr_same {A B : Nat → List Nat} : ∀ {n : Nat} {F : (Nat → Nat) → Int}, (∀ i, i < n → A i = B i) → itr A n F = itr B n F
  | 0, F, h => rfl
  | n + 1, F, h => by
    show tal _ _ = tal _ _
    rw [h n (by omega)]
    exact tal_congr fun x _ => itr_same fun i hi => h i (by omega)
theorem itr_tal {A : Nat → List Nat} (L : List Nat) : ∀ {n : Nat} {F : (Nat → Nat) → Nat → Int}, itr A n (fun f => tal (F f) L) = tal (fun s => itr A n fun f => F f s) L
  | 0, F => rfl
  | n + 1, F => by
    show tal _ _ = _
    rw [tal_congr (fun x _ => itr_tal L (F := fun f => F (updF f n x)))]
    exact tal_swapT _ _ _
theorem itr_mul {A : Nat → List Nat} (c : Int) : ∀ {n : Nat} {F : (Nat → Nat) → Int}, itr A n (fun f => c * F f) = c * itr A n F
  | 0, F => rfl
  | n + 1, F => by
    show tal _ _ = c * tal _ _
    rw [← tal_mul]
    exact tal_congr fun x _ => itr_mul c
theorem itr_one {A : Nat → List Nat} {k : Nat} : ∀ {n : Nat}, (∀ i, i < n → (A i).length = k) → itr A n (fun _ => 1) = (k : Int) ^ n
  | 0, _ => rfl
  | n + 1, h => by
    show tal _ _ = _
    rw [tal_congr (G := fun _ => (k : Int) ^ n) fun x _ => itr_one fun i hi => h i (by omega), tal_const, h n (by omega), Int.pow_succ]
/-- Letter by letter something else. -/
def apF (σ : Nat → Nat → Nat) (n : Nat) (f : Nat → Nat) : Nat → Nat := fun i => if i < n then σ i (f i) else f i
theorem itr_perm {A : Nat → List Nat} {σ : Nat → Nat → Nat} : ∀ {n : Nat} {F : (Nat → Nat) → Int}, (∀ i, i < n → ((A i).map (σ i)).Perm (A i)) → itr A n (fun f => F (apF σ n f)) = itr A n F
  | 0, F, _ => by
    show F _ = F _
    congr 1
  | n + 1, F, h => by
    have e : ∀ (f : Nat → Nat) (x : Nat), apF σ (n + 1) (updF f n x) = updF (apF σ n f) n (σ n x) := fun f x => by
      funext i
      unfold apF updF
      by_cases e : i = n
      · subst e; simp
      · by_cases hi : i < n
        · simp [e, hi, Nat.lt_succ_of_lt hi]
        · have : ¬ i < n + 1 := by omega
          simp [e, hi, this]
    show tal (fun x => itr A n fun f => F (apF σ (n + 1) (updF f n x))) (A n) = tal (fun x => itr A n fun f => F (updF f n x)) (A n)
    rw [tal_congr (G := fun x => itr A n fun f => F (updF f n (σ n x))) fun x _ => ?_]
    · rw [← tal_map (fun x => itr A n fun f => F (updF f n x)) (σ n)]
      exact tal_perm _ (h n (by omega))
    · rw [← itr_perm (A := A) (n := n) (F := fun f => F (updF f n (σ n x))) fun i hi => h i (by omega)]
      exact itr_congr fun f _ _ => by rw [e]
theorem turn_perm {k t : Nat} (hk : 0 < k) : ((List.range k).map fun x => (x + t) % k).Perm (List.range k) := by
  refine (List.perm_ext_iff_of_nodup ?_ List.nodup_range).2 fun x => ?_
  · refine List.pairwise_map.2 (List.Pairwise.imp_of_mem (fun {q r} hq hr hqr e' => hqr ?_) List.nodup_range)
    have h1 := List.mem_range.1 hq
    have h2 := List.mem_range.1 hr
    have e2 : (q + t) % k = (r + t) % k := e'
    have h3 : (q + t - (r + t) : Int) % (k : Int) = 0 := by
      have := Int.emod_emod_of_dvd
      have e3 : ((q + t : Nat) : Int) % (k : Int) = ((r + t : Nat) : Int) % (k : Int) := by rw [← Int.natCast_emod, ← Int.natCast_emod, e2]
      have e4 := Int.emod_eq_emod_iff_emod_sub_eq_zero.1 e3
      simpa using e4
    obtain ⟨c, hc⟩ := Int.dvd_of_emod_eq_zero h3
    have hc0 : c = 0 := by
      rcases Int.lt_trichotomy c 0 with h | h | h
      · have : (k : Int) * c ≤ (k : Int) * (-1) := Int.mul_le_mul_of_nonneg_left (by omega) (by omega)
        omega
      · exact h
      · have : (k : Int) * 1 ≤ (k : Int) * c := Int.mul_le_mul_of_nonneg_left (by omega) (by omega)
        omega
    subst hc0
    omega
  · rw [List.mem_map, List.mem_range]
    constructor
    · rintro ⟨y, hy, rfl⟩
      exact Nat.mod_lt _ hk
    · intro hx
      refine ⟨(x + (k - t % k)) % k, List.mem_range.2 (Nat.mod_lt _ hk), ?_⟩
      have h1 := Nat.mod_lt t hk
      have h2 := Nat.mod_add_div t k
      show ((x + (k - t % k)) % k + t) % k = x
      rw [Nat.mod_add_mod, show x + (k - t % k) + t = x + k * (t / k + 1) by rw [Nat.mul_add, Nat.mul_one]; omega, Nat.add_mul_mod_self_left, Nat.mod_eq_of_lt hx]
/-- The digits of a code. -/
def digF (k n c : Nat) : Nat → Nat := fun i => if i < n then c / k ^ i % k else 0
theorem itr_code (k : Nat) : ∀ {n : Nat} {F : (Nat → Nat) → Int}, itr (fun _ => List.range k) n F = tal (fun c => F (digF k n c)) (List.range (k ^ n))
  | 0, F => by
    show F _ = tal _ [0]
    show _ = F _ + 0
    rw [Int.add_zero]
    congr 1
  | n + 1, F => by
    rw [Nat.pow_succ, tal_mulR]
    show tal _ _ = _
    refine tal_congr fun t ht => ?_
    have ht' := List.mem_range.1 ht
    rw [itr_code k]
    refine tal_congr fun s hs => ?_
    have hs' := List.mem_range.1 hs
    congr 1
    funext i
    unfold updF digF
    by_cases e : i = n
    · subst e
      rw [if_pos rfl, if_pos (by omega), Nat.mul_add_div (by omega), Nat.div_eq_of_lt hs', Nat.add_zero, Nat.mod_eq_of_lt ht']
    · rw [if_neg e]
      by_cases hi : i < n
      · rw [if_pos hi, if_pos (by omega)]
        obtain ⟨d, rfl⟩ : ∃ d, n = i + (d + 1) := ⟨n - i - 1, by omega⟩
        rw [Nat.pow_add, Nat.mul_assoc, Nat.mul_add_div (Nat.pow_pos (by omega)), Nat.pow_succ, Nat.mul_comm (k ^ d) k, Nat.mul_assoc, Nat.mul_add_mod]
      · rw [if_neg hi, if_neg (by omega)]
/-- A set of whatever is asked. -/
theorem set_of (p : Nat → Bool) : ∀ n, ∃ d, d < 2 ^ n ∧ ∀ j, j < n → d.testBit j = p j
  | 0 => ⟨0, by decide, fun j hj => by omega⟩
  | n + 1 => by
    obtain ⟨d, hd, h⟩ := set_of p n
    have hp : 2 ^ n < 2 ^ (n + 1) := Nat.pow_lt_pow_right (by omega) (by omega)
    have h0 : d.testBit n = false := Nat.testBit_lt_two_pow hd
    cases e : p n
    · refine ⟨d, by omega, fun j hj => ?_⟩
      by_cases ej : j = n
      · subst ej; rw [h0, e]
      · exact h j (by omega)
    · refine ⟨d ||| 2 ^ n, Nat.or_lt_two_pow (by omega) hp, fun j hj => ?_⟩
      rw [or_bit]
      by_cases ej : j = n
      · subst ej; simp [e]
      · rw [show decide (n = j) = false by simp; omega, Bool.or_false]
        exact h j (by omega)
end Go.Proofs.YtfajbmcdkhgipaaDoor

namespace Go.Proofs.YtfajbmcdkhgipaaDoor
open Classical

/-- The edges of s below i have the same colour at both ends. -/
def moB (E : List (Nat × Nat)) (s : Nat) (f : Nat → Nat) (i : Nat) : Bool := (List.range i).all fun j => !s.testBit j || f (ea E j) == f (eb E j)
variable {E : List (Nat × Nat)}
theorem moB_iff {s i : Nat} {f : Nat → Nat} : moB E s f i = true ↔ ∀ j, j < i → s.testBit j = true → f (ea E j) = f (eb E j) := by
  unfold moB
  rw [List.all_eq_true]
  constructor
  · intro h j hj hb
    have := h j (List.mem_range.2 hj)
    rw [hb] at this
    simpa using this
  · intro h j hj
    by_cases hb : s.testBit j = true
    · have := h j (List.mem_range.1 hj) hb
      simp [hb, this]
    · simp [hb]
theorem moB_succ (E : List (Nat × Nat)) (s : Nat) (f : Nat → Nat) (i : Nat) : moB E s f (i + 1) = (moB E s f i && (!s.testBit i || f (ea E i) == f (eb E i))) := by simp [moB, List.range_succ]
theorem moB_conn {s i : Nat} {f : Nat → Nat} (h : moB E s f i = true) {u v : Nat} (hc : Conn E (lo s i) u v) : f u = f v := by
  have h2 : ∀ j, (lo s i).testBit j = true → f (ea E j) = f (eb E j) := fun j hj => by
    rw [lo_bit] at hj
    simp only [Bool.and_eq_true, decide_eq_true_eq] at hj
    exact moB_iff.1 h j hj.2 hj.1
  induction hc with
  | refl => rfl
  | fwd j hj _ ih => exact ih.trans (h2 j hj)
  | bwd j hj _ ih => exact ih.trans (h2 j hj).symm
/-- How many colours there are such that the edges of s below i have the same at both ends. -/
def colN (E : List (Nat × Nat)) (n k s i : Nat) : Int := itr (fun _ => List.range k) n fun f => if moB E s f i = true then 1 else 0
theorem tal_one {L : List Nat} {x : Nat} (p : Nat → Bool) (hx : x ∈ L) (hn : L.Nodup) (hp : ∀ y, y ∈ L → (p y = true ↔ y = x)) : tal (fun y => if p y = true then 1 else 0) L = 1 := by
  induction L with
  | nil => cases hx
  | cons a L ih =>
    show (if p a = true then 1 else 0) + tal _ L = 1
    have ha := hp a List.mem_cons_self
    have hn2 := List.nodup_cons.1 hn
    by_cases e : a = x
    · rw [if_pos (ha.2 e), tal_congr (G := fun _ => 0) fun y hy => if_neg fun c => ?_, tal_zero]; rfl
      have := (hp y (List.mem_cons_of_mem _ hy)).1 c
      exact hn2.1 (e ▸ this ▸ hy)
    · rw [if_neg fun c => e (ha.1 c), Int.zero_add]
      rcases List.mem_cons.1 hx with h | h
      · exact absurd h.symm e
      · exact ih h hn2.2 fun y hy => hp y (List.mem_cons_of_mem _ hy)
theorem turn_inj {k x y t : Nat} (hx : x < k) (hy : y < k) (h : (x + t) % k = (y + t) % k) : x = y := by
  have h1 : ((x + t : Nat) : Int) % (k : Int) = ((y + t : Nat) : Int) % (k : Int) := by rw [← Int.natCast_emod, ← Int.natCast_emod, h]
  have h2 := Int.emod_eq_emod_iff_emod_sub_eq_zero.1 h1
  obtain ⟨c, hc⟩ := Int.dvd_of_emod_eq_zero h2
  have hc0 : c = 0 := by
    rcases Int.lt_trichotomy c 0 with h | h | h
    · have : (k : Int) * c ≤ (k : Int) * (-1) := Int.mul_le_mul_of_nonneg_left (by omega) (by omega)
      omega
    · exact h
    · have : (k : Int) * 1 ≤ (k : Int) * c := Int.mul_le_mul_of_nonneg_left (by omega) (by omega)
      omega
  subst hc0
  omega
theorem col_zero (n k s : Nat) : colN E n k s 0 = (k : Int) ^ n := by
  unfold colN
  rw [itr_congr (F := fun f => if moB E s f 0 = true then 1 else 0) (G := fun _ => 1) fun f _ _ => if_pos rfl]
  exact itr_one fun i _ => by simp
theorem col_miss {n k s i : Nat} (h : s.testBit i = false) : colN E n k s (i + 1) = colN E n k s i := by
  unfold colN
  refine itr_congr fun f _ _ => ?_
  rw [moB_succ, h]
  simp
theorem col_hang {n k s i : Nat} (h : depG E (lo s i) i) : colN E n k s (i + 1) = colN E n k s i := by
  unfold colN
  refine itr_congr fun f _ _ => ?_
  rw [moB_succ]
  by_cases e : moB E s f i = true
  · have := moB_conn e h
    rw [e, this]
    simp
  · simp [e]
theorem col_new {n k s i : Nat} (hs : s.testBit i = true) (hi : ea E i < n ∧ eb E i < n) (hE : ∀ j, s.testBit j = true → ea E j < n ∧ eb E j < n) (h : ¬ depG E (lo s i) i) : (k : Int) * colN E n k s (i + 1) = colN E n k s i := by
  let σ : Nat → Nat → Nat → Nat := fun t v x => if Conn E (lo s i) (eb E i) v then (x + t) % k else x
  have hcomp : ∀ j, j < i → s.testBit j = true → (Conn E (lo s i) (eb E i) (ea E j) ↔ Conn E (lo s i) (eb E i) (eb E j)) := fun j hj hb => by
    have hb2 : (lo s i).testBit j = true := by rw [lo_bit]; simp [hb, hj]
    exact ⟨fun c => .fwd j hb2 c, fun c => .bwd j hb2 c⟩
  have hna : ¬ Conn E (lo s i) (eb E i) (ea E i) := fun c => h c.symm
  have key : ∀ t, t < k → itr (fun _ => List.range k) n (fun f => if (moB E s f i && ((f (eb E i) + t) % k == f (ea E i))) = true then 1 else 0) = colN E n k s (i + 1) := fun t ht => by
    unfold colN
    rw [← itr_perm (A := fun _ => List.range k) (σ := σ t) (n := n) (F := fun f => if moB E s f (i + 1) = true then 1 else 0) fun v _ => ?_]
    · refine itr_congr fun f hf _ => ?_
      have ap : ∀ v, v < n → apF (σ t) n f v = if Conn E (lo s i) (eb E i) v then (f v + t) % k else f v := fun v hv => by
        unfold apF
        rw [if_pos hv]
      have e1 : moB E s (apF (σ t) n f) i = moB E s f i := by
        rw [Bool.eq_iff_iff, moB_iff, moB_iff]
        refine ⟨fun c j hj hb => ?_, fun c j hj hb => ?_⟩
        · have h1 := c j hj hb
          have h2 := hE j hb
          rw [ap _ h2.1, ap _ h2.2] at h1
          by_cases hc : Conn E (lo s i) (eb E i) (ea E j)
          · rw [if_pos hc, if_pos ((hcomp j hj hb).1 hc)] at h1
            exact turn_inj (List.mem_range.1 (hf _ h2.1)) (List.mem_range.1 (hf _ h2.2)) h1
          · rw [if_neg hc, if_neg (fun c => hc ((hcomp j hj hb).2 c))] at h1
            exact h1
        · have h2 := hE j hb
          rw [ap _ h2.1, ap _ h2.2, c j hj hb]
          by_cases hc : Conn E (lo s i) (eb E i) (ea E j)
          · rw [if_pos hc, if_pos ((hcomp j hj hb).1 hc)]
          · rw [if_neg hc, if_neg (fun c => hc ((hcomp j hj hb).2 c))]
      rw [moB_succ, e1, hs, ap _ hi.1, ap _ hi.2, if_neg hna, if_pos (Conn.refl (E := E) (s := lo s i) (eb E i))]
      simp only [Bool.not_true, Bool.false_or]
      congr 1
      rw [Bool.and_eq_true, Bool.and_eq_true, beq_iff_eq, beq_iff_eq]
      exact propext ⟨fun ⟨a, b⟩ => ⟨a, b.symm⟩, fun ⟨a, b⟩ => ⟨a, b.symm⟩⟩
    · by_cases hc : Conn E (lo s i) (eb E i) v
      · have : (fun x => σ t v x) = fun x => (x + t) % k := funext fun x => if_pos hc
        show ((List.range k).map (σ t v)).Perm _
        rw [show σ t v = fun x => (x + t) % k from this]
        exact turn_perm (by omega)
      · have : σ t v = fun x => x := funext fun x => if_neg hc
        rw [this, List.map_id']
  have part : colN E n k s i = tal (fun t => itr (fun _ => List.range k) n (fun f => if (moB E s f i && ((f (eb E i) + t) % k == f (ea E i))) = true then 1 else 0)) (List.range k) := by
    rw [← itr_tal]
    unfold colN
    refine itr_congr fun f hf _ => ?_
    have ha := List.mem_range.1 (hf _ hi.1)
    have hb := List.mem_range.1 (hf _ hi.2)
    by_cases e : moB E s f i = true
    · rw [if_pos e, e]
      simp only [Bool.true_and]
      have hk : 0 < k := by omega
      obtain ⟨t, ht, hte⟩ : ∃ t, t < k ∧ (f (eb E i) + t) % k = f (ea E i) := by
        refine ⟨(f (ea E i) + (k - f (eb E i))) % k, Nat.mod_lt _ hk, ?_⟩
        rw [Nat.add_mod_mod, show f (eb E i) + (f (ea E i) + (k - f (eb E i))) = f (ea E i) + k * 1 by omega, Nat.add_mul_mod_self_left, Nat.mod_eq_of_lt ha]
      refine (tal_one (x := t) _ (List.mem_range.2 ht) List.nodup_range fun y hy => ?_).symm
      rw [beq_iff_eq]
      refine ⟨fun c => ?_, fun c => c ▸ hte⟩
      have : (y + f (eb E i)) % k = (t + f (eb E i)) % k := by rw [Nat.add_comm, c, Nat.add_comm, hte]
      exact turn_inj (List.mem_range.1 hy) ht this
    · rw [if_neg e]
      have e' : moB E s f i = false := by simpa using e
      rw [e']
      simp only [Bool.false_and]
      exact (tal_zero _).symm
  rw [part, tal_congr (G := fun _ => colN E n k s (i + 1)) fun t ht => key t (List.mem_range.1 ht), tal_const]
  simp [Int.mul_comm]
theorem col_is {n k s : Nat} (hE : ∀ j, s.testBit j = true → ea E j < n ∧ eb E j < n) : ∀ i, colN E n k s i * (k : Int) ^ depTo (depG E) s i = (k : Int) ^ n
  | 0 => by rw [col_zero, depTo, Int.pow_zero, Int.mul_one]
  | i + 1 => by
    have ih := col_is hE i (k := k)
    rw [depTo]
    by_cases hs : s.testBit i = true
    · by_cases hd : depG E (lo s i) i
      · rw [if_neg (fun c => c.2 hd), col_hang hd, Nat.add_zero]; exact ih
      · rw [if_pos ⟨hs, hd⟩, Int.pow_succ, ← ih, ← col_new hs (hE i hs) hE hd]
        simp [Int.mul_comm, Int.mul_left_comm, Int.mul_assoc]
    · have hs' : s.testBit i = false := by simpa using hs
      rw [if_neg (fun c => hs c.1), col_miss hs', Nat.add_zero]; exact ih
/-- The colours are counted: no edge has the same at both ends. -/
def proB (E : List (Nat × Nat)) (f : Nat → Nat) : Bool := (List.range E.length).all fun j => !(f (ea E j) == f (eb E j))
theorem col_count {n k m : Nat} (hm : m = E.length) (hm8 : m ≤ 8) :
    itr (fun _ => List.range k) n (fun f => if proB E f = true then 1 else 0) = tal (fun s => sgn s * colN E n k s m) (List.range (2 ^ m)) := by
  rw [tal_congr (F := fun s => sgn s * colN E n k s m) (G := fun s => itr (fun _ => List.range k) n fun f => sgn s * if moB E s f m = true then 1 else 0) fun s _ => (itr_mul _).symm, ← itr_tal]
  refine itr_congr fun f _ _ => ?_
  obtain ⟨d, hd, hdb⟩ := set_of (fun j => f (ea E j) == f (eb E j)) m
  rw [tal_congr (G := fun s => if subB s d = true then sgn s else 0) fun s hs => ?_, tal_within hm8 hd]
  · congr 1
    rw [eq_iff_iff]
    unfold proB
    rw [List.all_eq_true, ← hm]
    constructor
    · intro h
      refine Nat.eq_of_testBit_eq fun j => ?_
      rw [Nat.zero_testBit]
      by_cases hj : j < m
      · rw [hdb j hj]
        simpa using h j (List.mem_range.2 hj)
      · exact Nat.testBit_lt_two_pow (Nat.lt_of_lt_of_le hd (Nat.pow_le_pow_right (by omega) (by omega)))
    · rintro rfl j hj
      have := hdb j (List.mem_range.1 hj)
      rw [Nat.zero_testBit] at this
      rw [← this]; rfl
  · have hs' := List.mem_range.1 hs
    by_cases e : subB s d = true
    · rw [if_pos e, if_pos, Int.mul_one]
      refine moB_iff.2 fun j hj hb => ?_
      have := subB_iff.1 e j hb
      rw [hdb j hj] at this
      simpa using this
    · rw [if_neg e, if_neg, Int.mul_zero]
      intro c
      refine e (subB_iff.2 fun j hj => ?_)
      have hjm : j < m := bit_n hs' hj
      rw [hdb j hjm]
      simpa using moB_iff.1 c j hjm hj
end Go.Proofs.YtfajbmcdkhgipaaDoor

namespace Go.Proofs.YtfajbmcdkhgipaaDoor
open Classical

/-- Where edge i begins, if the edges of o are turned. -/
def sta (E : List (Nat × Nat)) (o i : Nat) : Nat := if o.testBit i then eb E i else ea E i
/-- Where it ends. -/
def sto (E : List (Nat × Nat)) (o i : Nat) : Nat := if o.testBit i then ea E i else eb E i
/-- A way from u to v along the first j edges, and along those of K either way. -/
inductive Way (E : List (Nat × Nat)) (K o j : Nat) : Nat → Nat → Prop
  | refl (u : Nat) : Way E K o j u u
  | step {u : Nat} (i : Nat) (hi : i < j) (h : Way E K o j u (sta E o i)) : Way E K o j u (sto E o i)
  | side {u v : Nat} (x : Nat) (h : Way E K o j u x) (hc : Conn E K x v) : Way E K o j u v
variable {E : List (Nat × Nat)} {K o j : Nat}
theorem Way.trans {u v x : Nat} (h1 : Way E K o j u v) (h2 : Way E K o j v x) : Way E K o j u x := by
  induction h2 with
  | refl => exact h1
  | step i hi _ ih => exact .step i hi ih
  | side y _ hc ih => exact .side y ih hc
theorem Way.one {i : Nat} (hi : i < j) : Way E K o j (sta E o i) (sto E o i) := .step i hi (.refl _)
theorem Way.conn {u v : Nat} (h : Conn E K u v) : Way E K o j u v := .side u (.refl u) h
theorem Way.mono {u v L k : Nat} (hK : subB K L = true) (hj : j ≤ k) (h : Way E K o j u v) : Way E L o k u v := by
  induction h with
  | refl => exact .refl _
  | step i hi _ ih => exact .step i (by omega) ih
  | side y _ hc ih => exact .side y ih (hc.mono hK)
theorem Way.turn {u v o' : Nat} (ho : ∀ i, i < j → o'.testBit i = o.testBit i) (h : Way E K o j u v) : Way E K o' j u v := by
  have e1 : ∀ i, i < j → sta E o' i = sta E o i := fun i hi => by unfold sta; rw [ho i hi]
  have e2 : ∀ i, i < j → sto E o' i = sto E o i := fun i hi => by unfold sto; rw [ho i hi]
  induction h with
  | refl => exact .refl _
  | step i hi _ ih => rw [← e2 i hi]; exact .step i hi (by rw [e1 i hi]; exact ih)
  | side y _ hc ih => exact .side y ih hc
/-- With the next edge: round it or through it. -/
theorem Way.split {u v : Nat} (h : Way E K o (j + 1) u v) : Way E K o j u v ∨ (Way E K o j u (sta E o j) ∧ Way E K o j (sto E o j) v) := by
  induction h with
  | refl => exact .inl (.refl _)
  | step i hi _ ih =>
    by_cases e : i = j
    · subst e
      rcases ih with h | h
      · exact .inr ⟨h, .refl _⟩
      · exact .inr ⟨h.1, .refl _⟩
    · have hij : i < j := by omega
      rcases ih with h | h
      · exact .inl (.step i hij h)
      · exact .inr ⟨h.1, .step i hij h.2⟩
  | side y _ hc ih =>
    rcases ih with h | h
    · exact .inl (.side y h hc)
    · exact .inr ⟨h.1, .side y h.2 hc⟩
/-- With one edge more that goes either way. -/
theorem Way.more {u v i : Nat} (h : Way E (K ||| 2 ^ i) o j u v) : Way E K o j u v ∨ (Way E K o j u (ea E i) ∧ Way E K o j (eb E i) v) ∨ (Way E K o j u (eb E i) ∧ Way E K o j (ea E i) v) := by
  induction h with
  | refl => exact .inl (.refl _)
  | step k hk _ ih =>
    rcases ih with h | h | h
    · exact .inl (.step k hk h)
    · exact .inr (.inl ⟨h.1, .step k hk h.2⟩)
    · exact .inr (.inr ⟨h.1, .step k hk h.2⟩)
  | side y _ hc ih =>
    rcases hc.one with c | ⟨c1, c2⟩ | ⟨c1, c2⟩
    · rcases ih with h | h | h
      · exact .inl (.side y h c)
      · exact .inr (.inl ⟨h.1, .side y h.2 c⟩)
      · exact .inr (.inr ⟨h.1, .side y h.2 c⟩)
    · rcases ih with h | h | h
      · exact .inr (.inl ⟨.side y h c1, .conn c2⟩)
      · exact .inr (.inl ⟨h.1, .conn c2⟩)
      · exact .inl (h.1.trans (.conn c2))
    · rcases ih with h | h | h
      · exact .inr (.inr ⟨.side y h c1, .conn c2⟩)
      · exact .inl (h.1.trans (.conn c2))
      · exact .inr (.inr ⟨h.1, .conn c2⟩)
/-- No edge's end leads back to its start. -/
def NoRing (E : List (Nat × Nat)) (K o j : Nat) : Prop := ∀ i, i < j → ¬ Way E K o j (sto E o i) (sta E o i)
theorem NoRing.less {L : Nat} (hK : subB K L = true) (h : NoRing E L o j) : NoRing E K o j := fun i hi c => h i hi (c.mono hK (Nat.le_refl _))
/-- A way that is no way along K alone has an edge. -/
theorem Way.edge {u v : Nat} (h : Way E K o j u v) : Conn E K u v ∨ ∃ i, i < j ∧ Way E K o j u (sta E o i) ∧ Way E K o j (sto E o i) v := by
  induction h with
  | refl => exact .inl (.refl _)
  | step i hi h _ => exact .inr ⟨i, hi, h, .refl _⟩
  | side y _ hc ih =>
    rcases ih with h | ⟨i, hi, h1, h2⟩
    · exact .inl (h.trans hc)
    · exact .inr ⟨i, hi, h1, .side y h2 hc⟩
/-- Not both ways. -/
theorem NoRing.not_both (h : NoRing E K o j) {a b : Nat} (hab : ¬ Conn E K a b) (h1 : Way E K o j a b) (h2 : Way E K o j b a) : False := by
  rcases h1.edge with c | ⟨i, hi, c1, c2⟩
  · exact hab c
  · exact h i hi ((c2.trans h2).trans c1)
/-- The next edge may lie as it does just if its end does not lead to its start. -/
theorem noRing_succ : NoRing E K o (j + 1) ↔ NoRing E K o j ∧ ¬ Way E K o j (sto E o j) (sta E o j) := by
  constructor
  · intro h
    refine ⟨fun i hi c => h i (by omega) (c.mono (sub_refl _) (by omega)), fun c => h j (by omega) (c.mono (sub_refl _) (by omega))⟩
  · rintro ⟨h1, h2⟩ i hi c
    by_cases e : i = j
    · subst e
      rcases c.split with c | ⟨c1, _⟩
      · exact h2 c
      · exact h2 c1
    · have hij : i < j := by omega
      rcases c.split with c | ⟨c1, c2⟩
      · exact h1 i hij c
      · exact h2 ((c2.trans (.one hij)).trans c1)
/-- The next edge may go either way just if neither of its ends leads to the other one. -/
theorem noRing_more (hc : ¬ Conn E K (ea E j) (eb E j)) : NoRing E (K ||| 2 ^ j) o j ↔ NoRing E K o j ∧ ¬ Way E K o j (ea E j) (eb E j) ∧ ¬ Way E K o j (eb E j) (ea E j) := by
  have hs : subB K (K ||| 2 ^ j) = true := ad_sub K j
  have he : Conn E (K ||| 2 ^ j) (ea E j) (eb E j) := Conn.edge (ad_self K j)
  constructor
  · intro h
    refine ⟨h.less hs, fun c => ?_, fun c => ?_⟩
    · rcases c.edge with c | ⟨i, hi, c1, c2⟩
      · exact hc c
      · exact h i hi (((c2.mono hs (Nat.le_refl _)).trans (.conn he.symm)).trans (c1.mono hs (Nat.le_refl _)))
    · rcases c.edge with c | ⟨i, hi, c1, c2⟩
      · exact hc c.symm
      · exact h i hi (((c2.mono hs (Nat.le_refl _)).trans (.conn he)).trans (c1.mono hs (Nat.le_refl _)))
  · rintro ⟨h1, h2, h3⟩ i hi c
    rcases c.more with c | ⟨c1, c2⟩ | ⟨c1, c2⟩
    · exact h1 i hi c
    · exact h3 ((c2.trans (.one hi)).trans c1)
    · exact h2 ((c2.trans (.one hi)).trans c1)
/-- Colours that never rise along the first j edges, and are one on each part of K. -/
def Falls (E : List (Nat × Nat)) (K o j : Nat) (c : Nat → Nat) : Prop := (∀ u v, Conn E K u v → c u = c v) ∧ ∀ i, i < j → c (sto E o i) ≤ c (sta E o i)
theorem Falls.way {c : Nat → Nat} (h : Falls E K o j c) {u v : Nat} (hw : Way E K o j u v) : c v ≤ c u := by
  induction hw with
  | refl => exact Nat.le_refl _
  | step i hi _ ih => exact Nat.le_trans (h.2 i hi) ih
  | side y _ hc ih => rw [← h.1 _ _ hc]; exact ih
theorem falls_succ {c : Nat → Nat} : Falls E K o (j + 1) c ↔ Falls E K o j c ∧ c (sto E o j) ≤ c (sta E o j) := by
  constructor
  · intro h
    exact ⟨⟨h.1, fun i hi => h.2 i (by omega)⟩, h.2 j (by omega)⟩
  · rintro ⟨h, h2⟩
    refine ⟨h.1, fun i hi => ?_⟩
    by_cases e : i = j
    · subst e; exact h2
    · exact h.2 i (by omega)
theorem falls_more {c : Nat → Nat} : Falls E (K ||| 2 ^ j) o j c ↔ Falls E K o j c ∧ c (ea E j) = c (eb E j) := by
  constructor
  · intro h
    exact ⟨⟨fun u v hc => h.1 u v (hc.mono (ad_sub K j)), h.2⟩, h.1 _ _ (Conn.edge (ad_self K j))⟩
  · rintro ⟨h, he⟩
    refine ⟨fun u v hc => ?_, h.2⟩
    rcases hc.one with d | ⟨d1, d2⟩ | ⟨d1, d2⟩
    · exact h.1 _ _ d
    · exact (h.1 _ _ d1).trans (he.trans (h.1 _ _ d2))
    · exact (h.1 _ _ d1).trans (he.symm.trans (h.1 _ _ d2))
/-- What is counted. -/
def GoodO (E : List (Nat × Nat)) (K o j : Nat) (c : Nat → Nat) : Prop := NoRing E K o j ∧ Falls E K o j c
noncomputable def godZ (E : List (Nat × Nat)) (K o j : Nat) (c : Nat → Nat) : Int := if GoodO E K o j c then 1 else 0
theorem good_turn {o' : Nat} {c : Nat → Nat} (ho : ∀ i, i < j → o'.testBit i = o.testBit i) (h : GoodO E K o j c) : GoodO E K o' j c := by
  have e1 : ∀ i, i < j → sta E o' i = sta E o i := fun i hi => by unfold sta; rw [ho i hi]
  have e2 : ∀ i, i < j → sto E o' i = sto E o i := fun i hi => by unfold sto; rw [ho i hi]
  refine ⟨fun i hi cw => h.1 i hi ?_, h.2.1, fun i hi => by rw [e1 i hi, e2 i hi]; exact h.2.2 i hi⟩
  have := cw.turn (o' := o) fun i hi => (ho i hi).symm
  rwa [e1 i hi, e2 i hi] at this
theorem god_same {o' : Nat} {c : Nat → Nat} (ho : ∀ i, i < j → o'.testBit i = o.testBit i) : godZ E K o' j c = godZ E K o j c := by
  unfold godZ
  congr 1
  exact propext ⟨good_turn fun i hi => (ho i hi).symm, good_turn ho⟩
theorem ite_same {p q : Prop} [Decidable p] [Decidable q] (h : p ↔ q) : (if p then (1 : Int) else 0) = if q then 1 else 0 := by
  by_cases hp : p
  · rw [if_pos hp, if_pos (h.1 hp)]
  · rw [if_neg hp, if_neg fun hq => hp (h.2 hq)]
/-- One edge more: the two directions. -/
theorem god_step {c : Nat → Nat} (ho : o < 2 ^ j) (hc : ¬ Conn E K (ea E j) (eb E j)) : godZ E K o (j + 1) c + godZ E K (o ||| 2 ^ j) (j + 1) c = godZ E K o j c + godZ E (K ||| 2 ^ j) o j c := by
  have b0 : o.testBit j = false := Nat.testBit_lt_two_pow ho
  have b1 : (o ||| 2 ^ j).testBit j = true := ad_self o j
  have bi : ∀ i, i < j → (o ||| 2 ^ j).testBit i = o.testBit i := fun i hi => by rw [or_bit, show decide (j = i) = false by simp; omega, Bool.or_false]
  have s0 : sta E o j = ea E j ∧ sto E o j = eb E j := by unfold sta sto; rw [b0]; exact ⟨rfl, rfl⟩
  have s1 : sta E (o ||| 2 ^ j) j = eb E j ∧ sto E (o ||| 2 ^ j) j = ea E j := by unfold sta sto; rw [b1]; exact ⟨rfl, rfl⟩
  have g0 : GoodO E K o (j + 1) c ↔ GoodO E K o j c ∧ ¬ Way E K o j (eb E j) (ea E j) ∧ c (eb E j) ≤ c (ea E j) := by
    unfold GoodO
    rw [noRing_succ, falls_succ, s0.1, s0.2]
    exact ⟨fun ⟨⟨a, b⟩, d, e⟩ => ⟨⟨a, d⟩, b, e⟩, fun ⟨⟨a, d⟩, b, e⟩ => ⟨⟨a, b⟩, d, e⟩⟩
  have gt : GoodO E K (o ||| 2 ^ j) j c ↔ GoodO E K o j c := ⟨good_turn fun i hi => (bi i hi).symm, good_turn bi⟩
  have wt' : ∀ u v, Way E K (o ||| 2 ^ j) j u v ↔ Way E K o j u v := fun u v => ⟨fun h => h.turn fun i hi => (bi i hi).symm, fun h => h.turn bi⟩
  have g1 : GoodO E K (o ||| 2 ^ j) (j + 1) c ↔ GoodO E K o j c ∧ ¬ Way E K o j (ea E j) (eb E j) ∧ c (ea E j) ≤ c (eb E j) := by
    rw [← gt]
    unfold GoodO
    rw [noRing_succ, falls_succ, s1.1, s1.2, wt']
    exact ⟨fun ⟨⟨a, b⟩, d, e⟩ => ⟨⟨a, d⟩, b, e⟩, fun ⟨⟨a, d⟩, b, e⟩ => ⟨⟨a, b⟩, d, e⟩⟩
  have g2 : GoodO E (K ||| 2 ^ j) o j c ↔ GoodO E K o j c ∧ ¬ Way E K o j (ea E j) (eb E j) ∧ ¬ Way E K o j (eb E j) (ea E j) ∧ c (ea E j) = c (eb E j) := by
    unfold GoodO
    rw [noRing_more hc, falls_more]
    exact ⟨fun ⟨⟨a, b, d⟩, e, f⟩ => ⟨⟨a, e⟩, b, d, f⟩, fun ⟨⟨a, e⟩, b, d, f⟩ => ⟨⟨a, b, d⟩, e, f⟩⟩
  unfold godZ
  rw [ite_same g0, ite_same g1, ite_same g2]
  by_cases hg : GoodO E K o j c
  · rcases Nat.lt_trichotomy (c (ea E j)) (c (eb E j)) with h | h | h
    · have n1 : ¬ Way E K o j (ea E j) (eb E j) := fun w => by have := hg.2.way w; omega
      rw [if_neg (fun x => by omega), if_pos ⟨hg, n1, by omega⟩, if_pos hg, if_neg (fun x => by omega)]; rfl
    · by_cases w1 : Way E K o j (ea E j) (eb E j)
      · have w2 : ¬ Way E K o j (eb E j) (ea E j) := fun w2 => hg.1.not_both hc w1 w2
        rw [if_pos ⟨hg, w2, by omega⟩, if_neg (fun x => x.2.1 w1), if_pos hg, if_neg (fun x => x.2.1 w1)]
      · by_cases w2 : Way E K o j (eb E j) (ea E j)
        · rw [if_neg (fun x => x.2.1 w2), if_pos ⟨hg, w1, by omega⟩, if_pos hg, if_neg (fun x => x.2.2.1 w2)]; rfl
        · rw [if_pos ⟨hg, w2, by omega⟩, if_pos ⟨hg, w1, by omega⟩, if_pos hg, if_pos ⟨hg, w1, w2, h⟩]
    · have n1 : ¬ Way E K o j (eb E j) (ea E j) := fun w => by have := hg.2.way w; omega
      rw [if_pos ⟨hg, n1, by omega⟩, if_neg (fun x => by omega), if_pos hg, if_neg (fun x => by omega)]
  · rw [if_neg (fun x => hg x.1), if_neg (fun x => hg x.1), if_neg hg, if_neg (fun x => hg x.1)]
theorem god_loop {c : Nat → Nat} (hc : Conn E K (ea E j) (eb E j)) : godZ E K o (j + 1) c = 0 := by
  unfold godZ
  rw [if_neg]
  rintro ⟨h, -⟩
  refine (noRing_succ.1 h).2 (.conn ?_)
  unfold sta sto
  split
  · exact hc
  · exact hc.symm
end Go.Proofs.YtfajbmcdkhgipaaDoor

namespace Go.Proofs.YtfajbmcdkhgipaaDoor

/-- Names after the first k edges of a turn. -/
def relaxTo (E : List (Nat × Nat)) (s : Nat) (f : Nat → Nat) : Nat → Nat → Nat
  | 0 => f
  | k + 1 => fun v => if s.testBit k = true then (if v = ea E k ∨ v = eb E k then min (relaxTo E s f k (ea E k)) (relaxTo E s f k (eb E k)) else relaxTo E s f k v) else relaxTo E s f k v
/-- Names after some turns. -/
def turnTo (E : List (Nat × Nat)) (s : Nat) : Nat → Nat → Nat
  | 0 => fun v => v
  | t + 1 => relaxTo E s (turnTo E s t) E.length
def isleTo (f : Nat → Nat) (k : Nat) : Nat := ((List.range k).filter fun i => f i == i).length
def isleN (n : Nat) (E : List (Nat × Nat)) (s : Nat) : Nat := isleTo (turnTo E s n) n
theorem isleTo_succ (f : Nat → Nat) (k : Nat) : isleTo f (k + 1) = isleTo f k + if f k = k then 1 else 0 := by
  unfold isleTo
  rw [List.range_succ, List.filter_append, List.length_append]
  by_cases h : f k = k <;> simp [h]
theorem isleTo_le (f : Nat → Nat) (k : Nat) : isleTo f k ≤ k := by
  have := List.length_filter_le (fun i => f i == i) (List.range k)
  rwa [List.length_range] at this
end Go.Proofs.YtfajbmcdkhgipaaDoor

namespace Go.Proofs.YtfajbmcdkhgipaaDoor

variable {E : List (Nat × Nat)} {s : Nat}
theorem relax_step (f : Nat → Nat) (k v : Nat) : relaxTo E s f (k + 1) v ≤ relaxTo E s f k v := by
  show (if s.testBit k = true then (if v = ea E k ∨ v = eb E k then min (relaxTo E s f k (ea E k)) (relaxTo E s f k (eb E k)) else relaxTo E s f k v) else relaxTo E s f k v) ≤ _
  split
  · split
    · rename_i h
      rcases h with h | h
      · rw [h]; exact Nat.min_le_left _ _
      · rw [h]; exact Nat.min_le_right _ _
    · exact Nat.le_refl _
  · exact Nat.le_refl _
theorem relax_down (f : Nat → Nat) (v : Nat) {j : Nat} : ∀ k, j ≤ k → relaxTo E s f k v ≤ relaxTo E s f j v
  | 0, h => by obtain rfl : j = 0 := by omega
               exact Nat.le_refl _
  | k + 1, h => by
    by_cases e : j = k + 1
    · rw [e]; exact Nat.le_refl _
    · exact Nat.le_trans (relax_step f k v) (relax_down f v k (by omega))
theorem relax_edge (f : Nat → Nat) {j k : Nat} (hj : s.testBit j = true) (hk : j < k) : relaxTo E s f k (ea E j) ≤ f (eb E j) ∧ relaxTo E s f k (eb E j) ≤ f (ea E j) := by
  have h1 : ∀ v, v = ea E j ∨ v = eb E j → relaxTo E s f (j + 1) v = min (relaxTo E s f j (ea E j)) (relaxTo E s f j (eb E j)) := fun v hv => by
    show (if s.testBit j = true then (if v = ea E j ∨ v = eb E j then min (relaxTo E s f j (ea E j)) (relaxTo E s f j (eb E j)) else relaxTo E s f j v) else relaxTo E s f j v) = _
    rw [if_pos hj, if_pos hv]
  have d1 := relax_down (E := E) (s := s) f (ea E j) k (show j + 1 ≤ k from hk)
  have d2 := relax_down (E := E) (s := s) f (eb E j) k (show j + 1 ≤ k from hk)
  rw [h1 _ (.inl rfl)] at d1
  rw [h1 _ (.inr rfl)] at d2
  have d3 : relaxTo E s f j (eb E j) ≤ f (eb E j) := relax_down f _ j (Nat.zero_le _)
  have d4 : relaxTo E s f j (ea E j) ≤ f (ea E j) := relax_down f _ j (Nat.zero_le _)
  exact ⟨Nat.le_trans d1 (Nat.le_trans (Nat.min_le_right _ _) d3), Nat.le_trans d2 (Nat.le_trans (Nat.min_le_left _ _) d4)⟩
theorem relax_conn {f : Nat → Nat} (hf : ∀ v, Conn E s v (f v)) : ∀ k v, Conn E s v (relaxTo E s f k v)
  | 0, v => hf v
  | k + 1, v => by
    have ih := relax_conn hf k
    show Conn E s v (if s.testBit k = true then (if v = ea E k ∨ v = eb E k then min (relaxTo E s f k (ea E k)) (relaxTo E s f k (eb E k)) else relaxTo E s f k v) else relaxTo E s f k v)
    split
    · rename_i hb
      split
      · rename_i h
        have h1 : ∀ x, x = relaxTo E s f k (ea E k) ∨ x = relaxTo E s f k (eb E k) → Conn E s v x := fun x hx => by
          rcases h with h | h <;> rcases hx with hx | hx <;> rw [h, hx]
          · exact ih _
          · exact (Conn.edge hb).trans (ih _)
          · exact (Conn.edge hb).symm.trans (ih _)
          · exact ih _
        rcases Nat.le_total (relaxTo E s f k (ea E k)) (relaxTo E s f k (eb E k)) with h2 | h2
        · rw [Nat.min_eq_left h2]; exact h1 _ (.inl rfl)
        · rw [Nat.min_eq_right h2]; exact h1 _ (.inr rfl)
      · exact ih v
    · exact ih v
theorem turn_conn : ∀ t v, Conn E s v (turnTo E s t v)
  | 0, v => .refl v
  | t + 1, v => relax_conn (turn_conn t) _ v
theorem turn_step (t v : Nat) : turnTo E s (t + 1) v ≤ turnTo E s t v := relax_down _ v _ (Nat.zero_le _)
/-- How many below n are such. -/
def cnP (P : Nat → Bool) (n : Nat) : Nat := ((List.range n).filter P).length
theorem cnP_succ (P : Nat → Bool) (n : Nat) : cnP P (n + 1) = cnP P n + if P n = true then 1 else 0 := by
  unfold cnP
  rw [List.range_succ, List.filter_append, List.length_append]
  by_cases h : P n = true <;> simp [h]
theorem cnP_le (P : Nat → Bool) (n : Nat) : cnP P n ≤ n := by
  have := List.length_filter_le P (List.range n)
  rwa [List.length_range] at this
theorem cnP_mono {P Q : Nat → Bool} : ∀ {n : Nat}, (∀ v, v < n → P v = true → Q v = true) → cnP P n ≤ cnP Q n
  | 0, _ => Nat.le_refl _
  | n + 1, h => by
    have ih := cnP_mono (n := n) fun v hv => h v (by omega)
    rw [cnP_succ, cnP_succ]
    have := h n (by omega)
    by_cases h1 : P n = true
    · rw [if_pos h1, if_pos (this h1)]; omega
    · rw [if_neg h1]; omega
theorem cnP_more {P Q : Nat → Bool} {x : Nat} (hx : Q x = true) (hx' : ¬ P x = true) : ∀ {n : Nat}, x < n → (∀ v, v < n → P v = true → Q v = true) → cnP P n + 1 ≤ cnP Q n
  | 0, h, _ => by omega
  | n + 1, hn, h => by
    rw [cnP_succ, cnP_succ]
    by_cases e : x = n
    · subst e
      have := cnP_mono (n := x) fun v hv => h v (by omega)
      rw [if_neg hx', if_pos hx]
      omega
    · have ih := cnP_more hx hx' (n := n) (by omega) fun v hv => h v (by omega)
      have := h n (by omega)
      by_cases h1 : P n = true
      · rw [if_pos h1, if_pos (this h1)]; omega
      · rw [if_neg h1]; omega
theorem cnP_congr {P Q : Nat → Bool} {n : Nat} (h : ∀ v, v < n → P v = Q v) : cnP P n = cnP Q n := Nat.le_antisymm (cnP_mono fun v hv e => by rw [← h v hv]; exact e) (cnP_mono fun v hv e => by rw [h v hv]; exact e)
/-- One less. -/
theorem cnP_less {P Q : Nat → Bool} {x : Nat} (hx : P x = true) : ∀ {n : Nat}, x < n → (∀ v, v < n → Q v = (P v && v != x)) → cnP Q n + 1 = cnP P n
  | 0, h, _ => by omega
  | n + 1, hn, h => by
    rw [cnP_succ, cnP_succ]
    by_cases e : x = n
    · subst e
      have h1 : cnP Q x = cnP P x := cnP_congr fun v hv => by rw [h v (by omega)]; have : (v != x) = true := by rw [bne_iff_ne]; omega
                                                              rw [this, Bool.and_true]
      have h2 : ¬ Q x = true := by rw [h x (by omega)]; simp
      rw [if_neg h2, if_pos hx, h1]
    · have ih := cnP_less hx (n := n) (by omega) fun v hv => h v (by omega)
      have h1 : Q n = P n := by rw [h n (by omega)]; have : (n != x) = true := by rw [bne_iff_ne]; omega
                                rw [this, Bool.and_true]
      rw [h1]
      omega
variable {n : Nat}
/-- After n turns every name is no more than what hangs together with it. -/
theorem turn_least (hE : ∀ j, j < E.length → ea E j < n ∧ eb E j < n) (hs : s < 2 ^ E.length) {u v : Nat} (hu : u < n) (h : Conn E s u v) : turnTo E s n v ≤ u := by
  have hbit : ∀ j, s.testBit j = true → j < E.length := fun j hj => by
    refine Nat.lt_of_not_le fun hle => ?_
    rw [Nat.testBit_lt_two_pow (Nat.lt_of_lt_of_le hs (Nat.pow_le_pow_right (by omega) hle))] at hj
    cases hj
  have key : ∀ t, (∀ v, Conn E s u v → turnTo E s t v ≤ u) ∨ t + 1 ≤ cnP (fun v => decide (turnTo E s t v ≤ u)) n := by
    intro t
    induction t with
    | zero =>
      refine .inr ?_
      have h1 := cnP_more (P := fun _ => false) (Q := fun v => decide (turnTo E s 0 v ≤ u)) (x := u) (by simp [turnTo]) (by simp) (n := n) hu fun v _ e => by cases e
      omega
    | succ t ih =>
      rcases ih with ih | ih
      · exact .inl fun v hv => Nat.le_trans (turn_step t v) (ih v hv)
      · by_cases hc : ∃ x, x < n ∧ turnTo E s (t + 1) x ≤ u ∧ ¬ turnTo E s t x ≤ u
        · obtain ⟨x, hx, h1, h2⟩ := hc
          have h3 := cnP_more (P := fun v => decide (turnTo E s t v ≤ u)) (Q := fun v => decide (turnTo E s (t + 1) v ≤ u)) (x := x) (by simpa using h1) (by simpa using h2) (n := n) hx fun v _ e => by
            have e' : turnTo E s t v ≤ u := by simpa using e
            simpa using Nat.le_trans (turn_step t v) e'
          exact .inr (by omega)
        · refine .inl fun v hv => ?_
          have h5 : ∀ x, x < n → turnTo E s (t + 1) x ≤ u → turnTo E s t x ≤ u := fun x hx h1 => Decidable.byContradiction fun h2 => hc ⟨x, hx, h1, h2⟩
          have h6 : turnTo E s t v ≤ u := by
            clear h
            induction hv with
            | refl =>
              have h7 : ∀ t, turnTo E s t u ≤ u := fun t => by
                induction t with
                | zero => exact Nat.le_refl _
                | succ t ih => exact Nat.le_trans (turn_step t u) ih
              exact h7 t
            | fwd j hj _ ih => exact h5 _ (hE j (hbit j hj)).2 (Nat.le_trans (relax_edge _ hj (hbit j hj)).2 ih)
            | bwd j hj _ ih => exact h5 _ (hE j (hbit j hj)).1 (Nat.le_trans (relax_edge _ hj (hbit j hj)).1 ih)
          exact Nat.le_trans (turn_step t v) h6
  rcases key n with k | k
  · exact k v h
  · have := cnP_le (fun v => decide (turnTo E s n v ≤ u)) n
    omega
theorem turn_lt (hE : ∀ j, j < E.length → ea E j < n ∧ eb E j < n) (hs : s < 2 ^ E.length) {v : Nat} (hv : v < n) : turnTo E s n v ≤ v := turn_least hE hs hv (.refl v)
theorem isle_cn (s : Nat) : isleN n E s = cnP (fun v => turnTo E s n v == v) n := rfl
/-- A name stays just if nothing less hangs together with it. -/
theorem turn_fix (hE : ∀ j, j < E.length → ea E j < n ∧ eb E j < n) (hs : s < 2 ^ E.length) {v : Nat} (hv : v < n) : turnTo E s n v = v ↔ ∀ u, u < n → Conn E s u v → v ≤ u := by
  constructor
  · intro h u hu hc
    have := turn_least hE hs hu hc
    omega
  · intro h
    have h1 := turn_lt hE hs hv
    have h2 := h _ (Nat.lt_of_le_of_lt h1 hv) (turn_conn (E := E) (s := s) n v).symm
    omega
theorem turn_idem (hE : ∀ j, j < E.length → ea E j < n ∧ eb E j < n) (hs : s < 2 ^ E.length) {v : Nat} (hv : v < n) : turnTo E s n (turnTo E s n v) = turnTo E s n v :=
  (turn_fix hE hs (Nat.lt_of_le_of_lt (turn_lt hE hs hv) hv)).2 fun _ hu hc => turn_least hE hs hu (hc.trans (turn_conn (E := E) (s := s) n v).symm)
theorem turn_eq (hE : ∀ j, j < E.length → ea E j < n ∧ eb E j < n) (hs : s < 2 ^ E.length) {u v : Nat} (hu : u < n) (hv : v < n) (h : Conn E s u v) : turnTo E s n u = turnTo E s n v :=
  Nat.le_antisymm (turn_least hE hs (Nat.lt_of_le_of_lt (turn_lt hE hs hv) hv) ((turn_conn (E := E) (s := s) n v).symm.trans h.symm)) (turn_least hE hs (Nat.lt_of_le_of_lt (turn_lt hE hs hu) hu) ((turn_conn (E := E) (s := s) n u).symm.trans h))
theorem isle_add (hE : ∀ j, j < E.length → ea E j < n ∧ eb E j < n) (hs : s < 2 ^ E.length) {i : Nat} (hi : i < E.length) : isleN n E s = isleN n E (s ||| 2 ^ i) + (open Classical in if depG E s i then 0 else 1) := by
  have hs' : s ||| 2 ^ i < 2 ^ E.length := Nat.or_lt_two_pow hs (Nat.pow_lt_pow_right (by omega) hi)
  obtain ⟨ha, hb⟩ := hE i hi
  by_cases hd : depG E s i
  · rw [if_pos hd, Nat.add_zero, isle_cn, isle_cn]
    refine cnP_congr fun v hv => ?_
    have h1 : ∀ u, Conn E s u v ↔ Conn E (s ||| 2 ^ i) u v := fun u => ⟨fun h => h.mono (ad_sub s i), fun h => h.drop fun j hj => by
      rw [or_bit] at hj
      by_cases h2 : s.testBit j = true
      · exact .edge h2
      · have e : i = j := by simpa [Bool.eq_false_iff.2 h2] using hj
        subst e
        exact hd⟩
    rw [Bool.eq_iff_iff, beq_iff_eq, beq_iff_eq, turn_fix hE hs hv, turn_fix hE hs' hv]
    exact ⟨fun h u hu hc => h u hu ((h1 u).2 hc), fun h u hu hc => h u hu ((h1 u).1 hc)⟩
  · rw [if_neg hd, isle_cn, isle_cn]
    obtain ⟨A, hA⟩ : ∃ A, turnTo E s n (ea E i) = A := ⟨_, rfl⟩
    obtain ⟨B, hB⟩ : ∃ B, turnTo E s n (eb E i) = B := ⟨_, rfl⟩
    have cA : Conn E s (ea E i) A := hA ▸ turn_conn n _
    have cB : Conn E s (eb E i) B := hB ▸ turn_conn n _
    have lA : A < n := by have := turn_lt hE hs ha; omega
    have lB : B < n := by have := turn_lt hE hs hb; omega
    have iA : turnTo E s n A = A := by rw [← hA]; exact turn_idem hE hs ha
    have iB : turnTo E s n B = B := by rw [← hB]; exact turn_idem hE hs hb
    have hne : A ≠ B := fun e => hd (cA.trans (e ▸ cB.symm))
    have cAB : Conn E (s ||| 2 ^ i) A B := (cA.mono (ad_sub s i)).symm.trans ((Conn.edge (ad_self s i)).trans (cB.mono (ad_sub s i)))
    obtain ⟨M, hM⟩ : ∃ M, M = max A B := ⟨_, rfl⟩
    have hMfix : turnTo E s n M = M := by
      rcases Nat.le_total A B with h | h
      · rw [hM, Nat.max_eq_right h]; exact iB
      · rw [hM, Nat.max_eq_left h]; exact iA
    refine (cnP_less (P := fun v => turnTo E s n v == v) (Q := fun v => turnTo E (s ||| 2 ^ i) n v == v) (x := M) (by simpa using hMfix) (n := n) (by rw [hM]; omega) fun v hv => ?_).symm
    show (turnTo E (s ||| 2 ^ i) n v == v) = ((turnTo E s n v == v) && v != M)
    rw [Bool.eq_iff_iff, Bool.and_eq_true, beq_iff_eq, beq_iff_eq, bne_iff_ne]
    constructor
    · intro h
      have h' := (turn_fix hE hs' hv).1 h
      refine ⟨(turn_fix hE hs hv).2 fun u hu hc => h' u hu (hc.mono (ad_sub s i)), fun e => ?_⟩
      rcases Nat.lt_or_gt_of_ne hne with hl | hl
      · have e1 : v = B := by omega
        have := h' A lA (e1 ▸ cAB)
        omega
      · have e1 : v = A := by omega
        have := h' B lB (e1 ▸ cAB.symm)
        omega
    · rintro ⟨h, hvM⟩
      refine (turn_fix hE hs' hv).2 fun u hu hc => ?_
      rcases hc.one with h1 | ⟨h1, h2⟩ | ⟨h1, h2⟩
      · exact (turn_fix hE hs hv).1 h u hu h1
      · have e1 : v = B := by rw [← h, ← hB]; exact (turn_eq hE hs hb hv h2).symm
        have e2 : A ≤ u := by rw [← hA]; exact turn_least hE hs hu h1
        omega
      · have e1 : v = A := by rw [← h, ← hA]; exact (turn_eq hE hs ha hv h2).symm
        have e2 : B ≤ u := by rw [← hB]; exact turn_least hE hs hu h1
        omega
theorem turn_none : ∀ t v, turnTo E 0 t v = v
  | 0, _ => rfl
  | t + 1, v => by
    have h1 : ∀ k, relaxTo E 0 (turnTo E 0 t) k v = v := fun k => by
      induction k with
      | zero => exact turn_none t v
      | succ k ih =>
        show (if (0 : Nat).testBit k = true then _ else relaxTo E 0 (turnTo E 0 t) k v) = v
        rw [if_neg (by simp), ih]
    exact h1 _
theorem isle_none : isleN n E 0 = n := by
  rw [isle_cn]
  have : ∀ n, cnP (fun v => turnTo E 0 n v == v) n = n ∧ ∀ k, cnP (fun v => turnTo E 0 n v == v) k = k := fun n => by
    have h : ∀ k, cnP (fun v => turnTo E 0 n v == v) k = k := fun k => by
      induction k with
      | zero => rfl
      | succ k ih => rw [cnP_succ, ih, if_pos (by simp [turn_none])]
    exact ⟨h n, h⟩
  exact (this n).1
theorem isle_rank (hE : ∀ j, j < E.length → ea E j < n ∧ eb E j < n) (hs : s < 2 ^ E.length) : n - isleN n E s = depR E.length (depG E) s := by
  have key : ∀ k, k ≤ E.length → isleN n E (lo s k) + depR E.length (depG E) (lo s k) = n := by
    intro k
    induction k with
    | zero =>
      intro _
      rw [lo_zero, isle_none]
      have h0 : depR E.length (depG E) 0 = 0 := by
        have : ∀ k, depTo (depG E) 0 k = 0 := fun k => by
          induction k with
          | zero => rfl
          | succ k ih => unfold depTo; simp [ih]
        exact this _
      rw [h0, Nat.add_zero]
    | succ k ih =>
      intro hk
      have ih := ih (by omega)
      by_cases hb : s.testBit k = true
      · rw [lo_hit hb, (depG_dep E E.length).step (lo_ltn hs k) (show k < E.length by omega)]
        have := isle_add hE (lo_ltn hs k) (show k < E.length by omega)
        by_cases hd : depG E (lo s k) k
        · rw [if_pos hd] at this ⊢; omega
        · rw [if_neg hd] at this ⊢; omega
      · rw [lo_miss (by simpa using hb)]
        exact ih
  have := key E.length (Nat.le_refl _)
  rw [lo_all hs] at this
  omega
theorem isle_basR (hE : ∀ j, j < E.length → ea E j < n ∧ eb E j < n) : (basR E.length fun s => n - isleN n E s) = basR E.length (depR E.length (depG E)) := by
  unfold basR
  refine List.filter_congr fun s hs => ?_
  dsimp only
  rw [isle_rank hE (List.mem_range.1 hs), isle_rank hE (Nat.sub_lt (Nat.two_pow_pos _) (by decide))]
end Go.Proofs.YtfajbmcdkhgipaaDoor

namespace Go.Proofs.YtfajbmcdkhgipaaDoor

/-- Numbers of sets that grow slower and slower. -/
structure SubOn (n : Nat) (f : Nat → Nat) : Prop where
  zero : f 0 = 0
  mono : ∀ s t, s < 2 ^ n → t < 2 ^ n → subB s t = true → f s ≤ f t
  sub : ∀ s t, s < 2 ^ n → t < 2 ^ n → f (s ||| t) + f (s &&& t) ≤ f s + f t
theorem RkOn.subOn {n : Nat} {r : Nat → Nat} (h : RkOn n r) : SubOn n r := ⟨h.zero, h.mono, h.sub⟩
theorem SubOn.plus {n : Nat} {f g : Nat → Nat} (hf : SubOn n f) (hg : SubOn n g) : SubOn n fun s => f s + g s := by
  refine ⟨?_, fun s t hs ht hst => ?_, fun s t hs ht => ?_⟩
  · show f 0 + g 0 = 0
    rw [hf.zero, hg.zero]
  · exact Nat.add_le_add (hf.mono s t hs ht hst) (hg.mono s t hs ht hst)
  · have h1 := hf.sub s t hs ht
    have h2 := hg.sub s t hs ht
    show f (s ||| t) + g (s ||| t) + (f (s &&& t) + g (s &&& t)) ≤ f s + g s + (f t + g t)
    omega
theorem SubOn.times {n : Nat} {f : Nat → Nat} (hf : SubOn n f) : ∀ k : Nat, SubOn n fun s => k * f s
  | 0 => ⟨Nat.zero_mul _, fun s t _ _ _ => by simp, fun s t _ _ => by simp⟩
  | k + 1 => by
    have h := (hf.times k).plus hf
    refine ⟨?_, fun s t hs ht hst => ?_, fun s t hs ht => ?_⟩
    · have := h.zero; rw [Nat.succ_mul]; exact this
    · have := h.mono s t hs ht hst; rw [Nat.succ_mul, Nat.succ_mul]; exact this
    · have := h.sub s t hs ht; rw [Nat.succ_mul, Nat.succ_mul, Nat.succ_mul, Nat.succ_mul]; exact this

/-- The least of what the sets within s say. -/
def lowF (f : Nat → Nat) (s T m : Nat) : Nat := (List.range T).foldl (fun m t => if subB t s = true then min m (f t + pop (dif s t)) else m) m
def lowR (f : Nat → Nat) (s : Nat) : Nat := lowF f s (s + 1) (pop s)
theorem lowF_succ (f : Nat → Nat) (s T m : Nat) : lowF f s (T + 1) m = if subB T s = true then min (lowF f s T m) (f T + pop (dif s T)) else lowF f s T m := by
  unfold lowF
  rw [List.range_succ, List.foldl_append]
  rfl
theorem lowF_le (f : Nat → Nat) (s m : Nat) : ∀ T, lowF f s T m ≤ m ∧ ∀ t, t < T → subB t s = true → lowF f s T m ≤ f t + pop (dif s t)
  | 0 => ⟨Nat.le_refl _, fun t ht => by omega⟩
  | T + 1 => by
    have ih := lowF_le f s m T
    rw [lowF_succ]
    refine ⟨?_, fun t ht hts => ?_⟩
    · split <;> omega
    · rcases Nat.lt_or_ge t T with g | g
      · have := ih.2 t g hts
        split <;> omega
      · obtain rfl : t = T := by omega
        rw [if_pos hts]
        omega
theorem lowF_at (f : Nat → Nat) (s m : Nat) : ∀ T, lowF f s T m = m ∨ ∃ t, t < T ∧ subB t s = true ∧ lowF f s T m = f t + pop (dif s t)
  | 0 => Or.inl rfl
  | T + 1 => by
    have ih := lowF_at f s m T
    rw [lowF_succ]
    split
    · rename_i hT
      rcases Nat.le_total (lowF f s T m) (f T + pop (dif s T)) with g | g
      · rw [Nat.min_eq_left g]
        rcases ih with e | ⟨t, h1, h2, h3⟩
        · exact Or.inl e
        · exact Or.inr ⟨t, by omega, h2, h3⟩
      · rw [Nat.min_eq_right g]
        exact Or.inr ⟨T, by omega, hT, rfl⟩
    · rcases ih with e | ⟨t, h1, h2, h3⟩
      · exact Or.inl e
      · exact Or.inr ⟨t, by omega, h2, h3⟩
theorem subB_le {t s : Nat} (h : subB t s = true) : t ≤ s := by
  rw [← sub_and h]
  exact Nat.and_le_right
theorem lowR_le {f : Nat → Nat} {s t : Nat} (h : subB t s = true) : lowR f s ≤ f t + pop (dif s t) := (lowF_le f s (pop s) (s + 1)).2 t (by have := subB_le h; omega) h
theorem dif_nil (s : Nat) : dif s 0 = s := Nat.eq_of_testBit_eq fun j => by rw [dif_bit]; simp
theorem zero_sub (s : Nat) : subB 0 s = true := subB_iff.2 fun i hi => by simp at hi
theorem lowR_at {f : Nat → Nat} (h0 : f 0 = 0) (s : Nat) : ∃ t, subB t s = true ∧ lowR f s = f t + pop (dif s t) := by
  rcases lowF_at f s (pop s) (s + 1) with e | ⟨t, _, h2, h3⟩
  · exact ⟨0, zero_sub s, by rw [h0, dif_nil, Nat.zero_add]; exact e⟩
  · exact ⟨t, h2, h3⟩
theorem lowR_pop (f : Nat → Nat) (s : Nat) : lowR f s ≤ pop s := (lowF_le f s (pop s) (s + 1)).1
theorem pop_split {s t : Nat} (h : subB t s = true) : pop (dif s t) + pop t = pop s := by
  have := pop_dif s t
  rwa [Nat.and_comm, sub_and h] at this
theorem and_subl (s t : Nat) : subB (s &&& t) s = true := subB_iff.2 fun i hi => by rw [and_bit] at hi; simp at hi; exact hi.1
theorem and_subr (s t : Nat) : subB (s &&& t) t = true := subB_iff.2 fun i hi => by rw [and_bit] at hi; simp at hi; exact hi.2
theorem or_sub {a b c d : Nat} (h : subB a c = true) (k : subB b d = true) : subB (a ||| b) (c ||| d) = true := subB_iff.2 fun i hi => by
  rw [Nat.testBit_or] at hi ⊢
  have h1 := subB_iff.1 h i
  have h2 := subB_iff.1 k i
  cases e1 : a.testBit i <;> cases e2 : b.testBit i <;> simp_all
theorem and_sub2 {a b c d : Nat} (h : subB a c = true) (k : subB b d = true) : subB (a &&& b) (c &&& d) = true := subB_iff.2 fun i hi => by
  rw [and_bit] at hi ⊢
  simp only [Bool.and_eq_true] at hi ⊢
  exact ⟨subB_iff.1 h i hi.1, subB_iff.1 k i hi.2⟩
theorem dif_mono {a b c d : Nat} (h : subB a c = true) (k : ∀ i, d.testBit i = true → a.testBit i = true → b.testBit i = true) : subB (dif a b) (dif c d) = true := subB_iff.2 fun i hi => by
  rw [dif_bit] at hi ⊢
  simp only [Bool.and_eq_true, Bool.not_eq_true'] at hi ⊢
  refine ⟨subB_iff.1 h i hi.1, ?_⟩
  cases e : d.testBit i
  · rfl
  · have := k i e hi.1
    rw [this] at hi
    cases hi.2
/-- EDMONDS: the least of what the sets within say is the ranks of a matroid. -/
theorem SubOn.low {n : Nat} {f : Nat → Nat} (h : SubOn n f) : RkOn n (lowR f) := by
  refine ⟨fun s _ => lowR_pop f s, fun s t hs ht hst => ?_, fun s t hs ht => ?_⟩
  · obtain ⟨x, h1, h2⟩ := lowR_at h.zero t
    have h3 := lowR_le (f := f) (and_subr x s)
    have hx := sub_lt h1 ht
    have h4 := h.mono (x &&& s) x (and_ltn hx) hx (and_subl x s)
    have h5 : pop (dif s (x &&& s)) ≤ pop (dif t x) := pop_sub (dif_mono hst fun i hx hs => by rw [and_bit, hx, hs]; rfl)
    omega
  · obtain ⟨x, h1, h2⟩ := lowR_at h.zero s
    obtain ⟨y, h3, h4⟩ := lowR_at h.zero t
    have hx := sub_lt h1 hs
    have hy := sub_lt h3 ht
    have h5 := lowR_le (f := f) (or_sub h1 h3)
    have h6 := lowR_le (f := f) (and_sub2 h1 h3)
    have h7 := h.sub x y hx hy
    have p1 := pop_split h1
    have p2 := pop_split h3
    have p3 := pop_split (or_sub h1 h3)
    have p4 := pop_split (and_sub2 h1 h3)
    have p5 := pop_or_and s t
    have p6 := pop_or_and x y
    omega
theorem low_ind {f : Nat → Nat} (h0 : f 0 = 0) {s : Nat} : lowR f s = pop s ↔ ∀ t, subB t s = true → pop t ≤ f t := by
  constructor
  · intro h t ht
    have h1 := lowR_le (f := f) ht
    have h2 := pop_split ht
    omega
  · intro h
    obtain ⟨t, h1, h2⟩ := lowR_at h0 s
    have h3 := h t h1
    have h4 := pop_split h1
    have h5 := lowR_pop f s
    omega

/-- Can s be shared out? -/
def shareB (r q : Nat → Nat) (s : Nat) : Bool := (List.range (s + 1)).any fun t => subB t s && r t == pop t && q (dif s t) == pop (dif s t)
theorem share_iff {r q : Nat → Nat} {s : Nat} : shareB r q s = true ↔ ∃ t, subB t s = true ∧ r t = pop t ∧ q (dif s t) = pop (dif s t) := by
  unfold shareB
  simp only [List.any_eq_true, List.mem_range, Bool.and_eq_true, beq_iff_eq]
  constructor
  · rintro ⟨t, _, ⟨h1, h2⟩, h3⟩
    exact ⟨t, h1, h2, h3⟩
  · rintro ⟨t, h1, h2, h3⟩
    exact ⟨t, by have := subB_le h1; omega, ⟨h1, h2⟩, h3⟩
theorem RkOn.indn {n : Nat} {r : Nat → Nat} (h : RkOn n r) {a b : Nat} (hb : b < 2 ^ n) (hi : r b = pop b) (hab : subB a b = true) : r a = pop a := by
  have ha := sub_lt hab hb
  have h1 := h.gap hb ha
  have h2 := h.le a ha
  have h3 := pop_split hab
  omega
theorem RkOn.within {n : Nat} {r : Nat → Nat} (h : RkOn n r) (s : Nat) : RkOn n fun x => r (x &&& s) := by
  refine ⟨fun x hx => Nat.le_trans (h.le _ (and_ltn hx)) (pop_sub (and_subl x s)), fun x y hx hy hxy => h.mono _ _ (and_ltn hx) (and_ltn hy) (and_sub2 hxy (sub_refl s)), fun x y hx hy => ?_⟩
  have h1 := h.sub (x &&& s) (y &&& s) (and_ltn hx) (and_ltn hy)
  have e1 : x &&& s ||| y &&& s = (x ||| y) &&& s := Nat.eq_of_testBit_eq fun j => by
    simp only [Nat.testBit_or, Nat.testBit_and]; cases x.testBit j <;> cases y.testBit j <;> simp
  have e2 : (x &&& s) &&& (y &&& s) = (x &&& y) &&& s := Nat.eq_of_testBit_eq fun j => by
    simp only [Nat.testBit_and]; cases x.testBit j <;> cases y.testBit j <;> simp
  rw [e1, e2] at h1
  exact h1
/-- EDMONDS: s can be shared out just if no set within has more elements than the ranks together. -/
theorem share_low {n : Nat} {r q : Nat → Nat} (hn : n ≤ 8) (hr : RkOn n r) (hq : RkOn n q) {s : Nat} (hs : s < 2 ^ n) : shareB r q s = true ↔ lowR (fun t => r t + q t) s = pop s := by
  have h0 : (fun t => r t + q t) 0 = 0 := by show r 0 + q 0 = 0; rw [hr.zero, hq.zero]
  rw [low_ind h0, share_iff]
  constructor
  · rintro ⟨t, h1, h2, h3⟩ x hx
    have ht := sub_lt h1 hs
    have hxn := sub_lt hx hs
    have a1 : r (x &&& t) = pop (x &&& t) := hr.indn ht h2 (and_subr x t)
    have a2 : q (dif x t) = pop (dif x t) := hq.indn (difn_lt hs) h3 (dif_mono hx fun i h _ => h)
    have b1 := hr.mono _ x (and_ltn hxn) hxn (and_subl x t)
    have b2 := hq.mono _ x (difn_lt hxn) hxn (dif_subl x t)
    have p := pop_dif x t
    show pop x ≤ r x + q x
    omega
  · intro h
    have hq' : RkOn n (dualR n fun y => q (y &&& s)) := dual_rkOn (hq.within s)
    have es : (2 ^ n - 1) &&& s = s := by rw [Nat.and_comm]; exact mask_in hs
    have hqs := hq.le s hs
    obtain ⟨i, i1, i2, i3, i4⟩ := isect n hn _ _ (hr.within s) hq' (pop s - q s) fun x hx => by
      have h1 := h (x &&& s) (and_subr x s)
      have h2 := dual_add (hq.within s) (cpl_lt (n := n) (s := x))
      have e : 2 ^ n - 1 - (2 ^ n - 1 - x) = x := by omega
      have p := pop_split (and_subr x s)
      have p2 : pop (dif s (x &&& s)) ≤ pop (2 ^ n - 1 - x) := pop_sub (subB_iff.2 fun i hi => by
        rw [dif_bit, and_bit] at hi
        rw [cpl_bit hx]
        have := bit_n hs (i := i)
        cases e1 : s.testBit i <;> cases e2 : x.testBit i <;> simp_all)
      rw [e] at h2
      simp only [es] at h2
      have h1 : pop (x &&& s) ≤ r (x &&& s) + q (x &&& s) := h1
      show pop s - q s ≤ r (x &&& s) + dualR n (fun y => q (y &&& s)) (2 ^ n - 1 - x)
      omega
    have i3 : r (i &&& s) = pop s - q s := i3
    have hle := hr.le (i &&& s) (and_ltn i1)
    have e : i &&& s = i := eq_of_pop (lt256 hn i1) (and_subl i s) (by omega)
    have his : subB i s = true := by unfold subB; rw [beq_iff_eq]; exact e
    have h2 := dual_add (hq.within s) i1
    simp only [es] at h2
    have e2 : (2 ^ n - 1 - i) &&& s = dif s i := Nat.eq_of_testBit_eq fun j => by
      rw [and_bit, cpl_bit i1, dif_bit]
      have := bit_n hs (i := j)
      cases e1 : s.testBit j <;> simp_all
    rw [e2] at h2
    have p := pop_split his
    refine ⟨i, his, ?_, ?_⟩
    · rw [e] at i3
      omega
    · omega
/-- The union's ranks. -/
def uniR (l k : List Nat) : Nat → Nat := lowR fun t => rk l t + rk k t
def uniN (n : Nat) (l k : List Nat) : List Nat := basR n (uniR l k)
theorem uni_rkOn {l k : List Nat} (n : Nat) (hl : Bas l) (hk : Bas k) : RkOn n (uniR l k) := ((hl.rkOn n).subOn.plus (hk.rkOn n).subOn).low
theorem uni_ind {n : Nat} {l k : List Nat} (hn : n ≤ 8) (hl : Bas l) (hk : Bas k) {s : Nat} (hs : s < 2 ^ n) : shareB (rk l) (rk k) s = (uniR l k s == pop s) := by
  rw [Bool.eq_iff_iff, beq_iff_eq]
  exact share_low hn (hl.rkOn n) (hk.rkOn n) hs
theorem uniR_comm (l k : List Nat) : uniR l k = uniR k l := by
  unfold uniR
  congr 1
  funext t
  exact Nat.add_comm _ _
theorem uniN_comm (n : Nat) (l k : List Nat) : uniN n l k = uniN n k l := by unfold uniN; rw [uniR_comm]
end Go.Proofs.YtfajbmcdkhgipaaDoor

namespace Go.Proofs.YtfajbmcdkhgipaaDoor

theorem pop_fullE : ∀ n : Nat, n ≤ 8 → pop (2 ^ n - 1) = n := by decide +kernel
theorem pop_disE {a b : Nat} (h : a &&& b = 0) : pop (a ||| b) = pop a + pop b := by
  have := pop_or_and a b
  rw [h] at this
  have h0 : pop 0 = 0 := rfl
  omega
theorem min_some {m k : Nat} {A B : List Nat} : (minO m A k B).isSome = true ↔ ∃ d, d < 2 ^ m ∧ (conO m A k B d).isSome = true := by
  unfold minO
  rw [List.findSome?_isSome_iff]
  constructor
  · rintro ⟨d, hd, h⟩
    refine ⟨d, List.mem_range.1 hd, ?_⟩
    simpa using h
  · rintro ⟨d, hd, h⟩
    refine ⟨d, List.mem_range.2 hd, ?_⟩
    simpa using h
theorem con_some {m k d : Nat} {A B : List Nat} : (conO m A k B d).isSome = true ↔ k ≤ pop (dif (2 ^ m - 1) d) ∧ ∃ c, c < 2 ^ pop (dif (2 ^ m - 1) d) ∧ pop c = pop (dif (2 ^ m - 1) d) - k ∧ ∃ q, q ∈ isoK (pop (dif (2 ^ pop (dif (2 ^ m - 1) d) - 1) c)) (minL (pop (dif (2 ^ m - 1) d)) (minL m A d 0) c c) k B := by
  unfold conO
  by_cases h : pop (dif (2 ^ m - 1) d) < k
  · rw [if_pos h]
    constructor
    · intro h; cases h
    · rintro ⟨h1, _⟩; omega
  · rw [if_neg h, Option.isSome_map, List.find?_isSome]
    constructor
    · rintro ⟨c, hc, hp⟩
      obtain ⟨h1, h2⟩ := List.mem_filter.1 hc
      refine ⟨by omega, c, List.mem_range.1 h1, by simpa using h2, ?_⟩
      unfold conP at hp
      cases e : isoK (pop (dif (2 ^ pop (dif (2 ^ m - 1) d) - 1) c)) (minL (pop (dif (2 ^ m - 1) d)) (minL m A d 0) c c) k B with
      | nil => rw [e] at hp; cases hp
      | cons q qs => exact ⟨q, List.mem_cons_self⟩
    · rintro ⟨_, c, h1, h2, q, hq⟩
      refine ⟨c, List.mem_filter.2 ⟨List.mem_range.2 h1, by simpa using h2⟩, ?_⟩
      unfold conP
      cases e : isoK (pop (dif (2 ^ pop (dif (2 ^ m - 1) d) - 1) c)) (minL (pop (dif (2 ^ m - 1) d)) (minL m A d 0) c c) k B with
      | nil => rw [e] at hq; cases hq
      | cons q qs => rfl
theorem isoK_mem {m k : Nat} {A B q : List Nat} : q ∈ isoK m A k B ↔ m = k ∧ q ∈ isoL m A B := by
  unfold isoK
  by_cases h : m = k
  · rw [if_pos h]; exact ⟨fun h1 => ⟨h, h1⟩, fun h1 => h1.2⟩
  · rw [if_neg h]; exact ⟨fun h1 => absurd h1 List.not_mem_nil, fun h1 => absurd h1.1 h⟩
theorem els_beg {m E : Nat} (hm : m ≤ 8) (hE : E < 2 ^ m) : Beg m (els E) := ⟨fun _ hx => bit_lt hE ((mem_els (lt256 hm hE)).1 hx), (els_up E).imp (fun h => Nat.ne_of_lt h)⟩
theorem emb_of_min {m k : Nat} {A B : List Nat} (hm : m ≤ 8) (hb : Bas A) (hf' : Fam k B) (hb' : Bas B) (h : (minO m A k B).isSome = true) : Emb m A k B := by
  obtain ⟨d, hd, h1⟩ := min_some.1 h
  obtain ⟨hk, c, hc, hp, q, hq⟩ := con_some.1 h1
  obtain ⟨hJ, hq2⟩ := isoK_mem.1 hq
  have hkl := kept_lt hm d
  have hK8 := kept_le hm d
  have hJl := kept_ltn (pop (dif (2 ^ m - 1) d)) c
  have hfM := min_fam (pop (dif (2 ^ m - 1) d)) (minL m A d 0) c c
  have hbM := min_bas hK8 (min_bas hm hb d 0) c c
  have hRK := fun s => con_rk (s := s) hm hb hc
  have hE0 := old_dif hkl hc
  have hEp := els_pop hkl hJl
  have hEl := old_ltn hm d (dif (2 ^ pop (dif (2 ^ m - 1) d) - 1) c)
  have hCl := old_ltn hm d c
  have hJ8 := kept_le hK8 c
  rw [hJ] at hq2 hfM hRK hEp hJ8
  obtain ⟨⟨hqb, hql⟩, hren⟩ := isoL_mem.1 hq2
  have hiso := (hqb.iso hJ8 hql hfM hbM hf' hb').1 hren
  generalize minL (pop (dif (2 ^ m - 1) d)) (minL m A d 0) c c = M at *
  generalize old (els (dif (2 ^ m - 1) d)) (dif (2 ^ pop (dif (2 ^ m - 1) d) - 1) c) = E at *
  generalize old (els (dif (2 ^ m - 1) d)) c = C at *
  have hel : (els E).length = k := by rw [els_len, hEp]
  have hEb := els_beg hm hEl
  obtain ⟨hib, hic⟩ := hqb.inv hql (xs := List.range k) (fun x hx => by
    obtain ⟨i, hi, e⟩ := hqb.all hql (List.mem_range.1 hx)
    rw [← e]
    have : i < q.length := by omega
    simp [List.getD, this]) List.nodup_range
  have hil : ((List.range k).map q.idxOf).length = k := by simp
  generalize (List.range k).map q.idxOf = qi at *
  refine ⟨comp (els E) qi, C, hEb.comp hel hib, by rw [comp_len, hil], hCl, fun x hx => ?_, fun s hs => ?_⟩
  · obtain ⟨i, hi, rfl⟩ := List.mem_map.1 hx
    have hi2 : i < (els E).length := by rw [hel]; exact hib.lt i hi
    have hmem : (els E).getD i 0 ∈ els E := by simp [List.getD, hi2]
    have h9 := (mem_els (lt256 hm hEl)).1 hmem
    generalize (els E).getD i 0 = x at *
    rw [hE0, dif_bit, Bool.and_eq_true] at h9
    simpa using h9.2
  · have e1 := hRK (image qi s) (hib.image_lt s)
    rw [hiso _ (hib.image_lt s), image_comp (fun x hx => by rw [hql]; exact hib.lt x hx), hic, image_range hs, image_comp (fun x hx => by rw [hel]; exact hib.lt x hx)] at e1
    exact e1
theorem min_of_emb {m k : Nat} {A B : List Nat} (hm : m ≤ 8) (hb : Bas A) (hk8 : k ≤ 8) (hf' : Fam k B) (hb' : Bas B) (h : Emb m A k B) : (minO m A k B).isSome = true := by
  obtain ⟨p, C, hp, hl, hC, hd, hr⟩ := h
  have hE : ∀ x, (image p (2 ^ k - 1)).testBit x = true ↔ x ∈ p := fun x => by
    rw [image_has]
    constructor
    · rintro ⟨i, h1, _, h3⟩
      rw [← h3]
      simp [List.getD, h1]
    · intro hx
      obtain ⟨i, hi, e⟩ := List.getElem_of_mem hx
      exact ⟨i, hi, by rw [full_bit]; simpa using (by omega : i < k), by simp [List.getD, hi, e]⟩
  have hEl := hp.image_lt (2 ^ k - 1)
  have hEp : pop (image p (2 ^ k - 1)) = k := by
    rw [hp.image_pop hm 8 (pop_le _ (lt256 hk8 (full_lt k))) (by rw [hl]; exact full_lt k) (by omega)]
    exact pop_fullE k hk8
  have hdis : image p (2 ^ k - 1) &&& C = 0 := Nat.eq_of_testBit_eq fun x => by
    rw [Nat.testBit_and, Nat.zero_testBit, Bool.and_eq_false_iff]
    cases e : (image p (2 ^ k - 1)).testBit x
    · exact .inl rfl
    · exact .inr (hd x ((hE x).1 e))
  generalize image p (2 ^ k - 1) = E at *
  have hKP : dif (2 ^ m - 1) (dif (2 ^ m - 1) (E ||| C)) = E ||| C := Nat.eq_of_testBit_eq fun i => by
    have hlt := Nat.or_lt_two_pow hEl hC
    rw [dif_bit, dif_bit, full_bit]
    by_cases hi : i < m
    · simp [hi]
    · rw [Nat.testBit_lt_two_pow (Nat.lt_of_lt_of_le hlt (Nat.pow_le_pow_right (by decide) (by omega)))]
      simp [hi]
  have hpop := pop_disE hdis
  refine min_some.2 ⟨dif (2 ^ m - 1) (E ||| C), kept_ltn m _, con_some.2 ?_⟩
  have hRK := fun c s => con_rk (m := m) (d := dif (2 ^ m - 1) (E ||| C)) (c := c) (s := s) hm hb
  have hkl := kept_lt hm (dif (2 ^ m - 1) (E ||| C))
  have hK8 := kept_le hm (dif (2 ^ m - 1) (E ||| C))
  have hfM := fun c => min_fam (pop (dif (2 ^ m - 1) (dif (2 ^ m - 1) (E ||| C)))) (minL m A (dif (2 ^ m - 1) (E ||| C)) 0) c c
  have hbM := fun c => min_bas hK8 (min_bas hm hb (dif (2 ^ m - 1) (E ||| C)) 0) c c
  rw [hKP] at hRK hkl hK8 hfM hbM ⊢
  rw [hpop] at hRK hK8 hfM hbM ⊢
  refine ⟨by omega, shf (els (E ||| C)) C, ?_⟩
  have hc := shf_lt (k := E ||| C) C
  have hoc : old (els (E ||| C)) (shf (els (E ||| C)) C) = C := by
    rw [old_shf hkl]
    refine Nat.eq_of_testBit_eq fun i => ?_
    rw [Nat.testBit_and, Nat.testBit_or]
    cases E.testBit i <;> cases C.testBit i <;> rfl
  have hcp := els_pop hkl hc
  rw [hoc] at hcp
  have hoJ := old_dif hkl hc
  rw [hoc] at hoJ
  have hJl := kept_ltn (pop (E ||| C)) (shf (els (E ||| C)) C)
  have hJp := els_pop hkl hJl
  have hdE : dif (E ||| C) C = E := Nat.eq_of_testBit_eq fun i => by
    have := congrArg (fun z => z.testBit i) hdis
    simp only [Nat.testBit_and, Nat.zero_testBit] at this
    rw [dif_bit, Nat.testBit_or]
    cases h1 : E.testBit i <;> cases h2 : C.testBit i <;> simp_all
  rw [hdE] at hoJ
  rw [hoJ, hEp] at hJp
  rw [hpop] at hc hoJ hJp
  generalize shf (els (E ||| C)) C = c at *
  have hR := fun s => hRK c s hc
  rw [hoc, hoJ] at hR
  have hfM := hfM c
  have hbM := hbM c
  rw [← hJp] at hR hfM ⊢
  refine ⟨hc, by omega, ?_⟩
  generalize minL (pop E + pop C) (minL m A (dif (2 ^ m - 1) (E ||| C)) 0) c c = M at *
  obtain ⟨hib, hic⟩ := hp.inv hl (xs := els E) (fun x hx => (hE x).1 ((mem_els (lt256 hm hEl)).1 hx)) ((els_up E).imp (fun h => Nat.ne_of_lt h))
  have hil : ((els E).map p.idxOf).length = k := by rw [List.length_map, els_len, hEp]
  generalize (els E).map p.idxOf = q at *
  refine ⟨q, isoK_mem.2 ⟨rfl, isoL_mem.2 ⟨⟨hib, hil⟩, (hib.iso hk8 hil hfM hbM hf' hb').2 fun s hs => ?_⟩⟩⟩
  have e1 := hR s hs
  have e2 := hr (image q s) (hib.image_lt s)
  rw [image_comp (fun x hx => by rw [hl]; exact hib.lt x hx), hic] at e2
  omega
/-- A minor of a minor is a minor. -/
theorem min_chain {m k j : Nat} {A B D : List Nat} (hm : m ≤ 8) (hbA : Bas A) (hk : k ≤ 8) (hfB : Fam k B) (hbB : Bas B) (hj : j ≤ 8) (hfD : Fam j D) (hbD : Bas D) (h1 : (minO m A k B).isSome = true) (h2 : (minO k B j D).isSome = true) : (minO m A j D).isSome = true :=
  min_of_emb hm hbA hj hfD hbD ((emb_of_min hm hbA hfB hbB h1).trans (emb_of_min hk hbB hfD hbD h2))
end Go.Proofs.YtfajbmcdkhgipaaDoor

namespace Go.Proofs.YtfajbmcdkhgipaaDoor
open Classical

variable {E : List (Nat × Nat)} {o m n : Nat}
theorem pop_noneR : ∀ s : Nat, s < 256 → pop s = 0 → s = 0 := by decide +kernel
/-- An edge comes to v out of L. -/
def cmB (E : List (Nat × Nat)) (o m L v : Nat) : Bool := (List.range m).any fun i => sto E o i == v && L.testBit (sta E o i)
theorem cmB_iff {L v : Nat} : cmB E o m L v = true ↔ ∃ i, i < m ∧ sto E o i = v ∧ L.testBit (sta E o i) = true := by
  unfold cmB
  rw [List.any_eq_true]
  constructor
  · rintro ⟨i, hi, h⟩
    rw [Bool.and_eq_true, beq_iff_eq] at h
    exact ⟨i, List.mem_range.1 hi, h.1, h.2⟩
  · rintro ⟨i, hi, h1, h2⟩
    exact ⟨i, List.mem_range.2 hi, by rw [Bool.and_eq_true, beq_iff_eq]; exact ⟨h1, h2⟩⟩
/-- One vertex is looked at. -/
def rgS (E : List (Nat × Nat)) (o m L v : Nat) : Nat := if cmB E o m L v = true then L else dif L (2 ^ v)
/-- The first k are. -/
def rgP (E : List (Nat × Nat)) (o m L : Nat) : Nat → Nat
  | 0 => L
  | k + 1 => rgS E o m (rgP E o m L k) k
/-- So often. -/
def rgT (E : List (Nat × Nat)) (o m n : Nat) : Nat → Nat
  | 0 => 2 ^ n - 1
  | t + 1 => rgP E o m (rgT E o m n t) n
theorem rgS_sub (L v : Nat) : subB (rgS E o m L v) L = true := by
  unfold rgS
  split
  · exact sub_refl _
  · exact subB_iff.2 fun i hi => by rw [dif_bit] at hi; simp at hi; exact hi.1
theorem rgP_sub (L : Nat) : ∀ {j k : Nat}, j ≤ k → subB (rgP E o m L k) (rgP E o m L j) = true
  | j, 0, h => by
    obtain rfl : j = 0 := by omega
    exact sub_refl _
  | j, k + 1, h => by
    by_cases e : j = k + 1
    · subst e; exact sub_refl _
    · exact subB_iff.2 fun i hi => subB_iff.1 (rgP_sub L (show j ≤ k by omega)) i (subB_iff.1 (rgS_sub _ _) i hi)
/-- v lies on a ring. -/
def onR (E : List (Nat × Nat)) (o m v : Nat) : Prop := ∃ i, i < m ∧ sto E o i = v ∧ Way E 0 o m v (sta E o i)
theorem onR_back {v i : Nat} (hi : i < m) (hv : sto E o i = v) (hw : Way E 0 o m v (sta E o i)) : onR E o m (sta E o i) := by
  have key : ∀ u, Way E 0 o m v u → u = sta E o i → onR E o m u := fun u h => by
    induction h with
    | refl => intro e; exact ⟨i, hi, by rw [hv], by rw [← e]; exact .refl _⟩
    | step k hk h1 _ => intro e; exact ⟨k, hk, rfl, (by
        have h2 : Way E 0 o m (sto E o k) v := by rw [e, ← hv]; exact .one hi
        exact h2.trans h1)⟩
    | side y _ hc ih => intro e; rw [← conn_zero hc] at e ⊢; exact ih e
  exact key _ hw rfl
/-- What lies on a ring stays. -/
theorem rgS_ring {L v : Nat} (h : ∀ u, u < n → onR E o m u → L.testBit u = true) (hE : ∀ i, i < m → sta E o i < n) : ∀ u, u < n → onR E o m u → (rgS E o m L v).testBit u = true := fun u hu hr => by
  unfold rgS
  split
  · exact h u hu hr
  · rename_i hc
    rw [dif_bit, h u hu hr, Nat.testBit_two_pow]
    have : ¬ v = u := fun e => by
      subst e
      obtain ⟨i, hi, h1, h2⟩ := hr
      exact hc (cmB_iff.2 ⟨i, hi, h1, h _ (hE i hi) (onR_back hi h1 h2)⟩)
    simp [this]
theorem rgT_ring (hE : ∀ i, i < m → sta E o i < n) : ∀ t u, u < n → onR E o m u → (rgT E o m n t).testBit u = true
  | 0, u, hu, _ => by rw [rgT, full_bit]; simpa using hu
  | t + 1, u, hu, hr => by
    have key : ∀ k u, u < n → onR E o m u → (rgP E o m (rgT E o m n t) k).testBit u = true := fun k => by
      induction k with
      | zero => exact rgT_ring hE t
      | succ k ih => exact rgS_ring ih hE
    exact key n u hu hr
/-- Where there is no ring something goes. -/
theorem source {L : Nat} (hE : ∀ i, i < m → sta E o i < n ∧ sto E o i < n) (hN : NoRing E 0 o m) : ∀ (d v : Nat), v < n → L.testBit v = true → cnP (fun u => decide (Way E 0 o m u v)) n ≤ d → ∃ u, u < n ∧ L.testBit u = true ∧ cmB E o m L u = false
  | 0, v, hv, hL, hd => by
    have := cnP_more (P := fun _ => false) (Q := fun u => decide (Way E 0 o m u v)) (x := v) (by simp; exact .refl v) (by simp) hv fun _ _ h => by cases h
    omega
  | d + 1, v, hv, hL, hd => by
    cases hc : cmB E o m L v
    · exact ⟨v, hv, hL, hc⟩
    · obtain ⟨i, hi, h1, h2⟩ := cmB_iff.1 hc
      have hw : Way E 0 o m (sta E o i) v := by rw [← h1]; exact .one hi
      have h3 := cnP_more (P := fun u => decide (Way E 0 o m u (sta E o i))) (Q := fun u => decide (Way E 0 o m u v)) (x := v) (by simp; exact .refl v) (by
        simp
        intro c
        exact hN i hi (by rw [h1]; exact c)) hv fun u _ h => by
          simp at h ⊢
          exact h.trans hw
      exact source hE hN d (sta E o i) (hE i hi).1 h2 (by omega)
theorem rgP_less {L : Nat} (hn : n ≤ 8) (hL : L < 2 ^ n) (hE : ∀ i, i < m → sta E o i < n ∧ sto E o i < n) (hN : NoRing E 0 o m) (h0 : L ≠ 0) : pop (rgP E o m L n) + 1 ≤ pop L := by
  obtain ⟨v, hv⟩ : ∃ v, L.testBit v = true := by
    apply Classical.byContradiction
    intro h
    refine h0 (Nat.eq_of_testBit_eq fun j => ?_)
    rw [Nat.zero_testBit]
    cases e : L.testBit j
    · rfl
    · exact absurd ⟨j, e⟩ h
  obtain ⟨u, hu, huL, hc⟩ := source hE hN _ v (bit_n hL hv) hv (Nat.le_refl _)
  have hgone : (rgP E o m L (u + 1)).testBit u = false := by
    show (rgS E o m (rgP E o m L u) u).testBit u = false
    unfold rgS
    have : ¬ cmB E o m (rgP E o m L u) u = true := fun h => by
      obtain ⟨i, hi, h1, h2⟩ := cmB_iff.1 h
      have := cmB_iff.2 ⟨i, hi, h1, subB_iff.1 (rgP_sub L (Nat.zero_le u)) _ h2⟩
      change cmB E o m L u = true at this
      rw [hc] at this
      cases this
    rw [if_neg this, dif_bit, Nat.testBit_two_pow]
    simp
  have hs : subB (rgP E o m L n) (dif L (2 ^ u)) = true := subB_iff.2 fun i hi => by
    rw [dif_bit, Nat.testBit_two_pow, show L.testBit i = true from subB_iff.1 (rgP_sub (E := E) (o := o) (m := m) L (Nat.zero_le n)) i hi]
    have : ¬ u = i := fun e => by
      subst e
      have := subB_iff.1 (rgP_sub L (show u + 1 ≤ n by omega)) u hi
      rw [hgone] at this
      cases this
    simp [this]
  have h1 := pop_sub hs
  have h2 : pop (dif L (2 ^ u)) + 1 = pop L := by
    have h3 := pop_split (s := L) (t := 2 ^ u) (subB_iff.2 fun i hi => by
      rw [Nat.testBit_two_pow] at hi
      simp at hi
      subst hi
      exact huL)
    have h4 : pop (2 ^ u) = 1 := by
      have key : ∀ u, u < 8 → pop (2 ^ u) = 1 := by decide
      exact key u (by omega)
    omega
  omega
/-- It is all gone just if there is no ring. -/
theorem ring_all (hn : n ≤ 8) (hE : ∀ i, i < m → sta E o i < n ∧ sto E o i < n) : rgT E o m n n = 0 ↔ NoRing E 0 o m := by
  constructor
  · intro h i hi c
    have h1 := rgT_ring (fun i hi => (hE i hi).1) n (sto E o i) (hE i hi).2 ⟨i, hi, rfl, c⟩
    rw [h, Nat.zero_testBit] at h1
    cases h1
  · intro hN
    have key : ∀ t, rgT E o m n t < 2 ^ n ∧ pop (rgT E o m n t) + t ≤ n ∨ rgT E o m n t = 0 := fun t => by
      induction t with
      | zero => exact .inl ⟨Nat.sub_lt (Nat.two_pow_pos n) (by decide), by rw [rgT, pop_fullE n hn]; omega⟩
      | succ t ih =>
        have hsub := rgP_sub (E := E) (o := o) (m := m) (rgT E o m n t) (Nat.zero_le n)
        rcases ih with ⟨h1, h2⟩ | h0
        · by_cases h0 : rgT E o m n t = 0
          · refine .inr (Nat.eq_of_testBit_eq fun j => ?_)
            rw [Nat.zero_testBit]
            cases e : (rgT E o m n (t + 1)).testBit j
            · rfl
            · have := subB_iff.1 hsub j e
              change (rgT E o m n t).testBit j = true at this
              rw [h0, Nat.zero_testBit] at this
              cases this
          · have h3 := rgP_less hn h1 hE hN h0
            exact .inl ⟨sub_lt hsub h1, by show pop (rgP E o m (rgT E o m n t) n) + (t + 1) ≤ n; omega⟩
        · refine .inr (Nat.eq_of_testBit_eq fun j => ?_)
          rw [Nat.zero_testBit]
          cases e : (rgT E o m n (t + 1)).testBit j
          · rfl
          · have := subB_iff.1 hsub j e
            change (rgT E o m n t).testBit j = true at this
            rw [h0, Nat.zero_testBit] at this
            cases this
    rcases key n with ⟨h1, h2⟩ | h
    · have h3 : pop (rgT E o m n n) = 0 := by omega
      exact pop_noneR _ (Nat.lt_of_lt_of_le h1 (Nat.pow_le_pow_right (by omega) hn)) h3
    · exact h
end Go.Proofs.YtfajbmcdkhgipaaDoor

namespace Go.Proofs.YtfajbmcdkhgipaaDoor

theorem next_below : ∀ (n c s t : Nat), c < 2 ^ n → subB c s = true → subB t s = true → t < c → t ≤ (c - 1) &&& s
  | 0, c, s, t, h, _, _, hlt => by simp at h; omega
  | n + 1, c, s, t, h, hc, ht, hlt => by
    have e1 : ((c - 1) &&& s) / 2 = (c - 1) / 2 &&& s / 2 := Nat.and_div_two
    have d0 : (c / 2) &&& (s / 2) = c / 2 := by
      have := congrArg (· / 2) (sub_and hc)
      simpa [Nat.and_div_two] using this
    rcases Nat.mod_two_eq_zero_or_one c with h2 | h2
    · have hd : c / 2 < 2 ^ n := by have := Nat.pow_succ 2 n; omega
      have d1 : (t / 2) &&& (s / 2) = t / 2 := by
        have := congrArg (· / 2) (sub_and ht)
        simpa [Nat.and_div_two] using this
      have ih := next_below n (c / 2) (s / 2) (t / 2) hd (by unfold subB; rw [d0]; simp) (by unfold subB; rw [d1]; simp) (by omega)
      have e2 : (c - 1) / 2 = c / 2 - 1 := by omega
      rw [e2] at e1
      have b0 : ((c - 1) &&& s).testBit 0 = s.testBit 0 := by
        rw [Nat.testBit_and, Nat.testBit_zero]
        have : (c - 1) % 2 = 1 := by omega
        simp [this]
      have b1 := subB_iff.1 ht 0
      rw [← b0] at b1
      rw [Nat.testBit_zero, Nat.testBit_zero, decide_eq_true_eq, decide_eq_true_eq] at b1
      omega
    · have e2 : (c - 1) / 2 = c / 2 := by omega
      rw [e2, d0] at e1
      omega
theorem next_sub (c s : Nat) : subB ((c - 1) &&& s) s = true := subB_iff.2 fun i hi => by rw [and_bit] at hi; simp at hi; exact hi.2
theorem next_lt {c : Nat} (s : Nat) (h : c ≠ 0) : (c - 1) &&& s < c := Nat.lt_of_le_of_lt Nat.and_le_left (by omega)

/-- How many of the sets have an element of t. -/
def meets (l : List Nat) (t : Nat) : Nat := (l.filter fun o => meetB o t).length
/-- HALL'S condition, for what is within s and no further than c. -/
def hallTo (l : List Nat) (s c : Nat) : Bool := (List.range (c + 1)).all fun t => !subB t s || decide (pop t ≤ meets l t)
theorem hall_step {l : List Nat} {s c : Nat} (hc : subB c s = true) (h0 : c ≠ 0) (h8 : c < 256) : hallTo l s c = (decide (pop c ≤ meets l c) && hallTo l s ((c - 1) &&& s)) := by
  unfold hallTo
  rw [Bool.eq_iff_iff, Bool.and_eq_true, List.all_eq_true, List.all_eq_true]
  have hlt := next_lt s h0
  constructor
  · intro h
    refine ⟨?_, fun t ht => h t (by rw [List.mem_range] at ht ⊢; omega)⟩
    have := h c (by simp)
    simpa [hc] using this
  · rintro ⟨h1, h2⟩ t ht
    rw [List.mem_range] at ht
    by_cases e : t = c
    · subst e; simp only [hc, Bool.not_true, Bool.false_or]; exact h1
    · by_cases hs : subB t s = true
      · exact h2 t (by have := next_below 8 c s t h8 hc hs (by omega); rw [List.mem_range]; omega)
      · simp [Bool.eq_false_iff.2 hs]
theorem hall_zero (l : List Nat) (s : Nat) : hallTo l s 0 = true := by
  unfold hallTo
  have : pop 0 = 0 := by decide
  simp [this]
theorem hall_succ (l : List Nat) (s k : Nat) : hallTo l s (k + 1) = (hallTo l s k && (!subB (k + 1) s || decide (pop (k + 1) ≤ meets l (k + 1)))) := by
  unfold hallTo
  rw [List.range_succ (n := k + 1), List.all_append]
  simp
theorem meets_take {l : List Nat} {k t : Nat} (hk : k < l.length) : meets (l.take (k + 1)) t = meets (l.take k) t + if meetB (l.getD k 0) t then 1 else 0 := by
  unfold meets
  rw [List.take_succ_eq_append_getElem hk, List.filter_append, List.length_append]
  simp only [List.getD, List.getElem?_eq_getElem hk, Option.getD_some]
  by_cases h : meetB l[k] t = true <;> simp [h]
theorem meets_le (l : List Nat) (t : Nat) : meets l t ≤ l.length := List.length_filter_le _ _

/-- Two sets have elements together, and neither is within the other. -/
def crossB (s o : Nat) : Bool := (s &&& o != 0) && !subB s o && !subB o s
/-- What is wrong with the i-th set of a family and its number: 0: nothing. -/
def lamAt (l : List Nat) (ms : List Int) (i : Nat) : Int := if ms.getD i 0 < 0 then 1 else if (l.take i).any (crossB (l.getD i 0)) = true then 3 else 0
/-- What is wrong first, of the last k ones. -/
def lamR (l : List Nat) (ms : List Int) : Nat → Int
  | 0 => 0
  | k + 1 => if lamAt l ms (l.length - (k + 1)) = 0 then lamR l ms k else lamAt l ms (l.length - (k + 1))
def keepH (l : List Nat) (ms : List Int) (s : Nat) : Bool := (List.range l.length).all fun i => decide ((pop (s &&& l.getD i 0) : Int) ≤ ms.getD i 0)
end Go.Proofs.YtfajbmcdkhgipaaDoor

namespace Go.Proofs.YtfajbmcdkhgipaaDoor

theorem tal_range (F : Nat → Int) (k : Nat) : tal F (List.range (k + 1)) = tal F (List.range k) + F k := by
  rw [List.range_succ, tal_append]
  simp [tal]
theorem tal_bound {F : Nat → Int} {c : Nat} : ∀ {l : List Nat}, (∀ x ∈ l, -(c : Int) ≤ F x ∧ F x ≤ c) → -((c * l.length : Nat) : Int) ≤ tal F l ∧ tal F l ≤ ((c * l.length : Nat) : Int)
  | [], _ => by simp [tal]
  | x :: l, h => by
    have h1 := h x (List.mem_cons_self ..)
    have h2 := tal_bound (l := l) fun y hy => h y (List.mem_cons_of_mem _ hy)
    have e : c * (x :: l).length = c * l.length + c := by rw [List.length_cons, Nat.mul_add]; omega
    rw [e]
    simp only [tal]
    omega
theorem sgn_bound (s : Nat) : -1 ≤ sgn s ∧ sgn s ≤ 1 := by unfold sgn; split <;> omega
/-- a coefficient, by the first k sets -/
def chrS (r : Nat → Nat) (R k j : Nat) : Int := tal (fun s => if R - r s = j then sgn s else 0) (List.range k)
theorem chr_zero (r : Nat → Nat) (R j : Nat) : chrS r R 0 j = 0 := rfl
theorem chr_step (r : Nat → Nat) (R k j : Nat) : chrS r R (k + 1) j = if R - r k = j then chrS r R k j + sgn k else chrS r R k j := by
  unfold chrS
  rw [tal_range]
  split <;> omega
theorem chr_bound (r : Nat → Nat) (R k j : Nat) : -(k : Int) ≤ chrS r R k j ∧ chrS r R k j ≤ k := by
  have := tal_bound (F := fun s => if R - r s = j then sgn s else 0) (c := 1) (l := List.range k) fun x _ => by
    have := sgn_bound x
    try dsimp only
    split <;> omega
  simpa [chrS] using this
/-- how many of the first k sets are such, and of rank j -/
def cntS (p : Nat → Bool) (r : Nat → Nat) (k j : Nat) : Nat := ((List.range k).filter fun s => p s && r s == j).length
theorem cnt_zero (p : Nat → Bool) (r : Nat → Nat) (j : Nat) : cntS p r 0 j = 0 := rfl
theorem cnt_step (p : Nat → Bool) (r : Nat → Nat) (k j : Nat) : cntS p r (k + 1) j = if (p k && r k == j) = true then cntS p r k j + 1 else cntS p r k j := by
  unfold cntS
  rw [List.range_succ, List.filter_append, List.filter_cons]
  split
  · simp
  · simp
theorem cnt_le (p : Nat → Bool) (r : Nat → Nat) (k j : Nat) : cntS p r k j ≤ k := by
  unfold cntS
  exact Nat.le_trans (List.length_filter_le _ _) (by simp)
theorem cnt_congr {p q r r' : Nat → _} {T j : Nat} (h : ∀ s, s < T → p s = q s) (h' : ∀ s, s < T → r s = r' s) : cntS p r T j = cntS q r' T j := by
  unfold cntS
  refine congrArg List.length (List.filter_congr fun s hs => ?_)
  rw [h s (List.mem_range.1 hs), h' s (List.mem_range.1 hs)]

theorem mobS_bound (r : Nat → Nat) {n : Nat} (hn : n ≤ 8) (f : Nat) : -256 ≤ mobS r n f ∧ mobS r n f ≤ 256 := by
  have := tal_bound (F := fun s => if cl r n s = f then (if s &&& loopS r n = 0 then sgn s else 0) else 0) (c := 1) (l := List.range (2 ^ n)) fun x _ => by
    have := sgn_bound x
    try dsimp only
    split
    · split <;> omega
    · omega
  have h2 : 2 ^ n ≤ 2 ^ 8 := Nat.pow_le_pow_right (by omega) hn
  have h3 : (1 * (List.range (2 ^ n)).length) ≤ 256 := by simpa using h2
  unfold mobS
  omega
theorem rg_before {p : Nat → Bool} {T i : Nat} (hi : i < ((List.range T).filter p).length) : (List.range (((List.range T).filter p).getD i 0)).filter p = ((List.range T).filter p).take i := by
  have up : ((List.range T).filter p).Pairwise (· < ·) := List.pairwise_lt_range.filter _
  have hg : ((List.range T).filter p).getD i 0 = ((List.range T).filter p)[i] := by simp [List.getD, hi]
  refine sorted_ext (List.pairwise_lt_range.filter _) (up.sublist (List.take_sublist _ _)) fun x => ?_
  rw [List.mem_filter, List.mem_range, List.mem_take_iff_getElem, hg]
  have hm : ((List.range T).filter p)[i] ∈ (List.range T).filter p := List.getElem_mem hi
  rw [List.mem_filter, List.mem_range] at hm
  constructor
  · rintro ⟨h1, h2⟩
    have hx : x ∈ (List.range T).filter p := List.mem_filter.2 ⟨List.mem_range.2 (by omega), h2⟩
    obtain ⟨j, hj, rfl⟩ := List.getElem_of_mem hx
    refine ⟨j, ?_, rfl⟩
    rcases Nat.lt_trichotomy j i with h | h | h
    · omega
    · subst h; omega
    · have := List.pairwise_iff_getElem.1 up i j hi hj h
      omega
  · rintro ⟨j, hj, rfl⟩
    have hj' : j < ((List.range T).filter p).length := by omega
    refine ⟨List.pairwise_iff_getElem.1 up j i hj' hi (by omega), ?_⟩
    exact (List.mem_filter.1 (List.getElem_mem hj')).2
/-- the flats, rising -/
def fltL (n : Nat) (r : Nat → Nat) : List Nat := (List.range (2 ^ n)).filter (flatB r n)
theorem flt_mem {n : Nat} {r : Nat → Nat} {s : Nat} : s ∈ fltL n r ↔ s < 2 ^ n ∧ flatB r n s = true := by unfold fltL; simp
theorem flt_getD {n : Nat} {r : Nat → Nat} {i : Nat} (hi : i < (fltL n r).length) : (fltL n r).getD i 0 < 2 ^ n ∧ flatB r n ((fltL n r).getD i 0) = true := by
  have h : (fltL n r).getD i 0 ∈ fltL n r := by simp [List.getD, hi]
  exact flt_mem.1 h
theorem flt_up (n : Nat) (r : Nat → Nat) : (fltL n r).Pairwise (· < ·) := List.pairwise_lt_range.filter _
theorem flt_len {n : Nat} {r : Nat → Nat} (hn : n ≤ 8) : (fltL n r).length ≤ 256 := by
  have h2 : 2 ^ n ≤ 2 ^ 8 := Nat.pow_le_pow_right (by omega) hn
  exact Nat.le_trans (Nat.le_trans (List.length_filter_le _ _) (by simp)) h2
theorem loop_flat {n : Nat} {r : Nat → Nat} (hn : n ≤ 8) (h : Rk r) : flatB r n (loopS r n) = true := clM_flat hn h (Nat.two_pow_pos n)
theorem flt_pos {n : Nat} {r : Nat → Nat} (hn : n ≤ 8) (h : Rk r) : 0 < (fltL n r).length :=
  List.length_pos_iff.2 (List.ne_nil_of_mem (flt_mem.2 ⟨loop_lt hn, loop_flat hn h⟩))
theorem flt_zero {n : Nat} {r : Nat → Nat} (hn : n ≤ 8) (h : Rk r) : (fltL n r).getD 0 0 = loopS r n := by
  have hp := flt_pos hn h (r := r)
  have h0 := flt_getD hp
  refine Nat.le_antisymm ?_ (subM_le (loop_in hn h h0.1 h0.2))
  obtain ⟨j, hj, e⟩ := List.getElem_of_mem (flt_mem.2 ⟨loop_lt hn, loop_flat hn h⟩)
  have hg : (fltL n r).getD 0 0 = (fltL n r)[0] := by simp [List.getD, hp]
  rw [hg, ← e]
  rcases Nat.eq_zero_or_pos j with rfl | hj0
  · exact Nat.le_refl _
  · exact Nat.le_of_lt (List.pairwise_iff_getElem.1 (flt_up n r) 0 j hp hj hj0)
theorem flt_inj {n : Nat} {r : Nat → Nat} {i j : Nat} (hi : i < (fltL n r).length) (hj : j < (fltL n r).length) (e : (fltL n r).getD i 0 = (fltL n r).getD j 0) : i = j := by
  have gi : (fltL n r).getD i 0 = (fltL n r)[i] := by simp [List.getD, hi]
  have gj : (fltL n r).getD j 0 = (fltL n r)[j] := by simp [List.getD, hj]
  rw [gi, gj] at e
  rcases Nat.lt_trichotomy i j with h | h | h
  · have := List.pairwise_iff_getElem.1 (flt_up n r) i j hi hj h; omega
  · exact h
  · have := List.pairwise_iff_getElem.1 (flt_up n r) j i hj hi h; omega
theorem take_map (l : List Nat) : ∀ k, k ≤ l.length → l.take k = (List.range k).map fun i => l.getD i 0 := fun k hk => by
  induction k with
  | zero => rfl
  | succ k ih => rw [List.range_succ, List.map_append, ← ih (by omega), List.take_add_one]; simp [List.getD, show k < l.length by omega]
/-- MOBIUS' number of the i-th flat -/
def mobF (r : Nat → Nat) (n i : Nat) : Int := mobS r n ((fltL n r).getD i 0)
/-- those of the first j flats that are within the i-th, added -/
def mobT (r : Nat → Nat) (n i j : Nat) : Int := tal (fun k => if subB ((fltL n r).getD k 0) ((fltL n r).getD i 0) = true then mobF r n k else 0) (List.range j)
theorem mobT_step (r : Nat → Nat) (n i j : Nat) : mobT r n i (j + 1) = if subB ((fltL n r).getD j 0) ((fltL n r).getD i 0) = true then mobT r n i j + mobF r n j else mobT r n i j := by
  unfold mobT
  rw [tal_range]
  split <;> omega
theorem mobT_bound (r : Nat → Nat) {n : Nat} (hn : n ≤ 8) (i : Nat) {j : Nat} (hj : j ≤ 256) : -65536 ≤ mobT r n i j ∧ mobT r n i j ≤ 65536 := by
  have := tal_bound (F := fun k => if subB ((fltL n r).getD k 0) ((fltL n r).getD i 0) = true then mobF r n k else 0) (c := 256) (l := List.range j) fun x _ => by
    have := mobS_bound r hn ((fltL n r).getD x 0)
    try dsimp only
    unfold mobF
    split <;> omega
  rw [List.length_range] at this
  unfold mobT
  omega
theorem mobT_take (r : Nat → Nat) {n i j : Nat} (hj : j ≤ (fltL n r).length) : mobT r n i j = tal (mobS r n) (((fltL n r).take j).filter fun g => subB g ((fltL n r).getD i 0)) := by
  rw [tal_filter, take_map _ j hj, tal_map]
  rfl
theorem mob_zero {n : Nat} {r : Nat → Nat} (hn : n ≤ 8) (h : Rk r) : mobF r n 0 = 1 := by
  unfold mobF
  rw [flt_zero hn h, mob_step hn h (loop_lt hn) (loop_flat hn h), if_pos rfl]
  have : ((List.range (loopS r n)).filter fun g => flatB r n g && subB g (loopS r n)) = [] := List.filter_eq_nil_iff.2 fun x hx => by
    rw [List.mem_range] at hx
    intro hc
    rw [Bool.and_eq_true] at hc
    have hl := loop_lt (r := r) hn
    have := subM_le (loop_in hn h (show x < 2 ^ n by omega) hc.1)
    omega
  rw [this]
  simp [tal]
theorem mob_next {n i : Nat} {r : Nat → Nat} (hn : n ≤ 8) (h : Rk r) (h0 : i ≠ 0) (hi : i < (fltL n r).length) : mobF r n i = - mobT r n i i := by
  have hg := flt_getD hi
  have hne : (fltL n r).getD i 0 ≠ loopS r n := fun e => h0 (flt_inj hi (flt_pos hn h) (e.trans (flt_zero hn h).symm))
  rw [mobT_take r (Nat.le_of_lt hi)]
  unfold mobF
  rw [mob_step hn h hg.1 hg.2, if_neg hne, ← List.filter_filter]
  have := rg_before (p := flatB r n) (T := 2 ^ n) hi
  have e : ((List.range ((fltL n r).getD i 0)).filter fun x => flatB r n x) = (fltL n r).take i := this
  have e2 : (List.filter (fun a => subB a ((fltL n r).getD i 0)) (List.filter (flatB r n) (List.range ((fltL n r).getD i 0)))) = ((fltL n r).take i).filter fun g => subB g ((fltL n r).getD i 0) := by rw [← e]
  rw [← e2, List.filter_filter, List.filter_filter]
  have e3 : ∀ L : List Nat, (L.filter fun a => flatB r n a && subB a ((fltL n r).getD i 0)) = L.filter fun a => subB a ((fltL n r).getD i 0) && flatB r n a := fun L => List.filter_congr fun x _ => Bool.and_comm _ _
  rw [e3]
  omega
/-- MOBIUS' number by the first k sets, as the document has it -/
def mobD (r : Nat → Nat) (n f k : Nat) : Int := tal (fun s => if (subB s f && (s &&& loopS r n == 0) && (cl r n s == f)) = true then sgn s else 0) (List.range k)
theorem mobD_step (r : Nat → Nat) (n f k : Nat) : mobD r n f (k + 1) = if (subB k f && (k &&& loopS r n == 0) && (cl r n k == f)) = true then mobD r n f k + sgn k else mobD r n f k := by
  unfold mobD
  rw [tal_range]
  split <;> omega
theorem mobD_bound (r : Nat → Nat) (n f k : Nat) : -(k : Int) ≤ mobD r n f k ∧ mobD r n f k ≤ k := by
  have := tal_bound (F := fun s => if (subB s f && (s &&& loopS r n == 0) && (cl r n s == f)) = true then sgn s else 0) (c := 1) (l := List.range k) fun x _ => by
    have := sgn_bound x
    try dsimp only
    split <;> omega
  simpa [mobD] using this
theorem tal_longer {F : Nat → Int} {a : Nat} : ∀ {b : Nat}, a ≤ b → (∀ s, a ≤ s → s < b → F s = 0) → tal F (List.range b) = tal F (List.range a)
  | 0, h, _ => by obtain rfl : a = 0 := by omega
                  rfl
  | b + 1, h, k => by
    rcases Nat.eq_or_lt_of_le h with rfl | h'
    · rfl
    · rw [tal_range, k b (by omega) (by omega), tal_longer (by omega : a ≤ b) fun s h1 h2 => k s h1 (by omega)]
      omega
theorem mobD_end {n f : Nat} {r : Nat → Nat} (hn : n ≤ 8) (hf : f < 2 ^ n) : mobD r n f (f + 1) = mobS r n f := by
  unfold mobD mobS
  have e : ∀ s, s < 2 ^ n → (if (subB s f && (s &&& loopS r n == 0) && (cl r n s == f)) = true then sgn s else 0) = (if cl r n s = f then (if s &&& loopS r n = 0 then sgn s else 0) else 0) := fun s hs => by
    by_cases h1 : cl r n s = f
    · have h2 : subB s f = true := by have := sub_cl (r := r) hn hs; rwa [h1] at this
      by_cases h3 : s &&& loopS r n = 0
      · simp [h1, h2, h3]
      · simp [h1, h2, h3]
    · simp [h1]
  rw [← tal_congr (l := List.range (2 ^ n)) fun s hs => e s (List.mem_range.1 hs)]
  refine (tal_longer (by omega) fun s h1 h2 => ?_).symm
  have : subB s f = false := by
    rw [Bool.eq_false_iff]
    intro hc
    have := subM_le hc
    omega
  simp [this]
end Go.Proofs.YtfajbmcdkhgipaaDoor

namespace Go.Proofs.YtfajbmcdkhgipaaDoor

theorem dual_sum {n : Nat} {l : List Nat} (hn : n ≤ 8) (hf : Fam n l) (hb : Bas l) {s : Nat} (hs : s < 2 ^ n) : rk (cmp n l) s + rk l (2 ^ n - 1) = pop s + rk l (2 ^ n - 1 - s) := by
  rw [dual_rk hn hf hb hs]
  exact dual_add (hb.rkOn n) hs
theorem emb_dual {m k : Nat} {A B : List Nat} (hm : m ≤ 8) (hfA : Fam m A) (hbA : Bas A) (hk : k ≤ 8) (hfB : Fam k B) (hbB : Bas B) (h : Emb m A k B) : Emb m (cmp m A) k (cmp k B) := by
  obtain ⟨p, C, hp, hl, hC, hd, hr⟩ := h
  have hfk := full_lt k
  have hEl := hp.image_lt (2 ^ k - 1)
  have hEC := Nat.or_lt_two_pow hEl hC
  have hE : ∀ x, (image p (2 ^ k - 1)).testBit x = true ↔ x ∈ p := fun x => by
    rw [image_has]
    constructor
    · rintro ⟨i, h1, _, h3⟩
      rw [← h3]
      simp [List.getD, h1]
    · intro hx
      obtain ⟨i, hi, e⟩ := List.getElem_of_mem hx
      exact ⟨i, hi, by rw [full_bit]; simpa using (by omega : i < k), by simp [List.getD, hi, e]⟩
  have hDl : 2 ^ m - 1 - (image p (2 ^ k - 1) ||| C) < 2 ^ m := by have := Nat.two_pow_pos m; omega
  refine ⟨p, 2 ^ m - 1 - (image p (2 ^ k - 1) ||| C), hp, hl, hDl, fun x hx => ?_, fun s hs => ?_⟩
  · rw [cpl_bit hEC, Nat.testBit_or, (hE x).2 hx]
    simp
  · have hsc : 2 ^ k - 1 - s < 2 ^ k := by have := Nat.two_pow_pos k; omega
    have hil := hp.image_lt s
    have hpop : pop (image p s) = pop s := hp.image_pop hm 8 (pop_le _ (lt256 hk hs)) (by rw [hl]; exact hs) (by omega)
    have hsub : ∀ x, (image p s).testBit x = true → (image p (2 ^ k - 1)).testBit x = true := fun x hx => by
      rw [hE]
      obtain ⟨i, h1, _, h3⟩ := image_has.1 hx
      rw [← h3]
      simp [List.getD, h1]
    have hdis : image p s &&& (2 ^ m - 1 - (image p (2 ^ k - 1) ||| C)) = 0 := Nat.eq_of_testBit_eq fun x => by
      rw [Nat.testBit_and, Nat.zero_testBit, Bool.and_eq_false_iff, cpl_bit hEC, Nat.testBit_or]
      cases e : (image p s).testBit x
      · exact .inl rfl
      · rw [hsub x e]
        exact .inr (by simp)
    have hcp : 2 ^ m - 1 - (image p s ||| (2 ^ m - 1 - (image p (2 ^ k - 1) ||| C))) = image p (2 ^ k - 1 - s) ||| C := Nat.eq_of_testBit_eq fun x => by
      rw [cpl_bit (Nat.or_lt_two_pow hil hDl), Nat.testBit_or, cpl_bit hEC, Nat.testBit_or, Nat.testBit_or]
      by_cases hx : x < m
      · have e0 : decide (x < m) = true := decide_eq_true hx
        cases e1 : (image p (2 ^ k - 1)).testBit x
        · have e2 : (image p s).testBit x = false := Bool.eq_false_iff.2 fun c => by rw [hsub x c] at e1; cases e1
          have e3 : (image p (2 ^ k - 1 - s)).testBit x = false := Bool.eq_false_iff.2 fun c => by
            obtain ⟨i, h1, _, h3⟩ := image_has.1 c
            have : x ∈ p := by rw [← h3]; simp [List.getD, h1]
            rw [(hE x).2 this] at e1
            cases e1
          rw [e2, e3, e0]
          cases C.testBit x <;> rfl
        · obtain ⟨i, hi, rfl⟩ := List.getElem_of_mem ((hE x).1 e1)
          have e4 : p[i] = p.getD i 0 := by simp [List.getD, hi]
          rw [e4, hp.image_at hi, hp.image_at hi, cpl_bit hs, hd _ (by rw [← e4]; exact List.getElem_mem _), ← e4, e0, show decide (i < k) = true from decide_eq_true (by omega)]
          cases s.testBit i <;> rfl
      · have e0 : decide (x < m) = false := decide_eq_false hx
        have hz : ∀ y, y < 2 ^ m → y.testBit x = false := fun y hy => Nat.testBit_lt_two_pow (Nat.lt_of_lt_of_le hy (Nat.pow_le_pow_right (by decide) (by omega)))
        rw [hz (image p s) (hp.image_lt _), hz (image p (2 ^ k - 1)) (hp.image_lt _), hz (image p (2 ^ k - 1 - s)) (hp.image_lt _), hz C hC, e0]
        rfl
    have e1 := dual_sum hk hfB hbB hs
    have e2 := dual_sum hm hfA hbA hDl
    have e3 := dual_sum hm hfA hbA (Nat.or_lt_two_pow hil hDl)
    rw [hcp, pop_disE hdis, hpop] at e3
    rw [show 2 ^ m - 1 - (2 ^ m - 1 - (image p (2 ^ k - 1) ||| C)) = image p (2 ^ k - 1) ||| C by have := Nat.two_pow_pos m; omega] at e2
    have e4 := hr _ hsc
    have e5 := hr _ hfk
    omega
theorem min_dual {m k : Nat} {A B : List Nat} (hm : m ≤ 8) (hfA : Fam m A) (hbA : Bas A) (hk : k ≤ 8) (hfB : Fam k B) (hbB : Bas B) : (minO m (cmp m A) k (cmp k B)).isSome = (minO m A k B).isSome := by
  rw [Bool.eq_iff_iff]
  constructor
  · intro h
    have h1 := emb_dual hm (cmp_fam hfA) (dual_bas hm hfA hbA) hk (cmp_fam hfB) (dual_bas hk hfB hbB) (emb_of_min hm (dual_bas hm hfA hbA) (cmp_fam hfB) (dual_bas hk hfB hbB) h)
    rw [cmp_cmp hfA, cmp_cmp hfB] at h1
    exact min_of_emb hm hbA hk hfB hbB h1
  · intro h
    exact min_of_emb hm (dual_bas hm hfA hbA) hk (cmp_fam hfB) (dual_bas hk hfB hbB) (emb_dual hm hfA hbA hk hfB hbB (emb_of_min hm hbA hfB hbB h))
theorem shf_old {k c : Nat} (hc : c < 2 ^ pop k) : shf (els k) (old (els k) c) = c := Nat.eq_of_testBit_eq fun i => by
  rw [Bool.eq_iff_iff, shf_bit]
  constructor
  · rintro ⟨x, h1, h2⟩
    obtain ⟨j, h3, h4⟩ := old_bit.1 h2
    rw [up_inj (els_up k) h1 h3]
    exact h4
  · intro h
    have hi : i < (els k).length := by rw [els_len]; exact bit_lt hc h
    exact ⟨(els k)[i], List.getElem?_eq_getElem hi, old_bit.2 ⟨i, List.getElem?_eq_getElem hi, h⟩⟩
/-- What is found. -/
theorem min_found {m k x y : Nat} {A B : List Nat} (hm : m ≤ 8) (h : minO m A k B = some (x, y)) : x < 2 ^ m ∧ x &&& y = 0 ∧ y < 2 ^ m ∧ ∃ c, c < 2 ^ pop (dif (2 ^ m - 1) x) ∧ shf (els (dif (2 ^ m - 1) x)) y = c ∧ (isoK (pop (dif (2 ^ pop (dif (2 ^ m - 1) x) - 1) c)) (minL (pop (dif (2 ^ m - 1) x)) (minL m A x 0) c c) k B).head?.isSome = true := by
  unfold minO at h
  obtain ⟨d, hd, h1⟩ := List.exists_of_findSome?_eq_some h
  have hd2 := List.mem_range.1 hd
  obtain ⟨c', h2, h3⟩ := Option.map_eq_some_iff.1 h1
  simp only [Prod.mk.injEq] at h3
  obtain ⟨rfl, rfl⟩ := h3
  unfold conO at h2
  by_cases hK : pop (dif (2 ^ m - 1) d) < k
  · rw [if_pos hK] at h2
    cases h2
  · rw [if_neg hK] at h2
    obtain ⟨c, h4, rfl⟩ := Option.map_eq_some_iff.1 h2
    have h5 := List.find?_some h4
    have h6 := List.mem_range.1 (List.mem_filter.1 (List.mem_of_find?_eq_some h4)).1
    refine ⟨hd2, ?_, old_ltn hm d c, c, h6, shf_old h6, h5⟩
    refine Nat.eq_of_testBit_eq fun i => ?_
    rw [Nat.testBit_and, Nat.zero_testBit, Bool.and_eq_false_iff]
    cases e : (old (els (dif (2 ^ m - 1) d)) c).testBit i
    · exact .inr rfl
    · have := subB_iff.1 (old_sub (kept_lt hm d) c) i e
      rw [dif_bit, Bool.and_eq_true] at this
      exact .inl (by simpa using this.2)
/-- What is deleted and contracted is a minor. -/
theorem min_self {m d c : Nat} {A : List Nat} (hm : m ≤ 8) (hb : Bas A) (hc : c < 2 ^ pop (dif (2 ^ m - 1) d)) :
    (minO m A (pop (dif (2 ^ pop (dif (2 ^ m - 1) d) - 1) c)) (minL (pop (dif (2 ^ m - 1) d)) (minL m A d 0) c c)).isSome = true := by
  have hkl := kept_lt hm d
  have hK8 := kept_le hm d
  have hJl := kept_ltn (pop (dif (2 ^ m - 1) d)) c
  have hEl := old_ltn hm d (dif (2 ^ pop (dif (2 ^ m - 1) d) - 1) c)
  refine min_of_emb hm hb (kept_le hK8 c) (min_fam _ _ _ _) (min_bas hK8 (min_bas hm hb d 0) c c) ⟨els (old (els (dif (2 ^ m - 1) d)) (dif (2 ^ pop (dif (2 ^ m - 1) d) - 1) c)), old (els (dif (2 ^ m - 1) d)) c, els_beg hm hEl, ?_, old_ltn hm d c, fun x hx => ?_, fun s hs => con_rk hm hb hc hs⟩
  · rw [els_len, els_pop hkl hJl]
  · have h9 := (mem_els (lt256 hm hEl)).1 hx
    rw [old_dif hkl hc, dif_bit, Bool.and_eq_true] at h9
    simpa using h9.2
theorem two_min : minO 4 [3, 5, 6, 9, 10, 12] 2 [1, 2] = some (1, 2) := by decide +kernel
end Go.Proofs.YtfajbmcdkhgipaaDoor

namespace Go.Proofs.YtfajbmcdkhgipaaDoor
open Classical

noncomputable def dlZ (a v : Nat) : Int := if a = v then 1 else 0
variable {E : List (Nat × Nat)}
/-- What comes to v less what goes, by the first i edges. -/
noncomputable def bdZ (E : List (Nat × Nat)) (i : Nat) (u : Nat → Int) (v : Nat) : Int := tal (fun j => u j * (dlZ (ea E j) v - dlZ (eb E j) v)) (List.range i)
theorem bd_succ (i : Nat) (u : Nat → Int) (v : Nat) : bdZ E (i + 1) u v = bdZ E i u v + u i * (dlZ (ea E i) v - dlZ (eb E i) v) := by
  unfold bdZ
  rw [tal_range]
theorem bd_add (i : Nat) (u x : Nat → Int) (v : Nat) : bdZ E i (fun j => u j + x j) v = bdZ E i u v + bdZ E i x v := by
  unfold bdZ
  rw [← tal_add]
  exact tal_congr fun j _ => Int.add_mul _ _ _
theorem bd_one {i j : Nat} (hj : j < i) (c : Int) (v : Nat) : bdZ E i (fun k => if j = k then c else 0) v = c * (dlZ (ea E j) v - dlZ (eb E j) v) := by
  unfold bdZ
  rw [← tal_pickT (fun k => c * (dlZ (ea E k) v - dlZ (eb E k) v)) hj]
  refine tal_congr fun k _ => ?_
  dsimp only
  split
  · rfl
  · rw [Int.zero_mul]
theorem unit_flow {s i : Nat} (hs : s < 2 ^ i) {a b : Nat} (h : Conn E s a b) : ∃ u : Nat → Int, (∀ j, s.testBit j = false → u j = 0) ∧ ∀ v, bdZ E i u v = dlZ a v - dlZ b v := by
  induction h with
  | refl =>
    refine ⟨fun _ => 0, fun _ _ => rfl, fun v => ?_⟩
    unfold bdZ
    rw [tal_congr (G := fun _ => 0) fun j _ => Int.zero_mul _, tal_zero]
    omega
  | fwd j hj _ ih =>
    obtain ⟨u, h1, h2⟩ := ih
    have hji : j < i := bit_n hs hj
    refine ⟨fun k => u k + (if j = k then 1 else 0), fun k hk => ?_, fun v => ?_⟩
    · have : ¬ j = k := fun e => by subst e; rw [hj] at hk; cases hk
      dsimp only
      rw [if_neg this, h1 k hk]; rfl
    · rw [bd_add, bd_one hji, h2]; omega
  | bwd j hj _ ih =>
    obtain ⟨u, h1, h2⟩ := ih
    have hji : j < i := bit_n hs hj
    refine ⟨fun k => u k + (if j = k then -1 else 0), fun k hk => ?_, fun v => ?_⟩
    · have : ¬ j = k := fun e => by subst e; rw [hj] at hk; cases hk
      dsimp only
      rw [if_neg this, h1 k hk]; rfl
    · rw [bd_add, bd_one hji, h2]; omega
theorem tal_dvd {q : Int} {F : Nat → Int} : ∀ {L : List Nat}, (∀ x ∈ L, q ∣ F x) → q ∣ tal F L
  | [], _ => Int.dvd_zero q
  | _ :: _, h => Int.dvd_add (h _ List.mem_cons_self) (tal_dvd fun x hx => h x (List.mem_cons_of_mem _ hx))
/-- As much comes as goes, modulo q. -/
noncomputable def conB (E : List (Nat × Nat)) (n q i : Nat) (f : Nat → Nat) : Bool := decide (∀ v, v < n → (q : Int) ∣ bdZ E i (fun j => (f j : Int)) v)
/-- Letters of the edges of s. -/
def letA (q s : Nat) : Nat → List Nat := fun j => if s.testBit j then List.range q else [0]
/-- How many flows modulo q the first i edges have, of s alone. -/
noncomputable def floN (E : List (Nat × Nat)) (n q s i : Nat) : Int := itr (letA q s) i fun f => if conB E n q i f = true then 1 else 0
theorem flo_zero (n q s : Nat) : floN E n q s 0 = 1 := by
  unfold floN
  show (if conB E n q 0 (fun _ => 0) = true then (1 : Int) else 0) = 1
  rw [if_pos]
  unfold conB
  rw [decide_eq_true_eq]
  intro v _
  exact Int.dvd_zero _
theorem con_upd (n q i x : Nat) (f : Nat → Nat) : conB E n q (i + 1) (updF f i x) = decide (∀ v, v < n → (q : Int) ∣ bdZ E i (fun j => (f j : Int)) v + (x : Int) * (dlZ (ea E i) v - dlZ (eb E i) v)) := by
  unfold conB
  congr 1
  rw [eq_iff_iff]
  have e : ∀ v, bdZ E (i + 1) (fun j => ((updF f i x j : Nat) : Int)) v = bdZ E i (fun j => (f j : Int)) v + (x : Int) * (dlZ (ea E i) v - dlZ (eb E i) v) := fun v => by
    rw [bd_succ]
    congr 1
    · unfold bdZ
      refine tal_congr fun j hj => ?_
      have := List.mem_range.1 hj
      unfold updF
      dsimp only
      rw [if_neg (by omega)]
    · unfold updF
      rw [if_pos rfl]
  exact ⟨fun h v hv => e v ▸ h v hv, fun h v hv => (e v).symm ▸ h v hv⟩
theorem con_nought (n q i : Nat) (f : Nat → Nat) : conB E n q (i + 1) (updF f i 0) = conB E n q i f := by
  rw [con_upd]
  unfold conB
  congr 1
  rw [eq_iff_iff]
  simp
theorem flo_miss {n q s i : Nat} (h : s.testBit i = false) : floN E n q s (i + 1) = floN E n q s i := by
  unfold floN
  show tal _ _ = _
  rw [show letA q s i = [0] by unfold letA; rw [h]; rfl]
  show itr _ _ _ + 0 = _
  rw [Int.add_zero]
  exact itr_congr fun f _ _ => by dsimp only; rw [con_nought]
theorem flo_hang {n q s i : Nat} (hq : 0 < q) (hs : s.testBit i = true) (h : depG E (lo s i) i) : floN E n q s (i + 1) = (q : Int) * floN E n q s i := by
  obtain ⟨u, u1, u2⟩ := unit_flow (E := E) (s := lo s i) (i := i) (Nat.and_lt_two_pow _ (Nat.sub_lt (Nat.two_pow_pos i) (by decide))) h.symm
  have hqz : (q : Int) ≠ 0 := by omega
  unfold floN
  show tal _ _ = _
  rw [show letA q s i = List.range q by unfold letA; rw [hs]; rfl, tal_congr (G := fun _ => floN E n q s i) fun x _ => ?_, tal_const]
  · simp [floN, Int.mul_comm]
  · let t : Nat → Nat := fun j => (((x : Int) * u j) % (q : Int)).toNat
    have ht : ∀ j, ((t j : Nat) : Int) = ((x : Int) * u j) % (q : Int) := fun j => Int.toNat_of_nonneg (Int.emod_nonneg _ hqz)
    unfold floN
    rw [← itr_perm (A := letA q s) (σ := fun j y => (y + t j) % q) (n := i) (F := fun f => if conB E n q (i + 1) (updF f i x) = true then 1 else 0) fun j hj => ?_]
    · refine itr_congr fun f _ _ => ?_
      congr 1
      rw [con_upd]
      unfold conB
      rw [eq_iff_iff, decide_eq_true_eq, decide_eq_true_eq]
      have e : ∀ v, (q : Int) ∣ (bdZ E i (fun j => ((apF (fun j y => (y + t j) % q) i f j : Nat) : Int)) v + (x : Int) * (dlZ (ea E i) v - dlZ (eb E i) v)) - bdZ E i (fun j => (f j : Int)) v := fun v => by
        have h1 : (x : Int) * (dlZ (ea E i) v - dlZ (eb E i) v) = - ((x : Int) * bdZ E i u v) := by
          rw [u2 v, ← Int.mul_neg]
          congr 1
          omega
        have h2 : (x : Int) * bdZ E i u v = tal (fun j => (x : Int) * (u j * (dlZ (ea E j) v - dlZ (eb E j) v))) (List.range i) := (tal_mul _ _ _).symm
        rw [h1, h2]
        unfold bdZ
        rw [← tal_neg, ← tal_add, Int.sub_eq_add_neg, ← tal_neg, ← tal_add]
        refine tal_dvd fun j hj => ?_
        have hj' := List.mem_range.1 hj
        have e1 : ((apF (fun j y => (y + t j) % q) i f j : Nat) : Int) = ((f j : Int) + ((x : Int) * u j) % (q : Int)) % (q : Int) := by
          unfold apF
          rw [if_pos hj', Int.natCast_emod, Int.natCast_add, ht]
        dsimp only
        rw [e1, Int.add_emod_emod]
        have e2 := Int.emod_add_mul_ediv ((f j : Int) + (x : Int) * u j) (q : Int)
        have e3 : (f j : Int) + (x : Int) * u j = ((f j : Int) + (x : Int) * u j) % (q : Int) + (q : Int) * (((f j : Int) + (x : Int) * u j) / (q : Int)) := e2.symm
        generalize ((f j : Int) + (x : Int) * u j) % (q : Int) = r at *
        generalize ((f j : Int) + (x : Int) * u j) / (q : Int) = k at *
        generalize dlZ (ea E j) v - dlZ (eb E j) v = d
        refine ⟨-(k * d), ?_⟩
        have e4 : r = (f j : Int) + (x : Int) * u j - (q : Int) * k := by omega
        rw [e4]
        simp only [Int.sub_mul, Int.add_mul, Int.mul_neg, Int.mul_assoc]
        omega
      refine ⟨fun c v hv => ?_, fun c v hv => ?_⟩
      · have := Int.dvd_sub (c v hv) (e v)
        rwa [Int.sub_sub_self] at this
      · have := Int.dvd_add (c v hv) (e v)
        rwa [Int.add_comm, Int.sub_add_cancel] at this
    · unfold letA
      by_cases hb : s.testBit j = true
      · rw [if_pos hb]
        exact turn_perm hq
      · have hb' : s.testBit j = false := by simpa using hb
        rw [if_neg hb]
        have : t j = 0 := by
          show (((x : Int) * u j) % (q : Int)).toNat = 0
          rw [u1 j (by rw [lo_bit, hb']; rfl), Int.mul_zero, Int.zero_emod]; rfl
        show [(0 + t j) % q].Perm [0]
        rw [this, Nat.add_zero, Nat.zero_mod]
theorem flo_new {n q s i : Nat} (hq : 0 < q) (hs : s.testBit i = true) (hi : ea E i < n ∧ eb E i < n) (hE : ∀ j, j < i → s.testBit j = true → ea E j < n ∧ eb E j < n) (h : ¬ depG E (lo s i) i) : floN E n q s (i + 1) = floN E n q s i := by
  have hna : ¬ Conn E (lo s i) (eb E i) (ea E i) := fun c => h c.symm
  let L : List Nat := (List.range n).filter fun v => decide (Conn E (lo s i) (eb E i) v)
  have hL : ∀ a, a < n → tal (fun v => dlZ a v) L = if Conn E (lo s i) (eb E i) a then 1 else 0 := fun a ha => by
    show tal _ ((List.range n).filter _) = _
    rw [tal_filter, tal_congr (G := fun v => if a = v then (if Conn E (lo s i) (eb E i) v then 1 else 0) else 0) fun v _ => ?_, tal_pickT (fun v => if Conn E (lo s i) (eb E i) v then 1 else 0) ha]
    unfold dlZ
    by_cases e : a = v <;> by_cases c : Conn E (lo s i) (eb E i) v <;> simp [e, c]
  unfold floN
  show tal _ _ = _
  rw [show letA q s i = List.range q by unfold letA; rw [hs]; rfl, tal_congr (G := fun x => if 0 = x then floN E n q s i else 0) fun x hx => ?_, tal_pickT (fun _ => floN E n q s i) hq]
  · rfl
  · by_cases hx0 : 0 = x
    · subst hx0
      rw [if_pos rfl]
      exact itr_congr fun f _ _ => by dsimp only; rw [con_nought]
    · rw [if_neg hx0]
      rw [itr_congr (G := fun _ => 0 * 1) fun f hf _ => ?_, itr_mul, Int.zero_mul]
      dsimp only
      rw [if_neg]; rfl
      intro c
      rw [con_upd, decide_eq_true_eq] at c
      have h1 : (q : Int) ∣ tal (fun v => bdZ E i (fun j => (f j : Int)) v + (x : Int) * (dlZ (ea E i) v - dlZ (eb E i) v)) L := tal_dvd fun v hv => c v (List.mem_range.1 (List.mem_filter.1 hv).1)
      have h2 : ∀ j, j < n → ∀ k, k < n → tal (fun v => dlZ j v - dlZ k v) L = (if Conn E (lo s i) (eb E i) j then 1 else 0) - if Conn E (lo s i) (eb E i) k then 1 else 0 := fun j hj k hk => by
        rw [← hL j hj, ← hL k hk, Int.sub_eq_add_neg, ← tal_neg, ← tal_add]
        exact tal_congr fun v _ => Int.sub_eq_add_neg
      rw [tal_add, tal_mul, h2 _ hi.1 _ hi.2, if_neg hna, if_pos (Conn.refl (E := E) (s := lo s i) (eb E i))] at h1
      have h3 : tal (fun v => bdZ E i (fun j => (f j : Int)) v) L = 0 := by
        unfold bdZ
        rw [tal_swapT, tal_congr (G := fun _ => 0) fun j hj => ?_, tal_zero]
        have hj' := List.mem_range.1 hj
        rw [tal_mul]
        by_cases hb : s.testBit j = true
        · have h4 := hE j hj' hb
          have hb2 : (lo s i).testBit j = true := by rw [lo_bit]; simp [hb, hj']
          rw [h2 _ h4.1 _ h4.2]
          have h5 : Conn E (lo s i) (eb E i) (ea E j) ↔ Conn E (lo s i) (eb E i) (eb E j) := ⟨fun c => .fwd j hb2 c, fun c => .bwd j hb2 c⟩
          by_cases h6 : Conn E (lo s i) (eb E i) (ea E j)
          · rw [if_pos h6, if_pos (h5.1 h6)]; simp
          · rw [if_neg h6, if_neg fun c => h6 (h5.2 c)]; simp
        · have h5 := hf j hj'
          unfold letA at h5
          rw [if_neg hb] at h5
          have h6 : f j = 0 := by simpa using h5
          dsimp only
          rw [h6]; simp
      rw [h3] at h1
      have hx' := List.mem_range.1 hx
      have h7 : (q : Int) ∣ (x : Int) := by
        have := Int.dvd_neg.2 h1
        simpa using this
      have := Int.le_of_dvd (by omega) h7
      omega
theorem flo_is {n q s : Nat} (hq : 0 < q) (hs8 : s < 256) (hE : ∀ j, s.testBit j = true → ea E j < n ∧ eb E j < n) : ∀ i, i ≤ 8 → floN E n q s i * (q : Int) ^ depTo (depG E) s i = (q : Int) ^ pop (lo s i)
  | 0, _ => by rw [flo_zero, depTo, lo_zero]; rfl
  | i + 1, hi8 => by
    have ih := flo_is hq hs8 hE i (by omega)
    rw [depTo]
    by_cases hs : s.testBit i = true
    · rw [lo_hit hs, pop_ad _ (lo_ltn (n := 8) hs8 i) i (by omega) (by rw [lo_bit]; simp), Int.pow_succ, ← ih]
      by_cases hd : depG E (lo s i) i
      · rw [if_neg (fun c => c.2 hd), flo_hang hq hs hd, Nat.add_zero]
        simp [Int.mul_comm, Int.mul_left_comm]
      · rw [if_pos ⟨hs, hd⟩, flo_new hq hs (hE i hs) (fun j _ hb => hE j hb) hd, Int.pow_succ, Int.mul_assoc]
    · have hs' : s.testBit i = false := by simpa using hs
      rw [if_neg (fun c => hs c.1), flo_miss hs', Nat.add_zero, lo_miss hs']; exact ih
/-- Words without noughts. -/
theorem itr_none (q : Nat) (hq : 0 < q) : ∀ {m : Nat} {F : (Nat → Nat) → Int}, m ≤ 8 → itr (fun _ => (List.range (q - 1)).map (· + 1)) m F = tal (fun s => (-1) ^ m * sgn s * itr (letA q s) m F) (List.range (2 ^ m))
  | 0, F, _ => by
    show F _ = (-1) ^ 0 * sgn 0 * F _ + 0
    have : sgn 0 = 1 := by decide
    rw [this]; simp
  | m + 1, F, hm => by
    show tal (fun x => itr _ m fun f => F (updF f m x)) _ = _
    have hsplit : ∀ G : Nat → Int, tal G ((List.range (q - 1)).map (· + 1)) = tal G (List.range q) - G 0 := fun G => by
      obtain ⟨d, rfl⟩ : ∃ d, q = d + 1 := ⟨q - 1, by omega⟩
      rw [Nat.add_sub_cancel, List.range_succ_eq_map]
      show _ = G 0 + tal G _ - G 0
      rw [show (List.range d).map Nat.succ = (List.range d).map (· + 1) from rfl]
      omega
    rw [hsplit, tal_congr (fun x _ => itr_none q hq (F := fun f => F (updF f m x)) (by omega)), tal_swapT, itr_none q hq (F := fun f => F (updF f m 0)) (by omega)]
    rw [Nat.pow_succ, show 2 ^ m * 2 = 2 ^ m + 2 ^ m by omega, List.range_add, tal_append, tal_map]
    have e1 : tal (fun s => (-1) ^ (m + 1) * sgn s * itr (letA q s) (m + 1) F) (List.range (2 ^ m)) = - tal (fun s => (-1) ^ m * sgn s * itr (letA q s) m fun f => F (updF f m 0)) (List.range (2 ^ m)) := by
      rw [← tal_neg]
      refine tal_congr fun s hs => ?_
      have h0 : s.testBit m = false := Nat.testBit_lt_two_pow (List.mem_range.1 hs)
      have : itr (letA q s) (m + 1) F = itr (letA q s) m fun f => F (updF f m 0) := by
        show tal _ _ = _
        rw [show letA q s m = [0] by unfold letA; rw [h0]; rfl]
        show _ + 0 = _
        rw [Int.add_zero]
      rw [this, Int.pow_succ]
      simp [Int.mul_neg, Int.neg_mul]
    have e2 : tal (fun x => (-1) ^ (m + 1) * sgn (2 ^ m + x) * itr (letA q (2 ^ m + x)) (m + 1) F) (List.range (2 ^ m)) = tal (fun s => tal (fun x => (-1) ^ m * sgn s * itr (letA q s) m fun f => F (updF f m x)) (List.range q)) (List.range (2 ^ m)) := by
      refine tal_congr fun s hs => ?_
      have hs' := List.mem_range.1 hs
      have hor : 2 ^ m + s = s ||| 2 ^ m := by have := Nat.two_pow_add_eq_or_of_lt hs' 1; rw [Nat.mul_one] at this; rw [this, Nat.or_comm]
      have hsg : sgn (2 ^ m + s) = - sgn s := by rw [hor]; exact sgn_top (by omega) hs'
      have hit : itr (letA q (2 ^ m + s)) (m + 1) F = tal (fun x => itr (letA q s) m fun f => F (updF f m x)) (List.range q) := by
        show tal _ _ = _
        rw [show letA q (2 ^ m + s) m = List.range q by unfold letA; rw [if_pos (by rw [hor, or_bit]; simp)]]
        refine tal_congr fun x _ => itr_same fun j hj => ?_
        unfold letA
        rw [hor, or_bit, show decide (m = j) = false by simp; omega, Bool.or_false]
      rw [hsg, hit, Int.pow_succ, ← tal_mul]
      refine tal_congr fun x _ => ?_
      simp [Int.mul_neg, Int.neg_mul]
    rw [e1, e2]
    omega
end Go.Proofs.YtfajbmcdkhgipaaDoor

namespace Go.Proofs.YtfajbmcdkhgipaaDoor

/-- What HORNER's loop has behind k of N steps. -/
def horN (c : Nat → Int) (q : Int) (N : Nat) : Nat → Int
  | 0 => 0
  | k + 1 => horN c q N k * q + c (N - 1 - k)
theorem hor_sum (c : Nat → Int) (q : Int) (N : Nat) : ∀ k, k ≤ N → horN c q N k = tal (fun j => c (N - k + j) * q ^ j) (List.range k)
  | 0, _ => rfl
  | k + 1, h => by
    rw [horN, hor_sum c q N k (by omega)]
    rw [List.range_succ_eq_map]
    show _ = tal _ (0 :: (List.range k).map Nat.succ)
    rw [show ∀ (F : Nat → Int) (a : Nat) (l : List Nat), tal F (a :: l) = F a + tal F l from fun _ _ _ => rfl, tal_map, Int.add_comm]
    have e : N - (k + 1) + 0 = N - 1 - k := by omega
    rw [e, Int.pow_zero, Int.mul_one]
    congr 1
    rw [Int.mul_comm, ← tal_mul]
    refine tal_congr fun j _ => ?_
    show q * (c (N - k + j) * q ^ j) = c (N - (k + 1) + (j + 1)) * q ^ (j + 1)
    rw [show N - (k + 1) + (j + 1) = N - k + j by omega, Int.pow_succ, Int.mul_comm q, Int.mul_assoc]
theorem hor_all (c : Nat → Int) (q : Int) (N : Nat) : horN c q N N = tal (fun j => c j * q ^ j) (List.range N) := by
  rw [hor_sum c q N N (Nat.le_refl _), Nat.sub_self]
  exact tal_congr fun j _ => by rw [Nat.zero_add]
theorem hor_bound {c : Nat → Int} {q : Int} {N : Nat} (hc : ∀ j, j < N → -256 ≤ c j ∧ c j ≤ 256) (hq : -4 ≤ q ∧ q ≤ 4) : ∀ k, k ≤ N → (horN c q N k).natAbs + 256 ≤ 512 * 4 ^ k
  | 0, _ => by rw [horN]; omega
  | k + 1, h => by
    have ih := hor_bound hc hq k (by omega)
    have h1 := hc (N - 1 - k) (by omega)
    have h2 : (horN c q N k * q).natAbs ≤ (horN c q N k).natAbs * 4 := by rw [Int.natAbs_mul]; exact Nat.mul_le_mul_left _ (by omega)
    have h3 : (horN c q N (k + 1)).natAbs ≤ (horN c q N k * q).natAbs + (c (N - 1 - k)).natAbs := by rw [horN]; exact Int.natAbs_add_le _ _
    rw [Nat.pow_succ]
    omega
theorem hor_chr {r : Nat → Nat} {R k : Nat} (q : Int) : horN (chrS r R k) q (R + 1) (R + 1) = tal (fun s => sgn s * q ^ (R - r s)) (List.range k) := by
  rw [hor_all]
  unfold chrS
  rw [tal_congr (G := fun j => tal (fun s => if R - r s = j then sgn s * q ^ j else 0) (List.range k)) fun j _ => ?_]
  · rw [tal_swapT]
    refine tal_congr fun s _ => ?_
    exact tal_pickT (fun j => sgn s * q ^ j) (by omega)
  · rw [Int.mul_comm, ← tal_mul]
    refine tal_congr fun s _ => ?_
    split
    · rw [Int.mul_comm]
    · rw [Int.mul_zero]
theorem neg_pow (q : Int) : ∀ k, (-q) ^ k = (-1) ^ k * q ^ k
  | 0 => by simp
  | k + 1 => by
    rw [Int.pow_succ, neg_pow q k, Int.pow_succ, Int.pow_succ, Int.mul_neg, Int.mul_neg, Int.mul_one, Int.neg_mul, Int.mul_assoc]
theorem one_pow_mod : ∀ k, (-1 : Int) ^ k = if k % 2 = 1 then -1 else 1
  | 0 => rfl
  | k + 1 => by rw [Int.pow_succ, one_pow_mod k]; by_cases h : k % 2 = 1 <;> (have : (k + 1) % 2 = 1 ↔ ¬ k % 2 = 1 := by omega) <;> simp [h, this]
theorem sgn_pow {R a p s : Nat} (hs : p = pop s) (h1 : a ≤ R) (h2 : a ≤ p) : (-1 : Int) ^ (R - a) * (-1) ^ (p - a) = (-1) ^ R * sgn s := by
  rw [one_pow_mod, one_pow_mod, one_pow_mod, sgn, ← hs]
  rcases Nat.mod_two_eq_zero_or_one a with e | e <;> rcases Nat.mod_two_eq_zero_or_one R with f | f <;> rcases Nat.mod_two_eq_zero_or_one p with g | g <;>
    (have q1 : (R - a) % 2 = (R % 2 + a % 2) % 2 := by omega) <;> (have q2 : (p - a) % 2 = (p % 2 + a % 2) % 2 := by omega) <;> simp [q1, q2, e, f, g]
/-- CRAPO, ROTA. -/
theorem crapo_rota {n : Nat} {l : List Nat} (hn : n ≤ 8) (hf : Fam n l) (hb : Bas l) (q : Int) : pvZ n l (1 - q) 0 = (-1) ^ rk l (2 ^ n - 1) * horN (chrS (rk l) (rk l (2 ^ n - 1)) (2 ^ n)) q (rk l (2 ^ n - 1) + 1) (rk l (2 ^ n - 1) + 1) := by
  rw [hor_chr, pv_sum hn hf hb, ← tal_mul]
  refine tal_congr fun s hs => ?_
  have h1 := hb.rk.mono s _ (full_sub (List.mem_range.1 hs))
  have h2 := hb.rk.le s
  have h3 := sgn_pow (s := s) rfl h1 h2
  rw [show (1 - q - 1 : Int) = -q by omega, show (0 - 1 : Int) = -1 by omega, neg_pow, ← Int.mul_assoc, ← h3]
  simp [Int.mul_comm, Int.mul_left_comm]
end Go.Proofs.YtfajbmcdkhgipaaDoor
