/- What the program makes of a family is what the family's own axioms make of it. -/
import Derived.Test.YthbldeloocmakaaMadeBadQ
import Derived.Test.YthbldeloocmakaaRefBgQ
namespace Go.Proofs.Ythbldeloocmakaa
open Go.RowKit

theorem madeE_zero {m : Nat} {K l ys : List Nat} (hm : m ≤ 8) (hf : Fam m K) (hb : Bas K) (e : ys = l) : madeE m K (N ys) (N l) = 0 := by
  unfold madeE
  exact if_pos ⟨chk_mk hm hf hb, by rw [e]⟩
theorem madeE_of {m : Nat} {K : List Nat} {zs ys : List Int} (h : madeE m K zs ys = 0) : Fam m K ∧ Bas K ∧ zs = ys := by
  unfold madeE at h
  split at h
  · rename_i c
    exact ⟨(bas_of_chk c.1).1, (bas_of_chk c.1).2, c.2⟩
  · cases h
/-- The greatest of the independent sets are the bases. -/
theorem big_ind {m : Nat} {bs : List Nat} (hm : m ≤ 8) (hf : Fam m bs) (hb : Bas bs) : bigS (indL m bs) = bs := by
  obtain ⟨h1, h2, h3⟩ := ind_makes (l := indL m bs) hm (Fam.range m _) (ind_ax hm hb)
  have a := most_ind hm h1 h2
  have b := most_ind hm hf hb
  rw [h3] at a
  exact a.symm.trans b
theorem ind_link {m : Nat} {l : List Nat} (hm : m ≤ 8) (hf : Fam m l) :
    (IndAx l → madeE m (mstL l) (N (indL m (mstL l))) (N l) = 0 ∧ mstL l = bigS l) ∧ (¬ IndAx l → madeE m (mstL l) (N (indL m (mstL l))) (N l) = 3) := by
  refine ⟨fun h => ?_, fun h => madeE_three fun c => h ?_⟩
  · obtain ⟨h1, h2, h3⟩ := ind_makes hm hf h
    have e : mstL l = bigS l := by
      have := most_ind hm h1 h2
      rw [h3] at this
      exact this
    rw [e]
    exact ⟨madeE_zero hm h1 h2 h3, rfl⟩
  · obtain ⟨_, h2, h3⟩ := madeE_of c
    have := N_inj h3
    rw [← this]
    exact ind_ax hm h2
/-- The sets that have none of these within. -/
def noneL (m : Nat) (l : List Nat) : List Nat := (List.range (2 ^ m)).filter fun s => !l.any (subB · s)
theorem cir_link {m : Nat} {l : List Nat} (hm : m ≤ 8) (hf : Fam m l) :
    (CirAx l → madeE m (cmp m (blk m l)) (N (cirL m (cmp m (blk m l)))) (N l) = 0 ∧ cmp m (blk m l) = bigS (noneL m l)) ∧ (¬ CirAx l → madeE m (cmp m (blk m l)) (N (cirL m (cmp m (blk m l)))) (N l) = 3) := by
  refine ⟨fun h => ?_, fun h => madeE_three fun c => h ?_⟩
  · obtain ⟨bs, h1, h2, h3, h4⟩ := cir_makes hm hf h
    have e : cmp m (blk m l) = bs := by
      have := of_cir hm h1 h2
      rw [h3] at this
      exact this
    have e2 : noneL m l = indL m bs := by
      unfold noneL indL
      refine List.filter_congr fun s hs => ?_
      have := h4 s (List.mem_range.1 hs)
      rw [Bool.eq_iff_iff, beq_iff_eq, this]
      simp
    rw [e, e2, big_ind hm h1 h2]
    exact ⟨madeE_zero hm h1 h2 h3, rfl⟩
  · obtain ⟨_, h2, h3⟩ := madeE_of c
    have := N_inj h3
    rw [← this]
    exact cir_ax hm h2
theorem hyp_link {m : Nat} {l : List Nat} (hm : m ≤ 8) (hf : Fam m l) :
    (HypAx m l → madeE m (blk m (cmp m l)) (N ((List.range (2 ^ m)).filter (hypB (rk (blk m (cmp m l))) m))) (N l) = 0) ∧ (¬ HypAx m l → madeE m (blk m (cmp m l)) (N ((List.range (2 ^ m)).filter (hypB (rk (blk m (cmp m l))) m))) (N l) = 3) := by
  refine ⟨fun h => ?_, fun h => madeE_three fun c => h ?_⟩
  · obtain ⟨bs, h1, h2, h3⟩ := hyp_makes hm hf h
    have e : blk m (cmp m l) = bs := by
      have := of_hyp hm h1 h2
      rw [h3] at this
      exact this
    rw [e]
    exact madeE_zero hm h1 h2 h3
  · obtain ⟨h1, h2, h3⟩ := madeE_of c
    have := N_inj h3
    rw [← this]
    exact hyp_ax hm h1 h2
theorem flat_link {m : Nat} {l : List Nat} (hm : m ≤ 8) (hf : Fam m l) :
    (FlatAx m l → madeE m (basFl m l) (N (flatL m (basFl m l))) (N l) = 0) ∧ (¬ FlatAx m l → madeE m (basFl m l) (N (flatL m (basFl m l))) (N l) = 3) := by
  refine ⟨fun h => ?_, fun h => madeE_three fun c => h ?_⟩
  · obtain ⟨bs, h1, h2, h3⟩ := flat_makes hm hf h
    have e : basFl m l = bs := by
      have := of_flat hm h1 h2
      unfold basFl
      rw [← (less_take (l := bs) hm).1, h3] at this
      exact this
    rw [e]
    exact madeE_zero hm h1 h2 h3
  · obtain ⟨_, h2, h3⟩ := madeE_of c
    have := N_inj h3
    rw [← this]
    exact flat_ax hm h2
end Go.Proofs.Ythbldeloocmakaa

namespace Go.Proofs.Ythbldeloocmakaa
open Go.RowKit

/-- What ranks must be, of any numbers. -/
structure RkZ (n : Nat) (f : Nat → Int) : Prop where
  zero : f 0 = 0
  up : ∀ s i, s < 2 ^ n → i < n → f s ≤ f (s ||| 2 ^ i) ∧ f (s ||| 2 ^ i) ≤ f s + 1
  loc : ∀ s i k, s < 2 ^ n → i < n → k < n → f ((s ||| 2 ^ i) ||| (s ||| 2 ^ k)) + f ((s ||| 2 ^ i) &&& (s ||| 2 ^ k)) ≤ f (s ||| 2 ^ i) + f (s ||| 2 ^ k)
theorem RkZ.pos {n : Nat} {f : Nat → Int} (hn : n ≤ 8) (h : RkZ n f) : ∀ (s : Nat), s < 2 ^ n → 0 ≤ f s := by
  intro s
  induction s using Nat.strongRecOn with
  | ind s ih =>
    intro hs
    by_cases e : s = 0
    · rw [e, h.zero]; exact Int.le_refl 0
    · obtain ⟨i, hi⟩ := exists_bit e
      have hlt := rm_lt (lt256 hn hs) hi
      have h1 := ih _ hlt (by omega)
      have h2 := (h.up (rm s i) i (by omega) (bit_lt hs hi)).1
      rw [ad_rm hi] at h2
      omega
theorem two_lt {n s i : Nat} (hs : s < 2 ^ n) (hi : i < n) : s ||| 2 ^ i < 2 ^ n := Nat.or_lt_two_pow hs (Nat.pow_lt_pow_right (by decide) hi)
theorem RkZ.nat {n : Nat} {f : Nat → Int} (hn : n ≤ 8) (h : RkZ n f) : RkAx n fun s => (f s).toNat where
  zero := by simp [h.zero]
  up := fun s i hs hi => by
    have := h.up s i hs hi
    have := h.pos hn s hs
    have := h.pos hn _ (two_lt hs hi)
    show (f s).toNat ≤ (f (s ||| 2 ^ i)).toNat ∧ (f (s ||| 2 ^ i)).toNat ≤ (f s).toNat + 1
    omega
  loc := fun s i k hs hi hk => by
    have := h.loc s i k hs hi hk
    have := h.pos hn _ (two_lt hs hi)
    have := h.pos hn _ (two_lt hs hk)
    have := h.pos hn _ (Nat.or_lt_two_pow (two_lt hs hi) (two_lt hs hk))
    have := h.pos hn _ (Nat.lt_of_le_of_lt Nat.and_le_left (two_lt hs hi) : (s ||| 2 ^ i) &&& (s ||| 2 ^ k) < 2 ^ n)
    show (f ((s ||| 2 ^ i) ||| (s ||| 2 ^ k))).toNat + (f ((s ||| 2 ^ i) &&& (s ||| 2 ^ k))).toNat ≤ (f (s ||| 2 ^ i)).toNat + (f (s ||| 2 ^ k)).toNat
    omega
theorem map_getD {T : Nat} {r : Nat → Nat} {s : Nat} (hs : s < T) : (N ((List.range T).map r)).getD s 0 = (r s : Int) := by
  rw [N_getD]
  simp [List.getD, hs]
theorem RkAx.int {n : Nat} {r : Nat → Nat} (h : RkAx n r) {f : Nat → Int} (e : ∀ s, s < 2 ^ n → f s = r s) : RkZ n f where
  zero := by rw [e 0 (Nat.two_pow_pos n), h.zero]; rfl
  up := fun s i hs hi => by
    have := h.up s i hs hi
    rw [e s hs, e _ (two_lt hs hi)]
    omega
  loc := fun s i k hs hi hk => by
    have := h.loc s i k hs hi hk
    rw [e _ (two_lt hs hi), e _ (two_lt hs hk), e _ (Nat.or_lt_two_pow (two_lt hs hi) (two_lt hs hk)), e _ (Nat.lt_of_le_of_lt Nat.and_le_left (two_lt hs hi))]
    omega
theorem rk_link {m : Nat} {zs : List Int} (hm : m ≤ 8) (hl : zs.length = 2 ^ m) :
    (RkZ m (zs.getD · 0) → madeE m (basZ m zs) (N ((List.range (2 ^ m)).map (rk (basZ m zs)))) zs = 0 ∧ basZ m zs = bigS ((List.range (2 ^ m)).filter fun s => zs.getD s 0 == (pop s : Int))) ∧ (¬ RkZ m (zs.getD · 0) → madeE m (basZ m zs) (N ((List.range (2 ^ m)).map (rk (basZ m zs)))) zs = 3) := by
  refine ⟨fun h => ?_, fun h => madeE_three fun c => h ?_⟩
  · obtain ⟨bs, h1, h2, h3⟩ := rk_makes hm (h.nat hm)
    have hz : ∀ s, s < 2 ^ m → zs.getD s 0 = (rk bs s : Int) := fun s hs => by
      rw [h3 s hs]
      have := h.pos hm s hs
      omega
    have e0 : zs = N ((List.range (2 ^ m)).map (rk bs)) := by
      refine List.ext_getElem (by rw [N_len]; simp [hl]) fun s g1 g2 => ?_
      have a := hz s (by omega)
      rw [← map_getD (r := rk bs) (show s < 2 ^ m by omega)] at a
      simpa [List.getD, List.getElem?_eq_getElem g1, List.getElem?_eq_getElem g2] using a
    have e : basZ m zs = bs := by
      refine Eq.trans (List.filter_congr fun s hs => ?_) (rank_list hm h1 h2)
      rw [List.mem_range] at hs
      unfold rankZ
      rw [hz s hs, hz (2 ^ m - 1) (by omega), Bool.eq_iff_iff]
      simp
      omega
    have e2 : ((List.range (2 ^ m)).filter fun s => zs.getD s 0 == (pop s : Int)) = indL m bs := by
      unfold indL
      refine List.filter_congr fun s hs => ?_
      rw [List.mem_range] at hs
      rw [hz s hs, Bool.eq_iff_iff]
      simp
      omega
    rw [e, e2, big_ind hm h1 h2]
    refine ⟨?_, rfl⟩
    unfold madeE
    exact if_pos ⟨chk_mk hm h1 h2, e0.symm⟩
  · obtain ⟨_, h2, h3⟩ := madeE_of c
    refine (rk_ax (n := m) h2).int fun s hs => ?_
    rw [← map_getD (r := rk (basZ m zs)) hs, h3]
end Go.Proofs.Ythbldeloocmakaa
