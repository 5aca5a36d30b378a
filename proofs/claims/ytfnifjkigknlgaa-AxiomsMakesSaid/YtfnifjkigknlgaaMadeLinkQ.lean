/- What the program makes of a family is what the family's own axioms make of it. -/
import Derived.Test.YtfnifjkigknlgaaMadeBadQ
import Derived.Test.YtfnifjkigknlgaaRefBgQ
namespace Go.Proofs.Ytfnifjkigknlgaa
open Go.RowKit

theorem madeE_zero {m : Nat} {K l ys : List Nat} (hm : m ≤ 8) (hf : Fam m K) (hb : Bas K) (e : ys = l) : madeE m K (N ys) (N l) = 0 := by
  unfold madeE
  exact if_pos ⟨chk_mk hm hf hb, by rw [e]⟩
theorem madeE_of {m : Nat} {K : List Nat} {zs ys : List Int} (h : madeE m K zs ys = 0) : Fam m K ∧ Bas K ∧ zs = ys := by
  unfold madeE at h
  split at h
  · rename_i c
    exact ⟨(bas_of_chk c.1).1, (bas_of_chk c.1).2, c.2⟩
  · cases h
/-- The greatest of the independent sets are the bases. -/
theorem big_ind {m : Nat} {bs : List Nat} (hm : m ≤ 8) (hf : Fam m bs) (hb : Bas bs) : bigS (indL m bs) = bs := by
  obtain ⟨h1, h2, h3⟩ := ind_makes (l := indL m bs) hm (Fam.range m _) (ind_ax hm hb)
  have a := most_ind hm h1 h2
  have b := most_ind hm hf hb
  rw [h3] at a
  exact a.symm.trans b
theorem ind_link {m : Nat} {l : List Nat} (hm : m ≤ 8) (hf : Fam m l) :
    (IndAx l → madeE m (mstL l) (N (indL m (mstL l))) (N l) = 0 ∧ mstL l = bigS l) ∧ (¬ IndAx l → madeE m (mstL l) (N (indL m (mstL l))) (N l) = 3) := by
  refine ⟨fun h => ?_, fun h => madeE_three fun c => h ?_⟩
  · obtain ⟨h1, h2, h3⟩ := ind_makes hm hf h
    have e : mstL l = bigS l := by
      have := most_ind hm h1 h2
      rw [h3] at this
      exact this
    rw [e]
    exact ⟨madeE_zero hm h1 h2 h3, rfl⟩
  · obtain ⟨_, h2, h3⟩ := madeE_of c
    have := N_inj h3
    rw [← this]
    exact ind_ax hm h2
/-- The sets that have none of these within. -/
def noneL (m : Nat) (l : List Nat) : List Nat := (List.range (2 ^ m)).filter fun s => !l.any (subB · s)
theorem cir_link {m : Nat} {l : List Nat} (hm : m ≤ 8) (hf : Fam m l) :
    (CirAx l → madeE m (cmp m (blk m l)) (N (cirL m (cmp m (blk m l)))) (N l) = 0 ∧ cmp m (blk m l) = bigS (noneL m l)) ∧ (¬ CirAx l → madeE m (cmp m (blk m l)) (N (cirL m (cmp m (blk m l)))) (N l) = 3) := by
  refine ⟨fun h => ?_, fun h => madeE_three fun c => h ?_⟩
  · obtain ⟨bs, h1, h2, h3, h4⟩ := cir_makes hm hf h
    have e : cmp m (blk m l) = bs := by
      have := of_cir hm h1 h2
      rw [h3] at this
      exact this
    have e2 : noneL m l = indL m bs := by
      unfold noneL indL
      refine List.filter_congr fun s hs => ?_
      have := h4 s (List.mem_range.1 hs)
      rw [Bool.eq_iff_iff, beq_iff_eq, this]
      simp
    rw [e, e2, big_ind hm h1 h2]
    exact ⟨madeE_zero hm h1 h2 h3, rfl⟩
  · obtain ⟨_, h2, h3⟩ := madeE_of c
    have := N_inj h3
    rw [← this]
    exact cir_ax hm h2
theorem hyp_link {m : Nat} {l : List Nat} (hm : m ≤ 8) (hf : Fam m l) :
    (HypAx m l → madeE m (blk m (cmp m l)) (N ((List.range (2 ^ m)).filter (hypB (rk (blk m (cmp m l))) m))) (N l) = 0) ∧ (¬ HypAx m l → madeE m (blk m (cmp m l)) (N ((List.range (2 ^ m)).filter (hypB (rk (blk m (cmp m l))) m))) (N l) = 3) := by
  refine ⟨fun h => ?_, fun h => madeE_three fun c => h ?_⟩
  · obtain ⟨bs, h1, h2, h3⟩ := hyp_makes hm hf h
    have e : blk m (cmp m l) = bs := by
      have := of_hyp hm h1 h2
      rw [h3] at this
      exact this
    rw [e]
    exact madeE_zero hm h1 h2 h3
  · obtain ⟨h1, h2, h3⟩ := madeE_of c
    have := N_inj h3
    rw [← this]
    exact hyp_ax hm h1 h2
theorem flat_link {m : Nat} {l : List Nat} (hm : m ≤ 8) (hf : Fam m l) :
    (FlatAx m l → madeE m (basFl m l) (N (flatL m (basFl m l))) (N l) = 0) ∧ (¬ FlatAx m l → madeE m (basFl m l) (N (flatL m (basFl m l))) (N l) = 3) := by
  refine ⟨fun h => ?_, fun h => madeE_three fun c => h ?_⟩
  · obtain ⟨bs, h1, h2, h3⟩ := flat_makes hm hf h
    have e : basFl m l = bs := by
      have := of_flat hm h1 h2
      unfold basFl
      rw [← (less_take (l := bs) hm).1, h3] at this
      exact this
    rw [e]
    exact madeE_zero hm h1 h2 h3
  · obtain ⟨_, h2, h3⟩ := madeE_of c
    have := N_inj h3
    rw [← this]
    exact flat_ax hm h2
end Go.Proofs.Ytfnifjkigknlgaa
