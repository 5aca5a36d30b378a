/- Linear's independent sets are those of a matroid. -/
import Derived.Test.YtlmpeacgjafcjaaKLlQ
namespace Go.Proofs.Ytlmpeacgjafcjaa
open Go.RowKit

theorem pick_at (o : Nat → Nat → Int) (s n k : Nat) (hk : k < ((List.range n).filter fun i => s.testBit i).length) : ((pickL o s n).getD k fun _ => 0) = o (((List.range n).filter fun i => s.testBit i)[k]) := by
  unfold pickL
  simp [List.getD, hk]
theorem fore_pick (o : Nat → Nat → Int) (s n i : Nat) (hi : i < ((List.range n).filter fun i => s.testBit i).length) (x : Nat → Int) : Fore (fun k => (pickL o s n).getD k fun _ => 0) i x ↔ ∃ j, (lo s (((List.range n).filter fun i => s.testBit i)[i])).testBit j = true ∧ x = o j := by
  have hp : (((List.range n).filter fun i => s.testBit i)).Pairwise (· < ·) := List.Pairwise.filter _ List.pairwise_lt_range
  have hm : ∀ j, j ∈ ((List.range n).filter fun i => s.testBit i) ↔ j < n ∧ s.testBit j = true := fun j => by simp [List.mem_filter]
  have hat := pick_at o s n
  generalize (List.range n).filter (fun i => s.testBit i) = F at *
  rw [List.pairwise_iff_getElem] at hp
  constructor
  · rintro ⟨j, hj, rfl⟩
    refine ⟨F[j], ?_, hat j (by omega)⟩
    rw [lo_bit]
    have h1 := (hm F[j]).1 (List.getElem_mem _)
    have h2 := hp j i (by omega) hi hj
    simp [h1.2, h2]
  · rintro ⟨j, hj, rfl⟩
    rw [lo_bit] at hj
    simp only [Bool.and_eq_true, decide_eq_true_eq] at hj
    have hn := ((hm F[i]).1 (List.getElem_mem _)).1
    obtain ⟨k, hk, e⟩ := List.mem_iff_getElem.1 ((hm j).2 ⟨by omega, by first | exact hj.1 | exact hj.2⟩)
    refine ⟨k, ?_, by rw [← e]; exact (hat k hk).symm⟩
    rcases Nat.lt_trichotomy k i with h | h | h
    · exact h
    · subst h; omega
    · have := hp i k hi hk h
      omega
/-- Columns are free just if none hangs on those ahead. -/
theorem lin_iff {p : Int} (hp : isP p) {R : List (List Int)} (hin : ∀ j i, 0 ≤ mtF R j i ∧ mtF R j i < p) {n s : Nat} (hn : n ≤ 8) (hs : s < 2 ^ n) : linB p R n s = (depR n (depC p (mtF R)) s == pop s) := by
  rw [Bool.eq_iff_iff, beq_iff_eq, Dep.ind hn hs]
  unfold linB freeC
  rw [freeTo_iff, elim_free hp (fun k r => by
    by_cases hk : k < ((List.range n).filter fun i => s.testBit i).length
    · rw [pick_at _ _ _ _ hk]; exact hin _ _
    · have : ((pickL (mtF R) s n).getD k fun _ => 0) = fun _ => 0 := by
        unfold pickL
        simp [List.getD, hk]
      rw [this]
      have := hp.pos
      show 0 ≤ (0 : Int) ∧ (0 : Int) < p
      omega)]
  have hl : (pickL (mtF R) s n).length = ((List.range n).filter fun i => s.testBit i).length := by unfold pickL; rw [List.length_map]
  rw [hl]
  have hsp : ∀ i (hi : i < ((List.range n).filter fun i => s.testBit i).length), Span p (Fore (fun k => (pickL (mtF R) s n).getD k fun _ => 0) i) ((pickL (mtF R) s n).getD i fun _ => 0) ↔ depC p (mtF R) (lo s (((List.range n).filter fun i => s.testBit i)[i])) (((List.range n).filter fun i => s.testBit i)[i]) := fun i hi => by
    unfold depC
    rw [pick_at _ _ _ _ hi]
    have : Fore (fun k => (pickL (mtF R) s n).getD k fun _ => 0) i = fun x => ∃ j, (lo s (((List.range n).filter fun i => s.testBit i)[i])).testBit j = true ∧ x = mtF R j := funext fun x => propext (fore_pick (mtF R) s n i hi x)
    rw [this]
  constructor
  · intro h i hi hb
    obtain ⟨k, hk, e⟩ := List.mem_iff_getElem.1 (show i ∈ (List.range n).filter fun i => s.testBit i by simp [List.mem_filter, hi, hb])
    have h1 := h k hk
    rw [hsp k hk, e] at h1
    exact h1
  · intro h i hi
    rw [hsp i hi]
    have := List.getElem_mem hi
    rw [List.mem_filter, List.mem_range] at this
    exact h _ this.1 this.2
theorem lin_basR {p : Int} (hp : isP p) {R : List (List Int)} (hin : ∀ j i, 0 ≤ mtF R j i ∧ mtF R j i < p) {n : Nat} (hn : n ≤ 8) : bigL n (fun s => linB p R n s) = basR n (depR n (depC p (mtF R))) :=
  ofInd_eq hn ((depC_dep hp (mtF R) n).rkOn hn) fun _ hs => lin_iff hp hin hn hs
theorem lin_bas {p : Int} (hp : isP p) {R : List (List Int)} (hin : ∀ j i, 0 ≤ mtF R j i ∧ mtF R j i < p) {n : Nat} (hn : n ≤ 8) : Bas (bigL n fun s => linB p R n s) := by
  rw [lin_basR hp hin hn]
  exact ((depC_dep hp (mtF R) n).rkOn hn).bas hn
theorem graph_basR {E : List (Nat × Nat)} (hn : E.length ≤ 8) (hE : ∀ j, j < E.length → ea E j < 7 ∧ eb E j < 7) : bigL E.length (fun s => !ringB E s) = basR E.length (depR E.length (depG E)) :=
  ofInd_eq hn ((depG_dep E E.length).rkOn hn) fun _ hs => ring_iff hn hE hs
theorem graph_bas {E : List (Nat × Nat)} (hn : E.length ≤ 8) (hE : ∀ j, j < E.length → ea E j < 7 ∧ eb E j < 7) : Bas (bigL E.length fun s => !ringB E s) := by
  rw [graph_basR hn hE]
  exact ((depG_dep E E.length).rkOn hn).bas hn
end Go.Proofs.Ytlmpeacgjafcjaa
