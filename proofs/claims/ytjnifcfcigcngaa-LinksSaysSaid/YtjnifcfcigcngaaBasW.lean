/- axioms.Check. -/
import Derived.Test.YtjnifcfcigcngaaExch2Q
import Derived.Test.YtjnifcfcigcngaaFamQ
namespace Go.Proofs.Ytjnifcfcigcngaa
open Go.RowKit

/-- What Check answers. -/
def chkR (n : Int) (zs : List Int) : Int := if famR n zs ≠ 0 then 1 else if zs = [] ∨ oneB (zs.map Int.toNat) = false then 1 else if exchB (zs.map Int.toNat) = true then 0 else 3
theorem N_back (l : List Nat) : (N l).map Int.toNat = l := by
  unfold N
  rw [List.map_map]
  conv => rhs; rw [← List.map_id l]
  exact List.map_congr_left fun a _ => by simp
theorem famR_01 (n : Int) (zs : List Int) : famR n zs = 0 ∨ famR n zs = 1 := by unfold famR; split <;> simp

end Go.Proofs.Ytjnifcfcigcngaa

namespace Go.Proofs.Ytjnifcfcigcngaa
open Go.RowKit

theorem give_iff {p : Nat → Bool} {a b : Nat} (ha : a < 256) (hb : b < 256) : giveB p a b = true ↔ ∀ x, a.testBit x = true → b.testBit x = false → ∃ y, b.testBit y = true ∧ a.testBit y = false ∧ p (rm a x ||| 2 ^ y) = true := by
  unfold giveB takeB
  simp only [List.all_eq_true, List.any_eq_true, mem_els (dif_lt ha), mem_els (dif_lt hb), dif_bit, Bool.and_eq_true, Bool.not_eq_true']
  constructor
  · intro h x h1 h2
    obtain ⟨y, h3, h4⟩ := h x ⟨h1, h2⟩
    exact ⟨y, h3.1, h3.2, h4⟩
  · intro h x h1
    obtain ⟨y, h3, h4, h5⟩ := h x h1.1 h1.2
    exact ⟨y, ⟨h3, h4⟩, h5⟩
theorem one_iff {l : List Nat} : oneB l = true ↔ ∀ a ∈ l, ∀ b ∈ l, pop a = pop b := by
  unfold oneB
  simp only [List.all_eq_true, beq_iff_eq]
  constructor
  · intro h a ha b hb
    rw [h a ha, h b hb]
  · intro h a ha
    cases l with
    | nil => cases ha
    | cons x l => exact h a ha x (by simp)
theorem bas_iff {l : List Nat} (hl : ∀ s ∈ l, s < 256) : Bas l ↔ l ≠ [] ∧ oneB l = true ∧ exchB l = true := by
  have hx : exchB l = true ↔ ∀ a ∈ l, ∀ b ∈ l, ∀ x, a.testBit x = true → b.testBit x = false → ∃ y, b.testBit y = true ∧ a.testBit y = false ∧ rm a x ||| 2 ^ y ∈ l := by
    unfold exchB
    simp only [List.all_eq_true]
    constructor
    · intro h a ha b hb
      have := (give_iff (hl a ha) (hl b hb)).1 (h a ha b hb)
      simpa only [memB, decide_eq_true_eq] using this
    · intro h a ha b hb
      refine (give_iff (hl a ha) (hl b hb)).2 ?_
      simpa only [memB, decide_eq_true_eq] using h a ha b hb
  rw [hx, one_iff]
  exact ⟨fun h => ⟨h.ne, h.size, h.exch⟩, fun h => ⟨hl, h.2.1, h.2.2, h.1⟩⟩
theorem chk_of {n : Int} {zs : List Int} (h : chkR n zs = 0) : ∃ (m : Nat) (l : List Nat), n = m ∧ m ≤ 8 ∧ zs = N l ∧ Fam m l ∧ Bas l := by
  unfold chkR at h
  split at h
  · cases h
  · rename_i hf
    have hf' : famR n zs = 0 := Classical.byContradiction fun e => hf e
    obtain ⟨m, l, rfl, hm, rfl, hfam⟩ := fam_of hf'
    refine ⟨m, l, rfl, hm, rfl, hfam, ?_⟩
    rw [N_back] at h
    split at h
    · cases h
    · rename_i h1
      split at h
      · rename_i h2
        refine (bas_iff (hfam.lt256 hm)).2 ⟨fun e => h1 (.inl (by subst e; rfl)), ?_, h2⟩
        cases ho : oneB l
        · exact absurd (.inr ho) h1
        · rfl
      · cases h
theorem chk_mk {m : Nat} {l : List Nat} (hm : m ≤ 8) (hf : Fam m l) (hb : Bas l) : chkR m (N l) = 0 := by
  obtain ⟨h1, h2, h3⟩ := (bas_iff (hf.lt256 hm)).1 hb
  unfold chkR
  rw [fam_mk hm hf, N_back, h2, h3]
  have : N l ≠ [] := fun e => h1 (by unfold N at e; simpa using e)
  simp [this]
end Go.Proofs.Ytjnifcfcigcngaa
