/- slices.IndexFunc: the first that is not nought; kinds.areFree. -/
import Derived.Test.YtjnifcfcigcngaaKLnQ
import Derived.Test.YtjnifcfcigcngaaSieveQ
import Derived.Test.YtjnifcfcigcngaaOrdBQ
namespace Go.Proofs.Ytjnifcfcigcngaa
open Go.RowKit

/-- The first place that is not nought, or -1. -/
def firstI (zs : List Int) (k : Nat) : Int := if k < zs.length then (if zs.getD k 0 != 0 then (k : Int) else firstI zs (k + 1)) else -1
termination_by zs.length - k
theorem firstI_end {zs : List Int} {k : Nat} (h : ¬ k < zs.length) : firstI zs k = -1 := by rw [firstI, if_neg h]
theorem firstI_hit {zs : List Int} {k : Nat} (h : k < zs.length) (hz : zs.getD k 0 ≠ 0) : firstI zs k = k := by rw [firstI, if_pos h, if_pos (by simpa using hz)]
theorem firstI_miss {zs : List Int} {k : Nat} (h : k < zs.length) (hz : zs.getD k 0 = 0) : firstI zs k = firstI zs (k + 1) := by rw [firstI, if_pos h, if_neg (by simp only [hz]; decide)]
theorem first_lead (f : Nat → Int) : firstI ((List.range 6).map f) 0 = if leadN f = 6 then -1 else (leadN f : Int) := by
  have key : ∀ k, k ≤ 6 → (∀ r, r < k → f r = 0) → firstI ((List.range 6).map f) k = if leadN f = 6 then -1 else (leadN f : Int) := fun k hk => by
    induction hd : 6 - k generalizing k with
    | zero =>
      intro h0
      obtain rfl : k = 6 := by omega
      rw [firstI_end (by simp)]
      have : leadN f = 6 := Classical.byContradiction fun c => by
        obtain ⟨h1, h2⟩ := leadN_some c
        exact h2 (h0 _ h1)
      rw [if_pos this]
    | succ d ih =>
      intro h0
      have hlt : k < ((List.range 6).map f).length := by simp; omega
      have hg : ((List.range 6).map f).getD k 0 = f k := by simp [List.getD, show k < 6 by omega]
      by_cases hz : f k = 0
      · rw [firstI_miss hlt (by rw [hg]; exact hz)]
        exact ih (k + 1) (by omega) (by omega) fun r hr => by
          rcases Nat.lt_or_ge r k with h | h
          · exact h0 r h
          · obtain rfl : r = k := by omega
            exact hz
      · rw [firstI_hit hlt (by rw [hg]; exact hz)]
        have hl : leadN f = k := by
          have hne : leadN f ≠ 6 := fun e => hz (leadN_none e k (by omega))
          obtain ⟨h1, h2⟩ := leadN_some hne
          rcases Nat.lt_trichotomy (leadN f) k with h | h | h
          · exact absurd (h0 _ h) h2
          · exact h
          · exfalso
            unfold leadN at h
            cases e : (List.range 6).find? fun r => f r != 0 with
            | none =>
              have := List.find?_eq_none.1 e k (List.mem_range.2 (by omega))
              simp at this
              exact hz this
            | some x =>
              rw [e, Option.getD_some] at h
              have hh := List.find?_eq_some_iff_append.1 e
              obtain ⟨_, l1, l2, hab, has⟩ := hh
              have hmem : k ∈ l1 := by
                have hp : (l1 ++ x :: l2).Pairwise (· < ·) := by rw [← hab]; exact List.pairwise_lt_range
                have hk2 : k ∈ l1 ++ x :: l2 := by rw [← hab]; exact List.mem_range.2 (by omega)
                rw [List.mem_append, List.mem_cons] at hk2
                rcases hk2 with h3 | h3 | h3
                · exact h3
                · omega
                · rw [List.pairwise_append, List.pairwise_cons] at hp
                  have := hp.2.1.1 k h3
                  omega
              have := has k hmem
              simp at this
              exact hz this
        rw [if_neg (by omega), hl]
  exact key 0 (by omega) (fun r hr => by omega)
/-- A column is stored among columns. -/
def putC (W : World) (g k : Nat) (x : Nat → Int) : World := (((((W.setCell ⟨g, k * 6, none⟩ (.int .i64 (x 0))).setCell ⟨g, k * 6 + 1, none⟩ (.int .i64 (x 1))).setCell ⟨g, k * 6 + 2, none⟩ (.int .i64 (x 2))).setCell ⟨g, k * 6 + 3, none⟩ (.int .i64 (x 3))).setCell ⟨g, k * 6 + 4, none⟩ (.int .i64 (x 4))).setCell ⟨g, k * 6 + 5, none⟩ (.int .i64 (x 5))
theorem below_putC {B : Nat} {w W : World} {g k : Nat} (x : Nat → Int) (h : Below B w W) (hg : B ≤ g) : Below B w (putC W g k x) :=
  (((((h.setCell (p := ⟨g, k * 6, none⟩) hg _).setCell (p := ⟨g, k * 6 + 1, none⟩) hg _).setCell (p := ⟨g, k * 6 + 2, none⟩) hg _).setCell (p := ⟨g, k * 6 + 3, none⟩) hg _).setCell (p := ⟨g, k * 6 + 4, none⟩) hg _).setCell (p := ⟨g, k * 6 + 5, none⟩) hg _
def freeTo (p : Int) (o : Nat → Nat → Int) (L : Nat) : Bool := (List.range L).all fun i => leadN (elimV p o i i) != 6
theorem freeTo_iff (p : Int) (o : Nat → Nat → Int) (L : Nat) : freeTo p o L = true ↔ ∀ i, i < L → leadN (elimV p o i i) ≠ 6 := by
  unfold freeTo
  rw [List.all_eq_true]
  exact ⟨fun h i hi => by simpa using h i (List.mem_range.2 hi), fun h i hi => by simpa using h i (List.mem_range.1 hi)⟩
end Go.Proofs.Ytjnifcfcigcngaa
