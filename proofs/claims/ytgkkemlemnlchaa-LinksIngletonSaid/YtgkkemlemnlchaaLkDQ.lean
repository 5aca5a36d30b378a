/- links.Cut, links.Most. -/
import Derived.Test.YtgkkemlemnlchaaLkCQ
namespace Go.Proofs.Ytgkkemlemnlchaa
open Go.RowKit

/-- What a good graph is. -/
theorem lnk_good {n s t : Int} {F : List (Int × Int)} (h : lnkE n F s t = 0) : ∃ m a b : Nat, n = m ∧ s = a ∧ t = b ∧ 1 ≤ m ∧ m ≤ 7 ∧ F.length ≤ 8 ∧ F.all (edgeB n) = true ∧ a < 2 ^ m ∧ b < 2 ^ m ∧ ∀ j, j < (natE F).length → ea (natE F) j < m ∧ eb (natE F) j < m := by
  unfold lnkE at h
  split at h
  · rename_i hg
    split at h
    · rename_i hs
      unfold graphR at hg
      split at hg
      · rename_i hgood
        obtain ⟨hn1, hn7, h8, hall⟩ := hgood
        obtain ⟨m, rfl⟩ := Int.eq_ofNat_of_zero_le (by omega : 0 ≤ n)
        have k1 := setR_n hs
        have k2 := setR_n h
        obtain ⟨a, rfl⟩ := Int.eq_ofNat_of_zero_le k1.2.2.1
        obtain ⟨b, rfl⟩ := Int.eq_ofNat_of_zero_le k2.2.2.1
        have e : ((2 ^ m : Nat) : Int) = (2 : Int) ^ m := by simp
        simp only [Int.toNat_natCast] at k1 k2
        refine ⟨m, a, b, rfl, rfl, rfl, by omega, by omega, h8, hall, by omega, by omega, fun j hj => ?_⟩
        rw [natE_len] at hj
        have hb := edge_in hall hj
        unfold ea eb
        rw [natE_at hj]
        show (F.getD j (0, 0)).1.toNat < m ∧ (F.getD j (0, 0)).2.toNat < m
        omega
      · cases hg
    · rename_i hs
      exact absurd h hs
  · rename_i hg
    exact absurd h hg
/-- The edges as they are followed. -/
def nxE (F : List (Int × Int)) : Nat → Nat := nxF (natE F) (natE F).length
theorem nxE_lt {m : Nat} {F : List (Int × Int)} (h : ∀ j, j < (natE F).length → ea (natE F) j < m ∧ eb (natE F) j < m) (v : Nat) : nxE F v < 2 ^ m := nx_lt (fun j hj => (h j hj).2) v _ (Nat.le_refl _)
end Go.Proofs.Ytgkkemlemnlchaa
