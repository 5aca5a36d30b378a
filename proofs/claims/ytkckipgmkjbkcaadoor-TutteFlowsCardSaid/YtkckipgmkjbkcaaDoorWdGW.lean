/- the digits and the text of a number of 128 bits. -/
import Derived.Test.YtkckipgmkjbkcaaDoorWdDW
import Derived.Lib.ItoaNum
namespace Go.Proofs.YtkckipgmkjbkcaaDoor
open Go.RowKit Go.Lib

def lenV : Value → Nat
  | .slice _ n _ => n
  | _ => 0
theorem dgs_len : ∀ (k u : Nat), u < 10 ^ (k + 1) → (dgs u).length ≤ k + 1
  | 0, u, h => by rw [dgs_low (by simpa using h)]; simp
  | k + 1, u, h => by
    by_cases hu : u < 10
    · rw [dgs_low hu]; simp
    · rw [dgs_high hu]
      have := dgs_len k (u / 10) (by rw [Nat.div_lt_iff_lt_mul (by omega), ← Nat.pow_succ]; exact h)
      simp; omega
theorem dgs_ne (u : Nat) : dgs u ≠ [] := by
  by_cases hu : u < 10
  · rw [dgs_low hu]; simp
  · rw [dgs_high hu]; simp
theorem dgs_lt : ∀ (u : Nat) (d : Nat), d ∈ dgs u → d < 10 := fun u => by
  induction u using Nat.strongRecOn with
  | _ u ih =>
    intro d hd
    by_cases hu : u < 10
    · rw [dgs_low hu] at hd; simp at hd; omega
    · rw [dgs_high hu] at hd
      rcases List.mem_cons.1 hd with rfl | hd
      · omega
      · exact ih (u / 10) (by omega) d hd
end Go.Proofs.YtkckipgmkjbkcaaDoor

namespace Go.Proofs.YtkckipgmkjbkcaaDoor
open Go.RowKit Go.Lib

theorem decT_len {u : Nat} (h : u < 340282366920938463463374607431768211456) : (decT u).length ≤ 39 := by
  unfold decT
  have := dgs_len 38 u (by omega)
  simpa using this
/-- A whole number's 128 bits. -/
def zto (z : Int) : Nat := (z % 340282366920938463463374607431768211456).toNat
theorem zto_lt (z : Int) : zto z < 340282366920938463463374607431768211456 := by unfold zto; omega
/-- The text of a whole number. -/
def decZ (z : Int) : List UInt8 := if z < 0 then 45 :: decT (-z).toNat else decT z.toNat
theorem zto_add (x y : Int) : (zto x + zto y) % 340282366920938463463374607431768211456 = zto (x + y) := by unfold zto; omega
theorem zto_mul (x y : Int) : (zto x * zto y) % 340282366920938463463374607431768211456 = zto (x * y) := by
  unfold zto
  have h1 : ((((x % 340282366920938463463374607431768211456).toNat * (y % 340282366920938463463374607431768211456).toNat % 340282366920938463463374607431768211456 : Nat)) : Int) = x * y % 340282366920938463463374607431768211456 := by
    rw [Int.natCast_emod, Int.natCast_mul, Int.toNat_of_nonneg (Int.emod_nonneg _ (by omega)), Int.toNat_of_nonneg (Int.emod_nonneg _ (by omega))]
    exact (Int.mul_emod x y 340282366920938463463374607431768211456).symm
  omega
end Go.Proofs.YtkckipgmkjbkcaaDoor

namespace Go.Proofs.YtkckipgmkjbkcaaDoor

theorem decT_is (u : Nat) : Go.Lib.decDigits u = decT u := by
  induction u using Nat.strongRecOn with
  | _ u ih =>
    unfold decT
    by_cases h : u < 10
    · rw [Go.Lib.decDigits, _root_.dif_pos h, dgs_low h]; rfl
    · rw [Go.Lib.decDigits, _root_.dif_neg h, dgs_high h, ih (u / 10) (by omega)]
      unfold decT
      simp
theorem itoa_is (z : Int) : Go.Lib.itoa z = decZ z := by
  unfold Go.Lib.itoa decZ
  by_cases h : z < 0
  · rw [if_pos h, if_pos h, decT_is, show z.natAbs = (-z).toNat by omega]
  · rw [if_neg h, if_neg h, decT_is]
end Go.Proofs.YtkckipgmkjbkcaaDoor
