/- The text of a whole number here is the text that strconv.Itoa gives. -/
import Derived.Test.YtkckipgmkjbkcaaDoorWdFW
import Derived.Lib.ItoaNum
namespace Go.Proofs.YtkckipgmkjbkcaaDoor

theorem decT_is (u : Nat) : Go.Lib.decDigits u = decT u := by
  induction u using Nat.strongRecOn with
  | _ u ih =>
    unfold decT
    by_cases h : u < 10
    · rw [Go.Lib.decDigits, _root_.dif_pos h, dgs_low h]; rfl
    · rw [Go.Lib.decDigits, _root_.dif_neg h, dgs_high h, ih (u / 10) (by omega)]
      unfold decT
      simp
theorem itoa_is (z : Int) : Go.Lib.itoa z = decZ z := by
  unfold Go.Lib.itoa decZ
  by_cases h : z < 0
  · rw [if_pos h, if_pos h, decT_is, show z.natAbs = (-z).toNat by omega]
  · rw [if_neg h, if_neg h, decT_is]
end Go.Proofs.YtkckipgmkjbkcaaDoor
