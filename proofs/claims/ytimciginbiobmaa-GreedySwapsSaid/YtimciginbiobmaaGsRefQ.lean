/- rotaref.Has of whatever number, rotaref.Within of whatever number, rotaref.Swapped. -/
import Derived.Test.YtimciginbiobmaaGrSQ
import Derived.Test.YtimciginbiobmaaThoseQ
namespace Go.Proofs.Ytimciginbiobmaa
open Go.RowKit

theorem HasZ_any (v : Value) (zs : List Int) (x : Int) (w : World) (h : Ints w v zs) :
    Calls Try.prog 33 #[v, .int .i64 x] w fun e w' => e = .returned (.bool (memZ x zs)) ∧ w' = w := by
  have HC := hid (ContainsZ_any v zs x w h)
  obtain ⟨a, cap, rfl, _, _⟩ := h
  go_enter Try.func33, Try.ntmps33
  go_wp2_with fail
  refine HC.out.mono ?_
  rintro e w1 ⟨rfl, rfl⟩
  go_wp2_with fail
  go_ret
  exact ⟨rfl, rfl⟩
/-- Are all elements of x in c? Of whatever number. -/
def wrB (x : Int) (c : Nat) : Bool := bits .or .i64 x (c : Int) == (c : Int)
theorem WithinZ_any (x : Int) (c : Nat) (w : World) : Calls Try.prog 35 #[.int .i64 x, .int .i64 c] w fun e w' => e = .returned (.bool (wrB x c)) ∧ w' = w := by
  go_enter Try.func35, Try.ntmps35
  go_wp2_with fail
  go_ret
  exact ⟨rfl, rfl⟩
theorem wrap_zero {n : Nat} (h : n < 2 ^ 64) : IntKind.i64.wrap (n : Int) = 0 ↔ n = 0 := by
  simp [IntKind.wrap, IntKind.bits, IntKind.signed]
  omega
theorem wrap_small {n c : Nat} (h : n < 2 ^ 64) (hc : c < 256) : IntKind.i64.wrap (n : Int) = (c : Int) ↔ n = c := by
  simp [IntKind.wrap, IntKind.bits, IntKind.signed]
  omega
/-- Both ask the same of a number that is none below 0; and none below 0 is within. -/
theorem wi_wr {x : Int} {c : Nat} (hc : c < 256) (h1 : -9223372036854775808 ≤ x) (h2 : x ≤ 9223372036854775807) : wiB x c = (decide (0 ≤ x) && wrB x c) ∧ (wiB x c = true → ∃ y : Nat, x = y ∧ subB y c = true) := by
  have hX : (BitVec.ofInt 64 x).toNat < 2 ^ 64 := (BitVec.ofInt 64 x).isLt
  have hC : (BitVec.ofInt 64 (c : Int)).toNat = c := ofInt_i64 c (by omega)
  have e1 : wiB x c = (decide ((BitVec.ofInt 64 x).toNat ^^^ ((BitVec.ofInt 64 x).toNat &&& c) = 0)) := by
    have hlt : ((BitVec.ofInt 64 x).toNat ^^^ ((BitVec.ofInt 64 x).toNat &&& c)) < 2 ^ 64 := Nat.xor_lt_two_pow hX (Nat.lt_of_le_of_lt Nat.and_le_left hX)
    have hb : bits .andNot .i64 x (c : Int) = IntKind.i64.wrap (((BitVec.ofInt 64 x).toNat ^^^ ((BitVec.ofInt 64 x).toNat &&& c) : Nat) : Int) := by
      show IntKind.i64.wrap ((BitVec.ofInt 64 x &&& ~~~BitVec.ofInt 64 (c : Int)).toNat : Int) = _
      rw [andNot_xor, BitVec.toNat_xor, BitVec.toNat_and, hC]
    unfold wiB
    rw [hb, Bool.eq_iff_iff, beq_iff_eq, decide_eq_true_eq]
    exact wrap_zero hlt
  have e2 : wrB x c = decide ((BitVec.ofInt 64 x).toNat ||| c = c) := by
    have hlt : ((BitVec.ofInt 64 x).toNat ||| c) < 2 ^ 64 := Nat.or_lt_two_pow hX (by omega)
    have hb : bits .or .i64 x (c : Int) = IntKind.i64.wrap (((BitVec.ofInt 64 x).toNat ||| c : Nat) : Int) := by
      show IntKind.i64.wrap ((BitVec.ofInt 64 x ||| BitVec.ofInt 64 (c : Int)).toNat : Int) = _
      rw [BitVec.toNat_or, hC]
    unfold wrB
    rw [hb, Bool.eq_iff_iff, beq_iff_eq, decide_eq_true_eq]
    exact wrap_small hlt hc
  have hs : ((BitVec.ofInt 64 x).toNat ^^^ ((BitVec.ofInt 64 x).toNat &&& c) = 0) ↔ subB (BitVec.ofInt 64 x).toNat c = true := by rw [subB_xor]; simp
  have hs2 : ((BitVec.ofInt 64 x).toNat ||| c = c) ↔ subB (BitVec.ofInt 64 x).toNat c = true := by
    constructor
    · intro h
      refine subB_iff.2 fun i hi => ?_
      have := congrArg (·.testBit i) h
      simp only [Nat.testBit_or, hi, Bool.true_or] at this
      exact this.symm
    · exact fun h => or_eq_of_sub h
  have hle : subB (BitVec.ofInt 64 x).toNat c = true → (BitVec.ofInt 64 x).toNat < 256 := fun h => sub_lt (n := 8) h hc
  have hval : (BitVec.ofInt 64 x).toNat < 256 → x = ((BitVec.ofInt 64 x).toNat : Int) := fun h => by
    rw [BitVec.toNat_ofInt] at h ⊢
    omega
  constructor
  · rw [e1, e2, Bool.eq_iff_iff, Bool.and_eq_true, decide_eq_true_eq, decide_eq_true_eq, decide_eq_true_eq, hs, hs2]
    exact ⟨fun h => ⟨by rw [hval (hle h)]; omega, h⟩, fun h => h.2⟩
  · rw [e1, decide_eq_true_eq, hs]
    exact fun h => ⟨_, hval (hle h), h⟩
end Go.Proofs.Ytimciginbiobmaa
