/- Package wide: whole numbers of 128 bits: Of, Plus, Times, minus, isLess, isBelowNought, doubled. -/
import Derived.Test.YtfajbmcdkhgipaaDoorOwnW
import Derived.Lib.Mul64
import Derived.Laws.Bits64b
import Derived.Laws.Externs
import Derived.Shelf.Spec.BitsCarry
import Derived.Shelf.Bits.Mul64
namespace Go.Proofs.YtfajbmcdkhgipaaDoor
open Go.RowKit Go.Lib

/-- A number of 128 bits, as it lies. -/
def wv (u : Nat) : Value := .agg #[.int .u64 (u / 18446744073709551616 : Nat), .int .u64 (u % 18446744073709551616 : Nat)]
theorem wv_parts (h l : Nat) (hl : l < 18446744073709551616) : Value.agg #[.int .u64 (h : Nat), .int .u64 (l : Nat)] = wv (h * 18446744073709551616 + l) := by
  unfold wv
  rw [show (h * 18446744073709551616 + l) / 18446744073709551616 = h by omega, show (h * 18446744073709551616 + l) % 18446744073709551616 = l by omega]
theorem wv_open (a : Nat) (ha : a < 340282366920938463463374607431768211456) : ∃ h l : Nat, h < 18446744073709551616 ∧ l < 18446744073709551616 ∧ Hid (a = h * 18446744073709551616 + l) ∧ wv a = .agg #[.int .u64 (h : Nat), .int .u64 (l : Nat)] :=
  ⟨a / 18446744073709551616, a % 18446744073709551616, by omega, by omega, by show _ = _; omega, rfl⟩
theorem wv_shut {h l u : Nat} (hl : l < 18446744073709551616) (e : u = h * 18446744073709551616 + l) : Value.agg #[.int .u64 (h : Nat), .int .u64 (l : Nat)] = wv u := by rw [wv_parts h l hl, e]
theorem or_even (a c : Nat) (ha : a < 9223372036854775808) (hc : c ≤ 1) : bits .or .u64 ((2 * a : Nat) : Int) (c : Int) = ((2 * a + c : Nat) : Int) := by
  have h := bits_or_u64_nat (2 * a) c (by omega) (by omega)
  rw [h]
  have := Nat.two_pow_add_eq_or_of_lt (i := 1) (b := c) (by omega) a
  rw [Nat.pow_one] at this
  rw [← this]
theorem below3 (w : World) (x y z : Obj) : Below w.heap.size w (((w.alloc x).alloc y).alloc z) := (((Below.refl _ _).alloc (Nat.le_refl _) _).alloc (by simp) _).alloc (by simp; omega) _
end Go.Proofs.YtfajbmcdkhgipaaDoor
