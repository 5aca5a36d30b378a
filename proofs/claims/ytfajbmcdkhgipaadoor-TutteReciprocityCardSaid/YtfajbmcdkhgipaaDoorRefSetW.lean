/- rotaref.Shifted. -/
import Derived.Test.YtfajbmcdkhgipaaDoorRefQ
import Derived.Test.YtfajbmcdkhgipaaDoorPlainAll
namespace Go.Proofs.YtfajbmcdkhgipaaDoor
open Go.RowKit

/-- The elements below i that stay. -/
def keptL (g i : Nat) : List Nat := (List.range i).filter fun j => !g.testBit j
theorem keptL_hit {g i : Nat} (h : g.testBit i = false) : keptL g (i + 1) = keptL g i ++ [i] := by unfold keptL; rw [List.range_succ, List.filter_append]; simp [h]
theorem keptL_miss {g i : Nat} (h : g.testBit i = true) : keptL g (i + 1) = keptL g i := by unfold keptL; rw [List.range_succ, List.filter_append]; simp [h]
theorem keptL_len (g i : Nat) : (keptL g i).length ≤ i := by
  have := List.length_filter_le (fun j => !g.testBit j) (List.range i)
  rwa [List.length_range] at this
theorem keptL_all {n : Nat} (hn : n ≤ 8) (g : Nat) : keptL g n = els (dif (2 ^ n - 1) g) := by
  refine sorted_ext (List.Pairwise.sublist List.filter_sublist List.pairwise_lt_range) (els_up _) fun j => ?_
  rw [mem_els (kept_lt hn g), dif_bit, full_bit]
  unfold keptL
  rw [List.mem_filter, List.mem_range]
  simp
theorem shf_ltk (xs : List Nat) (s : Nat) : shf xs s < 2 ^ xs.length := lt_of_bits fun i hi => by
  rw [shf_bit] at hi
  obtain ⟨x, h1, _⟩ := hi
  exact (List.getElem?_eq_some_iff.1 h1).1
end Go.Proofs.YtfajbmcdkhgipaaDoor

namespace Go.Proofs.YtfajbmcdkhgipaaDoor
open Go.RowKit

theorem All_any (n : Nat) (w : World) (hn : n ≤ 8) :
    Calls Tryd.prog 17 #[.int .i64 n] w fun e w' => e = .returned (.int .i64 (((2 ^ n : Nat) : Int) - 1)) ∧ w' = w := by
  obtain ⟨T, hT, HT, hT2⟩ : ∃ T : Nat, wrap64 (2 ^ n) = (T : Int) ∧ Hid (T = 2 ^ n) ∧ T ≤ 256 := ⟨2 ^ n, (pow_wrap _ hn).1, rfl, (pow_wrap _ hn).2⟩
  have h1 : 1 ≤ T := by rw [HT.out]; exact Nat.one_le_two_pow
  go_enter Tryd.func17, Tryd.ntmps17
  go_wp2
  go_ret
  exact ⟨ret_int (by rw [← HT.out]), rfl⟩

/-- Is s a set of n elements? -/
def setB (n s : Int) : Bool := decide (0 ≤ n ∧ n ≤ 8 ∧ 0 ≤ s ∧ s < 2 ^ n.toNat)
end Go.Proofs.YtfajbmcdkhgipaaDoor
