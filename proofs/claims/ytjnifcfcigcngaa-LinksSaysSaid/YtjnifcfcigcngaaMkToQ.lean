/- make with a length and a capacity. -/
import Derived.Test.YtjnifcfcigcngaaOwnQ
import Derived.Deep.OwnRows
namespace Go.Proofs.Ytjnifcfcigcngaa
open Go.RowKit

theorem run_make_to (l c : Nat) (hlc : l ≤ c) (hc : c ≤ 256) (w : World) : (Instr.makeSlice 43 (.int .i64 (l : Int)) (.int .i64 (c : Int))).run Try.prog w = .ok (.slice (some ⟨w.heap.size, 0, none⟩) l c) (w.alloc (.cells (madeCells #[.int .i64 0] c) 3)) := by
  obtain ⟨i0, hi, hz0, hz1, hz2⟩ := info_parts Try.infoInt
  have h := run_make (P := Try.prog) w 43 3 i0 (.int .i64 0) Try.underlying43 hi hz0 .i64 .i64 l c (by omega) (by omega) (by rw [hz2]; omega) (by omega)
  simp only [Int.toNat_natCast, hz1, Nat.mul_one] at h
  exact h
theorem own_made {B b c : Nat} {w : World} (h : w.heap[b]? = some (.cells (madeCells #[.int .i64 0] c) 3 (0, 0))) (hB : B ≤ b) (hc : c ≤ 256) (l : List Nat) (hl : l = [] ∨ (l = [0] ∧ 1 ≤ c)) : Own B w (.slice (some ⟨b, 0, none⟩) l.length c) l := by
  refine ⟨by rw [V_len, Nat.mul_one], .inr ⟨b, c, _, rfl, hB, h, ?_, by unfold maxLen; omega, by rw [size_madeCells, Nat.mul_one], ?_⟩⟩
  · rcases hl with rfl | ⟨rfl, h1⟩
    · exact Nat.zero_le _
    · exact h1
  · rcases hl with rfl | ⟨rfl, h1⟩
    · rfl
    · obtain ⟨c, rfl⟩ : ∃ c', c = c' + 1 := ⟨c - 1, by omega⟩
      simp only [madeCells, Array.toList_map, Array.toList_range, List.range_succ_eq_map]
      rfl
end Go.Proofs.Ytjnifcfcigcngaa
