/- same.begin, same.eachOrder. -/
import Derived.Test.YthlmnhcnpffjdaaGreatOrdUQ
import Derived.Deep.OwnRows
namespace Go.Proofs.YthlmnhcnpffjdaaGreat
open Go.RowKit

theorem run_make_to (l c : Nat) (hlc : l ≤ c) (hc : c ≤ 256) (w : World) : (Instr.makeSlice 22 (.int .i64 (l : Int)) (.int .i64 (c : Int))).run Tryz.prog w = .ok (.slice (some ⟨w.heap.size, 0, none⟩) l c) (w.alloc (.cells (madeCells #[.int .i64 0] c) 3)) := by
  obtain ⟨i0, hi, hz0, hz1, hz2⟩ := info_parts Tryz.infoInt
  have h := run_make (P := Tryz.prog) w 22 3 i0 (.int .i64 0) Tryz.underlying22 hi hz0 .i64 .i64 l c (by omega) (by omega) (by rw [hz2]; omega) (by omega)
  simp only [Int.toNat_natCast, hz1, Nat.mul_one] at h
  exact h
theorem own_made {B b c : Nat} {w : World} (h : w.heap[b]? = some (.cells (madeCells #[.int .i64 0] c) 3 (0, 0))) (hB : B ≤ b) (hc : c ≤ 256) (l : List Nat) (hl : l = [] ∨ (l = [0] ∧ 1 ≤ c)) : Own B w (.slice (some ⟨b, 0, none⟩) l.length c) l := by
  refine ⟨by rw [V_len, Nat.mul_one], .inr ⟨b, c, _, rfl, hB, h, ?_, by unfold maxLen; omega, by rw [size_madeCells, Nat.mul_one], ?_⟩⟩
  · rcases hl with rfl | ⟨rfl, h1⟩
    · exact Nat.zero_le _
    · exact h1
  · rcases hl with rfl | ⟨rfl, h1⟩
    · rfl
    · obtain ⟨c, rfl⟩ : ∃ c', c = c' + 1 := ⟨c - 1, by omega⟩
      simp only [madeCells, Array.toList_map, Array.toList_range, List.range_succ_eq_map]
      rfl
theorem three (w : World) (x y z : Obj) : (((w.alloc x).alloc y).alloc z).heap[w.heap.size]? = some x ∧ (((w.alloc x).alloc y).alloc z).heap[w.heap.size + 1]? = some y ∧ (((w.alloc x).alloc y).alloc z).heap[w.heap.size + 1 + 1]? = some z := by
  refine ⟨?_, ?_, ?_⟩
  · rw [Below.heap_alloc _ _ _ (by simp; omega), Below.heap_alloc _ _ _ (by simp)]
    exact World.alloc_heap_new w x
  · rw [Below.heap_alloc _ _ _ (by simp)]
    have := World.alloc_heap_new (w.alloc x) y
    rwa [World.size_alloc] at this
  · have := World.alloc_heap_new ((w.alloc x).alloc y) z
    rwa [World.size_alloc, World.size_alloc] at this
set_option maxHeartbeats 1000000 in
theorem begin_ok (n : Nat) (w : World) (hn : n ≤ 8) :
    Calls Tryz.prog 35 #[.int .i64 n] w fun e w' => ∃ gN gI, e = .returned (ordV gN gI n []) ∧ OrdAt w.heap.size w' gN gI n [] ∧ gN ≠ gI ∧ Below w.heap.size w w' := by
  obtain ⟨T, HT, hT2, hT⟩ : ∃ T : Nat, Hid (2 ^ n = T) ∧ T ≤ 256 ∧ wrap64 (2 ^ n) = (T : Int) := ⟨2 ^ n, Eq.refl (2 ^ n), (pow_wrap _ hn).2, (pow_wrap _ hn).1⟩
  have hT1 : 1 ≤ T := by rw [← HT.out]; exact Nat.one_le_two_pow
  have hpw : IntKind.i64.wrap (2 ^ n) = (T : Int) := by rw [show (2 : Int) ^ n = ((2 ^ n : Nat) : Int) by simp, HT.out]; exact wrap_i64_nat _ (by omega)
  have m0 := fun w => run_make_to 0 n (Nat.zero_le _) (by omega) w
  have m1 := fun w => run_make_to 1 T hT1 hT2 w
  rw [show ((0 : Nat) : Int) = 0 from rfl] at m0
  rw [show ((1 : Nat) : Int) = 1 from rfl] at m1
  go_enter Tryz.func35, Tryz.ntmps35
  go_wp2_with fail
  go_region_law fail
  · have h3 := three w (.cells #[.slice (some ⟨w.heap.size + 1, 0, none⟩) 0 n, .slice (some ⟨w.heap.size + 1 + 1, 0, none⟩) 1 T] 58) (.cells (madeCells #[.int .i64 0] n) 3) (.cells (madeCells #[.int .i64 0] T) 3)
    have hB : Hid (Below w.heap.size w (((w.alloc (.cells #[.slice (some ⟨w.heap.size + 1, 0, none⟩) 0 n, .slice (some ⟨w.heap.size + 1 + 1, 0, none⟩) 1 T] 58)).alloc (.cells (madeCells #[.int .i64 0] n) 3)).alloc (.cells (madeCells #[.int .i64 0] T) 3)).drew) := ((((Below.refl _ _).alloc (Nat.le_refl _) _).alloc (by simp) _).alloc (by simp; omega) _).drew
    revert h3 hB
    generalize (((w.alloc (.cells #[.slice (some ⟨w.heap.size + 1, 0, none⟩) 0 n, .slice (some ⟨w.heap.size + 1 + 1, 0, none⟩) 1 T] 58)).alloc (.cells (madeCells #[.int .i64 0] n) 3)).alloc (.cells (madeCells #[.int .i64 0] T) 3)) = W
    rintro ⟨b0, b1, b2⟩ hB
    have O1 : Hid (OrdAt w.heap.size W.drew (w.heap.size + 1) (w.heap.size + 1 + 1) n []) := ⟨own_made (w := W.drew) b1 (by omega) (by omega) [] (.inl rfl), by
      show Own _ _ (.slice _ 1 (2 ^ n)) [0]
      rw [HT.out]
      exact own_made (w := W.drew) b2 (by omega) hT2 [0] (.inr ⟨rfl, hT1⟩)⟩
    obtain ⟨c0, c1, -, -⟩ := two_cells (w := W.drew) b0
    clear m0 m1
    go_wp2_with fail
    refine bodyPost_ret (v := .agg #[.slice (some ⟨w.heap.size + 1, 0, none⟩) 0 n, .slice (some ⟨w.heap.size + 1 + 1, 0, none⟩) 1 T]) ?_ rfl ⟨w.heap.size + 1, w.heap.size + 1 + 1, by rw [← HT.out]; rfl, O1.out, by omega, hB.out⟩
    simp [results, Tryz.f35, go_sem, c0, c1]
  · have h3 := three w (.cells #[.slice (some ⟨w.heap.size + 1 + 1, 0, none⟩) 0 n, .slice (some ⟨w.heap.size + 1, 0, none⟩) 1 T] 58) (.cells (madeCells #[.int .i64 0] T) 3) (.cells (madeCells #[.int .i64 0] n) 3)
    have hB : Hid (Below w.heap.size w (((w.alloc (.cells #[.slice (some ⟨w.heap.size + 1 + 1, 0, none⟩) 0 n, .slice (some ⟨w.heap.size + 1, 0, none⟩) 1 T] 58)).alloc (.cells (madeCells #[.int .i64 0] T) 3)).alloc (.cells (madeCells #[.int .i64 0] n) 3)).drew) := ((((Below.refl _ _).alloc (Nat.le_refl _) _).alloc (by simp) _).alloc (by simp; omega) _).drew
    revert h3 hB
    generalize (((w.alloc (.cells #[.slice (some ⟨w.heap.size + 1 + 1, 0, none⟩) 0 n, .slice (some ⟨w.heap.size + 1, 0, none⟩) 1 T] 58)).alloc (.cells (madeCells #[.int .i64 0] T) 3)).alloc (.cells (madeCells #[.int .i64 0] n) 3)) = W
    rintro ⟨b0, b1, b2⟩ hB
    have O1 : Hid (OrdAt w.heap.size W.drew (w.heap.size + 1 + 1) (w.heap.size + 1) n []) := ⟨own_made (w := W.drew) b2 (by omega) (by omega) [] (.inl rfl), by
      show Own _ _ (.slice _ 1 (2 ^ n)) [0]
      rw [HT.out]
      exact own_made (w := W.drew) b1 (by omega) hT2 [0] (.inr ⟨rfl, hT1⟩)⟩
    obtain ⟨c0, c1, -, -⟩ := two_cells (w := W.drew) b0
    clear m0 m1
    go_wp2_with fail
    refine bodyPost_ret (v := .agg #[.slice (some ⟨w.heap.size + 1 + 1, 0, none⟩) 0 n, .slice (some ⟨w.heap.size + 1, 0, none⟩) 1 T]) ?_ rfl ⟨w.heap.size + 1 + 1, w.heap.size + 1, by rw [← HT.out]; rfl, O1.out, by omega, hB.out⟩
    simp [results, Tryz.f35, go_sem, c0, c1]
end Go.Proofs.YthlmnhcnpffjdaaGreat
