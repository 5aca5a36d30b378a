/- rotalaw.Same[int64], rotalaw.longs; flats.Levels, Independent. -/
import Derived.Test.YtkckipgmkjbkcaaDoorFlCW
import Derived.Test.YtkckipgmkjbkcaaDoorEqW
import Derived.Test.YtkckipgmkjbkcaaDoorWdAW
import Derived.Deep.OwnRows
namespace Go.Proofs.YtkckipgmkjbkcaaDoor
open Go.RowKit

theorem RkZ.ints {w : World} {v : Value} {T : Nat} {f : Nat → Int} (h : RkZ w v T f) (hT : T ≤ 17592186044416) : Ints w v ((List.range T).map f) := by
  obtain ⟨b, off, cap, rfl, h1, h2⟩ := h
  refine ⟨_, cap, by simp, by simpa using hT, fun _ => ⟨b, off, rfl, h1, fun i hi => ?_⟩⟩
  have hi' : i < T := by simpa using hi
  rw [h2 i hi']
  simp [List.getD, hi']
theorem RkAt.intsF {w : World} {v : Value} {T : Nat} {f : Nat → Nat} (h : RkAt w v T f) (hT : T ≤ 17592186044416) : Ints w v (N ((List.range T).map f)) := by
  obtain ⟨b, off, cap, rfl, h1, h2⟩ := h
  refine ⟨_, cap, by simp [N], by simpa [N] using hT, fun _ => ⟨b, off, rfl, h1, fun i hi => ?_⟩⟩
  have hi' : i < T := by simpa [N] using hi
  rw [h2 i hi', N_getD]
  simp [List.getD, hi']
set_option maxHeartbeats 800000 in
theorem SameL_any (u v : Value) (zs ys : List Int) (w : World) (h1 : Ints w u zs) (h2 : Ints w v ys) :
    Calls Tryd.prog 5 #[u, v] w fun e w' => e = .returned (.bool (decide (zs = ys))) ∧ Below w.heap.size w w' := by
  obtain ⟨a, cap, rfl, hl, hc⟩ := h1
  obtain ⟨a2, cap2, rfl, hl2, hc2⟩ := h2
  by_cases hlen : zs.length = ys.length
  · have hne : ((zs.length : Int) != (ys.length : Int)) = false := by rw [hlen]; simp
    have HL := hid hlen
    rw [← hlen] at hl2 hc2 hne ⊢
    clear hlen
    go_enter Tryd.func5, Tryd.ntmps5
    go_wp2_with fail
    go_loopw [13] (fun i wr => ∃ k : Nat, k ≤ zs.length ∧ i = .int .i64 k ∧ Below w.heap.size w wr ∧ Hid (decide (zs = ys) = decide (zs.drop k = ys.drop k))) (fun i _ => zs.length - (intOf i).toNat)
    case atStart => exact ⟨0, Nat.zero_le _, rfl, Below.refl _ _, rfl⟩
    case round =>
      obtain ⟨k, hk, rfl, hnx, R⟩ := hrel
      by_cases hlt : k < zs.length
      · obtain ⟨b, off, rfl, hb, hcell⟩ := hc (by omega)
        obtain ⟨b2, off2, rfl, hb2, hcell2⟩ := hc2 (by omega)
        have hck : wr.cell? ⟨b, off + k, none⟩ = some (.int .i64 (zs.getD k 0)) := (hnx.cell (p := ⟨b, off + k, none⟩) hb).trans (hcell k hlt)
        have hck2 : wr.cell? ⟨b2, off2 + k, none⟩ = some (.int .i64 (ys.getD k 0)) := (hnx.cell (p := ⟨b2, off2 + k, none⟩) hb2).trans (hcell2 k hlt)
        have D := hid (same_step HL.out hlt)
        have hki : (k : Int) < (zs.length : Int) := by omega
        clear hcell hcell2 hc hc2
        generalize zs.getD k 0 = x at *
        generalize ys.getD k 0 = y at *
        by_cases hxy : x = y
        · have hxy' : (x != y) = false := by rw [hxy]; simp
          have HX := hid hxy
          clear hxy
          go_wp2_with fail
          go_quiet (fail)
          go_wp2_with fail
          go_roundw
          case rel => exact ⟨k + 1, by omega, by go_num, below_drewN hnx _, by show decide (zs = ys) = _; rw [R.out, D.out, HX.out]; simp⟩
          case measure => simp [intOf]; omega
        · have hxy' : (x != y) = true := by rw [bne_iff_ne]; exact hxy
          go_wp2_with fail
          go_quiet (fail)
          go_wp2_with fail
          go_ret
          exact ⟨ret_bool (by rw [R.out, D.out]; simp [hxy]), below_drewN hnx _⟩
      · have hz : zs.drop k = [] := List.drop_of_length_le (by omega)
        have hy : ys.drop k = [] := List.drop_of_length_le (by have := HL.out; omega)
        have F : Hid (decide (zs = ys) = true) := by show decide (zs = ys) = true; rw [R.out, hz, hy]; rfl
        clear hz hy
        go_wp2_with fail
        go_ret
        exact ⟨ret_bool F.out.symm, hnx⟩
  · have hne : ((zs.length : Int) != (ys.length : Int)) = true := by rw [bne_iff_ne]; omega
    have F : Hid (decide (zs = ys) = false) := by show decide (zs = ys) = false; simp; intro h; exact hlen (by rw [h])
    go_enter Tryd.func5, Tryd.ntmps5
    go_wp2_with fail
    go_ret
    exact ⟨ret_bool F.out.symm, Below.refl _ _⟩
end Go.Proofs.YtkckipgmkjbkcaaDoor

namespace Go.Proofs.YtkckipgmkjbkcaaDoor
open Go.RowKit

/-- What Pick picks. -/
def pickN (p : Int) (n : Nat) : Nat := ((if p < 0 then -(p + 1) else p) % (n : Int)).toNat
theorem pickN_lt (p : Int) {n : Nat} (hn : 0 < n) : pickN p n < n := by
  unfold pickN
  have := Int.emod_nonneg (if p < 0 then -(p + 1) else p) (show (n : Int) ≠ 0 by omega)
  have := Int.emod_lt_of_pos (if p < 0 then -(p + 1) else p) (show (0 : Int) < n by omega)
  omega
theorem PickG_any (p : Int) (n : Nat) (w : World) (h1 : -9223372036854775808 ≤ p) (h2 : p ≤ 9223372036854775807) (hn : 0 < n) (hn2 : n ≤ 256) :
    Calls Tryd.prog 6 #[.int .i64 p, .int .i64 n] w fun e w' => e = .returned (.int .i64 (pickN p n)) ∧ w' = w := by
  have hz : ((n : Int) == 0) = false := by rw [beq_eq_false_iff_ne]; omega
  have PN : Hid (pickN p n = ((if p < 0 then -(p + 1) else p) % (n : Int)).toNat) := rfl
  by_cases hp : p < 0
  · rw [if_pos hp] at PN
    generalize pickN p n = r at *
    go_enter Tryd.func6, Tryd.ntmps6
    go_wp2
    go_ret
    refine ⟨ret_int ?_, rfl⟩
    rw [PN.out]
    have e : -((p + 1).tmod (n : Int)) = (-(p + 1)) % (n : Int) := by rw [← Int.neg_tmod, Int.tmod_eq_emod_of_nonneg (by omega)]
    have := Int.emod_nonneg (-(p + 1)) (show (n : Int) ≠ 0 by omega)
    omega
  · rw [if_neg hp] at PN
    generalize pickN p n = r at *
    go_enter Tryd.func6, Tryd.ntmps6
    go_wp2
    go_ret
    refine ⟨ret_int ?_, rfl⟩
    rw [PN.out]
    have := Int.emod_nonneg p (show (n : Int) ≠ 0 by omega)
    omega
end Go.Proofs.YtkckipgmkjbkcaaDoor

namespace Go.Proofs.YtkckipgmkjbkcaaDoor
open Go.RowKit

theorem run_make_to (l c : Nat) (hlc : l ≤ c) (hc : c ≤ 256) (w : World) : (Instr.makeSlice 33 (.int .i64 (l : Int)) (.int .i64 (c : Int))).run Tryd.prog w = .ok (.slice (some ⟨w.heap.size, 0, none⟩) l c) (w.alloc (.cells (madeCells #[.int .i64 0] c) 3)) := by
  obtain ⟨i0, hi, hz0, hz1, hz2⟩ := info_parts Tryd.infoInt
  have h := run_make (P := Tryd.prog) w 33 3 i0 (.int .i64 0) Tryd.underlying33 hi hz0 .i64 .i64 l c (by omega) (by omega) (by rw [hz2]; omega) (by omega)
  simp only [Int.toNat_natCast, hz1, Nat.mul_one] at h
  exact h
theorem own_made {B b c : Nat} {w : World} (h : w.heap[b]? = some (.cells (madeCells #[.int .i64 0] c) 3 (0, 0))) (hB : B ≤ b) (hc : c ≤ 256) (l : List Nat) (hl : l = [] ∨ (l = [0] ∧ 1 ≤ c)) : Own B w (.slice (some ⟨b, 0, none⟩) l.length c) l := by
  refine ⟨by rw [V_len, Nat.mul_one], .inr ⟨b, c, _, rfl, hB, h, ?_, by unfold maxLen; omega, by rw [size_madeCells, Nat.mul_one], ?_⟩⟩
  · rcases hl with rfl | ⟨rfl, h1⟩
    · exact Nat.zero_le _
    · exact h1
  · rcases hl with rfl | ⟨rfl, h1⟩
    · rfl
    · obtain ⟨c, rfl⟩ : ∃ c', c = c' + 1 := ⟨c - 1, by omega⟩
      simp only [madeCells, Array.toList_map, Array.toList_range, List.range_succ_eq_map]
      rfl
end Go.Proofs.YtkckipgmkjbkcaaDoor
