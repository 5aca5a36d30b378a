/- greedy.isBasis, greedy.checkBases; slices.Index and slices.Contains of whatever number. -/
import Derived.Test.YtimciginbiobmaaBasQ
import Derived.Test.YtimciginbiobmaaAxQ
import Derived.Test.YtimciginbiobmaaQBelQ
import Derived.Test.YtimciginbiobmaaEqQ
import Derived.Test.YtimciginbiobmaaPlainAll
namespace Go.Proofs.Ytimciginbiobmaa
open Go.RowKit

/-- Is x one of zs? -/
def memZ (x : Int) (zs : List Int) : Bool := decide (x ∈ zs)
theorem memZ_N (x : Nat) (l : List Nat) : memZ x (N l) = memB x l := by
  unfold memZ memB N
  rw [Bool.eq_iff_iff, decide_eq_true_eq, decide_eq_true_eq, List.mem_map]
  constructor
  · rintro ⟨y, h1, h2⟩
    have : y = x := Int.ofNat.inj h2
    exact this ▸ h1
  · exact fun h => ⟨x, h, rfl⟩
set_option maxRecDepth 20000 in
set_option maxHeartbeats 800000 in
theorem IndexZ_any (v : Value) (zs : List Int) (x : Int) (w : World) (h : Ints w v zs) :
    Calls Try.prog 88 #[v, .int .i64 x] w fun e w' => ∃ r : Int, e = .returned (.int .i64 r) ∧ decide (0 ≤ r) = memZ x zs ∧ w' = w := by
  obtain ⟨a, cap, rfl, hlen, hc⟩ := h
  go_enter Try.func88, Try.ntmps88
  go_wp2_with fail
  go_loop [8] (fun i => ∃ k : Nat, k ≤ zs.length ∧ i = .int .i64 k ∧ Hid (x ∈ zs ↔ x ∈ zs.drop k)) (fun i => zs.length - (intOf i).toNat)
  case atStart => exact ⟨0, Nat.zero_le _, rfl, Iff.rfl⟩
  case round =>
    obtain ⟨k, hk, rfl, R⟩ := hrel
    by_cases hlt : k < zs.length
    · obtain ⟨b, off, rfl, hb, hcell⟩ := hc (by omega)
      have hck := hcell k hlt
      have D : Hid (zs.drop k = zs.getD k 0 :: zs.drop (k + 1)) := by
        show zs.drop k = _
        rw [List.drop_eq_getElem_cons hlt]; simp [List.getD, hlt]
      have hki : (k : Int) < (zs.length : Int) := by omega
      clear hcell hc
      generalize zs.getD k 0 = y at *
      by_cases hxy : x = y
      · have hxy' : (x == y) = true := by rw [hxy]; simp
        have F : Hid (memZ x zs = true) := by
          show decide (x ∈ zs) = true
          rw [decide_eq_true_iff, R.out, D.out, hxy]; simp
        clear hxy
        go_wp2_with fail
        go_ret
        exact ⟨_, rfl, by rw [F.out]; simp, rfl⟩
      · have hxy' : (x == y) = false := by rw [beq_eq_false_iff_ne]; exact hxy
        have HX := hid hxy
        clear hxy
        go_wp2_with fail
        go_round
        case rel => exact ⟨k + 1, by omega, by go_num, by show x ∈ zs ↔ _; rw [R.out, D.out]; simp [HX.out]⟩
        case measure => simp [intOf]; omega
    · have F : Hid (memZ x zs = false) := by
        show decide (x ∈ zs) = false
        rw [decide_eq_false_iff_not, R.out, List.drop_of_length_le (by omega)]; simp
      go_wp2_with fail
      go_ret
      exact ⟨_, rfl, by rw [F.out]; simp, rfl⟩
theorem ContainsZ_any (v : Value) (zs : List Int) (x : Int) (w : World) (h : Ints w v zs) :
    Calls Try.prog 45 #[v, .int .i64 x] w fun e w' => e = .returned (.bool (memZ x zs)) ∧ w' = w := by
  have HI := hid (IndexZ_any v zs x w h)
  clear h
  go_enter Try.func45, Try.ntmps45
  go_wp2_with fail
  refine HI.out.mono ?_
  rintro e w1 ⟨r, rfl, hr, rfl⟩
  have HR := hid hr
  clear hr
  go_wp2_with fail
  go_ret
  exact ⟨ret_bool HR.out, rfl⟩
theorem isBasis_any (n : Int) (v : Value) (zs : List Int) (x : Int) (w : World) (h : Ints w v zs) :
    Calls Try.prog 85 #[.agg #[.int .i64 n, v], .int .i64 x] w fun e w' => e = .returned (.bool (memZ x zs)) ∧ Below w.heap.size w w' := by
  have hB0 := below_box w #[.int .i64 n, v]
  have HC := hid (ContainsZ_any v zs x _ (h.below hB0))
  have HB := hid hB0
  obtain ⟨a, cap, rfl, _, _⟩ := h
  clear hB0
  go_enter Try.func85, Try.ntmps85
  go_wp2_with fail
  refine HC.out.mono ?_
  rintro e w1 ⟨rfl, rfl⟩
  go_wp2_with fail
  go_ret
  exact ⟨rfl, HB.out⟩
/-- What checkBases tells. -/
def cbR (n : Int) (zs ys : List Int) : Int := if chkR n zs ≠ 0 then chkR n zs else if ys.all fun y => memZ y zs then 0 else 1
set_option maxRecDepth 20000 in
set_option maxHeartbeats 800000 in
theorem checkBases_any (n : Int) (v : Value) (zs : List Int) (u : Value) (ys : List Int) (w : World) (h : Ints w v zs) (hu : Ints w u ys) :
    Calls Try.prog 81 #[.agg #[.int .i64 n, v], u] w fun e w' => e = .returned (.int .i64 (cbR n zs ys)) ∧ Below w.heap.size w w' := by
  have hB0 := below_box w #[.int .i64 n, v]
  have HC := hid (check_any n v zs _ (h.below hB0))
  have HV := hid (h.below hB0)
  have HU := hid (hu.below hB0)
  have HB := hid hB0
  have hcell := box_cells (w := w) (n := n) (u := v) (Below.refl _ _)
  obtain ⟨a, cap, rfl, _, _⟩ := h
  obtain ⟨a', cap', rfl, hl', _⟩ := hu
  clear hB0
  go_enter Try.func81, Try.ntmps81
  go_wp2_with fail
  refine HC.out.mono ?_
  rintro e w1 ⟨rfl, hb1⟩
  have hB1 := HB.out.trans (hb1.mono HB.out.size)
  obtain ⟨hz0, hz1⟩ := box_cells hb1
  have HV1 := hid (HV.out.below hb1)
  have HU1 := hid (HU.out.below hb1)
  have hsz := hb1.size
  rw [World.size_alloc] at hsz
  by_cases hc : chkR n zs = 0
  · have E1 : Hid (cbR n zs ys = if ys.all (fun y => memZ y zs) then 0 else 1) := by
      show _ = _
      unfold cbR
      rw [if_neg (by simp [hc])]
    rw [hc]
    clear hc hcell
    go_wp2_with fail
    go_loopw [15] (fun i wr => ∃ k : Nat, k ≤ ys.length ∧ i = .int .i64 k ∧ Hid (Below w1.heap.size w1 wr) ∧ Hid (∀ i, i < k → memZ (ys.getD i 0) zs = true)) (fun i _ => ys.length - (intOf i).toNat)
    case atStart => exact ⟨0, Nat.zero_le _, rfl, Below.refl _ _, fun i hi => by omega⟩
    case round =>
      obtain ⟨k, hk, rfl, HW, R⟩ := hrel
      by_cases hlt : k < ys.length
      · have hki : (k : Int) < (ys.length : Int) := by omega
        obtain ⟨q1, q2, q3, q4, q5⟩ := HU1.out.below HW.out
        obtain ⟨b', off', rfl, hb', hcl⟩ := q5 (by omega)
        obtain ⟨rfl, rfl⟩ : a' = some ⟨b', off', none⟩ ∧ cap' = q2 := by simpa using q3
        have hck := hcl k hlt
        have y0 := (HW.out.cell (p := ⟨w.heap.size, 0, none⟩) (by show w.heap.size < _; omega)).trans hz0
        have y1 := (HW.out.cell (p := ⟨w.heap.size, 1, none⟩) (by show w.heap.size < _; omega)).trans hz1
        have HC2 := hid (isBasis_any n _ zs (ys.getD k 0) wr (HV1.out.below HW.out))
        have R2 : Hid (memZ (ys.getD k 0) zs = true → ∀ i, i < k + 1 → memZ (ys.getD i 0) zs = true) := fun h i hi => by
          by_cases e : i = k
          · subst e; exact h
          · exact R.out i (by omega)
        have R3 : Hid (memZ (ys.getD k 0) zs = false → (ys.all fun y => memZ y zs) = false) := fun h => by
          rw [List.all_eq_false]
          refine ⟨ys.getD k 0, ?_, by rw [h]; simp⟩
          simp only [List.getD, List.getElem?_eq_getElem hlt, Option.getD_some]
          exact List.getElem_mem _
        clear hcl q5 q3 q4
        generalize ys.getD k 0 = y at *
        go_wp2_with fail
        refine HC2.out.mono ?_
        rintro e w2 ⟨rfl, hb2⟩
        have HW2 := hid (HW.out.trans (hb2.mono HW.out.size))
        clear hb2
        rcases hq : memZ y zs with _ | _
        · have F := R3.out hq
          clear hq
          go_wp2_with fail
          go_ret
          exact ⟨by rw [E1.out, F]; rfl, hB1.trans (HW2.out.mono hB1.size)⟩
        · have R4 := hid (R2.out hq)
          clear hq
          go_wp2_with fail
          go_roundw
          case rel => exact ⟨k + 1, by omega, by go_num, HW2.out, R4.out⟩
          case measure => simp [intOf]; omega
      · obtain rfl : k = ys.length := by omega
        have F : (ys.all fun y => memZ y zs) = true := List.all_eq_true.2 fun y hy => by
          obtain ⟨i, hi, rfl⟩ := List.mem_iff_getElem.1 hy
          have := R.out i hi
          simpa [List.getD, hi] using this
        have HW2 := hid HW.out
        go_wp2_with fail
        go_ret
        exact ⟨by rw [E1.out, F]; rfl, hB1.trans (HW2.out.mono hB1.size)⟩
  · have hne : (chkR n zs != 0) = true := by simp [hc]
    have E1 : Hid (cbR n zs ys = chkR n zs) := by
      show _ = _
      unfold cbR
      rw [if_pos hc]
    generalize chkR n zs = q at *
    have HB1 := hid hB1
    clear hB1 hb1
    go_wp2_with fail
    go_ret
    exact ⟨by rw [E1.out]; rfl, HB1.out⟩
end Go.Proofs.Ytimciginbiobmaa
