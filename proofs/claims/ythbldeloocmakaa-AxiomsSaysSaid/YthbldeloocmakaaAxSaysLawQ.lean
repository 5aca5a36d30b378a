/- The walk of the law AxiomsSays. -/
import Derived.Deep.RegionHeld3
import Derived.Test.YthbldeloocmakaaRefAxDQ
import Derived.Test.YthbldeloocmakaaRefAxEQ
namespace Go.Proofs.Ythbldeloocmakaa
open Go.RowKit

/-- The ranks as a list. -/
theorem RkAt.ints {w : World} {v : Value} {T : Nat} {r : Nat → Nat} (h : RkAt w v T r) (hT : T ≤ 256) : Ints w v (N ((List.range T).map r)) := by
  obtain ⟨b, off, cap, rfl, hb, hc⟩ := h
  refine ⟨_, cap, by rw [N_len]; simp, by rw [N_len]; simp; omega, fun _ => ⟨b, off, rfl, hb, fun i hi => ?_⟩⟩
  rw [N_len] at hi
  simp at hi
  rw [hc i hi, N_getD]
  simp [List.getD, hi]
theorem setB_setR (n s : Int) : setB n s = (setR n s == 0) := by
  unfold setB setR
  split
  · rename_i h; rw [decide_eq_true h]; rfl
  · rename_i h; rw [decide_eq_false h]; rfl

set_option maxRecDepth 100000 in
set_option maxHeartbeats 8000000 in
theorem says_bad (n s : Int) (v : Value) (zs : List Int) (w : World) (h : Ints w v zs) (hc : chkR n zs ≠ 0) :
    Calls Try.prog 3 #[.agg #[.int .i64 n, v], .int .i64 s] w fun e w' => e = .returned (.bool true) ∧ Below w.heap.size w w' := by
  have HI := hid h
  obtain ⟨a, cap, rfl, _, _⟩ := h
  have B0 := hid (below_box w #[.int .i64 n, .slice a zs.length cap])
  have MA := hid (Matroid_ref n _ zs _ (HI.out.below B0.out))
  have K1 := hid (fun w' (hb : Below w.heap.size w w') => Independents_bad n _ zs w' (HI.out.below hb) hc)
  have K2 := hid (fun w' (hb : Below w.heap.size w w') => Circuits_bad n _ zs w' (HI.out.below hb) hc)
  have K3 := hid (fun w' (hb : Below w.heap.size w w') => Ranks_bad n _ zs w' (HI.out.below hb) hc)
  have K4 := hid (fun w' (hb : Below w.heap.size w w') => Flats_bad n _ zs w' (HI.out.below hb) hc)
  have K5 := hid (fun w' (hb : Below w.heap.size w w') => Hyperplanes_bad n _ zs w' (HI.out.below hb) hc)
  have K6 := hid (fun w' (hb : Below w.heap.size w w') => Closure_bad n s _ zs w' (HI.out.below hb) hc)
  have K7 := hid (fun w' (hb : Below w.heap.size w w') => check_any n _ zs w' (HI.out.below hb))
  generalize chkR n zs = q at *
  have hq : (q == 0) = false := by rw [beq_eq_false_iff_ne]; exact hc
  have hq2 : (q != 0) = true := by rw [bne_iff_ne]; exact hc
  have hq3 : (q == q) = true := by simp
  clear hc
  go_enter Try.func3, Try.ntmps3
  go_wp2_with fail
  refine MA.out.mono ?_
  rintro e w1 ⟨rfl, hb1⟩
  have X1 := hid (box_cells hb1)
  have B1 := hid (B0.out.trans (hb1.mono B0.out.size))
  have S1 : w.heap.size < w1.heap.size := by have := hb1.size; simp at this; omega
  clear hb1
  obtain ⟨x0, x1⟩ := X1.out
  go_wp2_with fail
  refine (K1.out _ B1.out).mono ?_
  rintro e w2 ⟨rfl, hb2⟩
  have X2 := hid (box_back X1.out hb2 S1)
  have B2 := hid (B1.out.trans (hb2.mono B1.out.size))
  have S2 := Nat.lt_of_lt_of_le S1 hb2.size
  clear hb2 x0 x1 X1
  obtain ⟨x0, x1⟩ := X2.out
  go_wp2_with fail
  refine (K2.out _ B2.out).mono ?_
  rintro e w3 ⟨rfl, hb3⟩
  have X3 := hid (box_back X2.out hb3 S2)
  have B3 := hid (B2.out.trans (hb3.mono B2.out.size))
  have S3 := Nat.lt_of_lt_of_le S2 hb3.size
  clear hb3 x0 x1 X2
  obtain ⟨x0, x1⟩ := X3.out
  go_wp2_with fail
  refine (K3.out _ B3.out).mono ?_
  rintro e w4 ⟨rfl, hb4⟩
  have X4 := hid (box_back X3.out hb4 S3)
  have B4 := hid (B3.out.trans (hb4.mono B3.out.size))
  have S4 := Nat.lt_of_lt_of_le S3 hb4.size
  clear hb4 x0 x1 X3
  obtain ⟨x0, x1⟩ := X4.out
  go_wp2_with fail
  refine (K4.out _ B4.out).mono ?_
  rintro e w5 ⟨rfl, hb5⟩
  have X5 := hid (box_back X4.out hb5 S4)
  have B5 := hid (B4.out.trans (hb5.mono B4.out.size))
  have S5 := Nat.lt_of_lt_of_le S4 hb5.size
  clear hb5 x0 x1 X4
  obtain ⟨x0, x1⟩ := X5.out
  go_wp2_with fail
  refine (K5.out _ B5.out).mono ?_
  rintro e w6 ⟨rfl, hb6⟩
  have X6 := hid (box_back X5.out hb6 S5)
  have B6 := hid (B5.out.trans (hb6.mono B5.out.size))
  have S6 := Nat.lt_of_lt_of_le S5 hb6.size
  clear hb6 x0 x1 X5
  obtain ⟨x0, x1⟩ := X6.out
  go_wp2_with fail
  refine (K6.out _ B6.out).mono ?_
  rintro e w7 ⟨rfl, hb7⟩
  have X7 := hid (box_back X6.out hb7 S6)
  have B7 := hid (B6.out.trans (hb7.mono B6.out.size))
  clear hb7 x0 x1 X6
  obtain ⟨x0, x1⟩ := X7.out
  go_wp2_with fail
  refine (K7.out _ B7.out).mono ?_
  rintro e w8 ⟨rfl, hb8⟩
  have B8 := hid (B7.out.trans (hb8.mono B7.out.size))
  clear hb8
  go_wp2_with fail
  refine (list_bad _ _ _ rfl hq2 _).mono ?_
  rintro e w9 ⟨rfl, rfl⟩
  go_wp2_with fail
  refine (list_bad _ _ _ rfl hq2 _).mono ?_
  rintro e w9 ⟨rfl, rfl⟩
  go_wp2_with fail
  refine (list_bad _ _ _ rfl hq2 _).mono ?_
  rintro e w9 ⟨rfl, rfl⟩
  go_wp2_with fail
  refine (list_bad _ _ _ rfl hq2 _).mono ?_
  rintro e w9 ⟨rfl, rfl⟩
  go_wp2_with fail
  refine (list_bad _ _ _ rfl hq2 _).mono ?_
  rintro e w9 ⟨rfl, rfl⟩
  go_wp2_with fail
  refine (one_bad _ _ _ hq2).mono ?_
  rintro e w9 ⟨rfl, rfl⟩
  go_wp2_with fail
  go_ret
  exact ⟨rfl, B8.out⟩
end Go.Proofs.Ythbldeloocmakaa
