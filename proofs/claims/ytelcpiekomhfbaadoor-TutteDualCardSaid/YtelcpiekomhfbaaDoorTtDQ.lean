/- tutte.Polynomial, tutte.Activities; rotalaw.Rows of rows of numbers. -/
import Derived.Test.YtelcpiekomhfbaaDoorTtCQ
import Derived.Test.YtelcpiekomhfbaaDoorFlEQ
namespace Go.Proofs.YtelcpiekomhfbaaDoor
open Go.RowKit

theorem Polynomial_ok (m : Nat) (v : Value) (l : List Nat) (w : World) (hm : m ≤ 8) (hf : Fam m l) (hb : Bas l) (h : Ints w v (N l)) :
    Calls Tryd.prog 4 #[.agg #[.int .i64 m, v]] w fun e w' => ∃ g, e = .returned (.tuple #[.slice (some ⟨g, 0, none⟩) (rk l (2 ^ m - 1) + 1) (rk l (2 ^ m - 1) + 1), .int .i64 0]) ∧ w.heap.size ≤ g ∧ TblM g w' (rk l (2 ^ m - 1) + 1) (m - rk l (2 ^ m - 1) + 1) (fun i j => (ttN m l i j : Int)) ∧ Below w.heap.size w w' := by
  have hB0 := below_box w #[.int .i64 m, v]
  have HC := hid (check_any m v (N l) _ (h.below hB0))
  rw [chk_mk hm hf hb] at HC
  have HP := hid (fun w h => poly_any m v l w hm hf hb h)
  have HI := hid (h.below hB0)
  have HX : Hid (∀ w2, Below (w.alloc (.cells #[.int .i64 m, v] 24)).heap.size (w.alloc (.cells #[.int .i64 m, v] 24)) w2 → _) := fun w2 hb => box_cells hb
  have HB0 := hid hB0
  obtain ⟨a, cap, rfl, -, -⟩ := h
  clear hB0
  go_enter Tryd.func4, Tryd.ntmps4
  go_wp2_with fail
  refine HC.out.mono ?_
  rintro e w1 ⟨rfl, hb1⟩
  obtain ⟨x0, x1⟩ := HX.out w1 hb1
  have HI1 := hid (HI.out.below hb1)
  have HB1 := hid (HB0.out.trans (hb1.mono HB0.out.size))
  clear hb1
  go_wp2_with fail
  refine (HP.out _ HI1.out).mono ?_
  rintro e w2 ⟨g, rfl, hg, ht, hb2⟩
  have HT := hid ht
  have HB2 := hid (HB1.out.trans (hb2.mono HB1.out.size))
  have hg2 := Nat.le_trans HB1.out.size hg
  clear ht hb2
  go_wp2_with fail
  go_ret2
  exact ⟨g, rfl, hg2, HT.out, HB2.out⟩
theorem Polynomial_bad (n : Int) (v : Value) (zs : List Int) (w : World) (h : Ints w v zs) (hc : chkR n zs ≠ 0) :
    Calls Tryd.prog 4 #[.agg #[.int .i64 n, v]] w fun e w' => e = .returned (.tuple #[.slice none 0 0, .int .i64 (chkR n zs)]) ∧ Below w.heap.size w w' := by
  have hB0 := below_box w #[.int .i64 n, v]
  have HC := hid (check_any n v zs _ (h.below hB0))
  have HB0 := hid hB0
  obtain ⟨a, cap, rfl, -, -⟩ := h
  generalize chkR n zs = q at *
  have hq' : (q == 0) = false := by rw [beq_eq_false_iff_ne]; exact hc
  clear hB0
  go_enter Tryd.func4, Tryd.ntmps4
  go_wp2_with fail
  refine HC.out.mono ?_
  rintro e w1 ⟨rfl, hb1⟩
  have HB1 := hid (HB0.out.trans (hb1.mono HB0.out.size))
  clear hb1
  go_wp2_with fail
  go_ret2
  exact ⟨rfl, HB1.out⟩
/-- v is a slice of N rows of M numbers each. -/
def RowsZ (w : World) (v : Value) (N M : Nat) (f : Nat → Nat → Int) : Prop := ∃ b off cap, v = .slice (some ⟨b, off, none⟩) N cap ∧ b < w.heap.size ∧ ∀ i, i < N → ∃ u, w.cell? ⟨b, off + i, none⟩ = some u ∧ RkZ w u M (f i)
theorem RowsZ.below {w w' : World} {v : Value} {N M : Nat} {f : Nat → Nat → Int} (h : RowsZ w v N M f) (hb : Below w.heap.size w w') : RowsZ w' v N M f := by
  obtain ⟨b, off, cap, rfl, h1, h2⟩ := h
  refine ⟨b, off, cap, rfl, Nat.lt_of_lt_of_le h1 hb.size, fun i hi => ?_⟩
  obtain ⟨u, h3, h4⟩ := h2 i hi
  exact ⟨u, (hb.cell (p := ⟨b, off + i, none⟩) h1).trans h3, h4.below hb⟩
theorem TblM.rows {g : Nat} {w : World} {N M cap : Nat} {f : Nat → Nat → Int} (h : TblM g w N M f) : RowsZ w (.slice (some ⟨g, 0, none⟩) N cap) N M f :=
  ⟨g, 0, cap, rfl, h.size, fun i hi => ⟨_, by rw [Nat.zero_add]; exact h.head i hi, (h.row i hi).rkZ⟩⟩
set_option maxRecDepth 20000 in
set_option maxHeartbeats 1000000 in
theorem Rows_same (a b : Value) (N M : Nat) (f : Nat → Nat → Int) (w : World) (hN : N ≤ 1000) (hM : M ≤ 1000) (ha : RowsZ w a N M f) (hb : RowsZ w b N M f) :
    Calls Tryd.prog 6 #[a, b] w fun e w' => e = .returned (.bool true) ∧ Below w.heap.size w w' := by
  have HA := hid ha
  have HB := hid hb
  obtain ⟨ab, ao, ac, rfl, -, -⟩ := ha
  obtain ⟨bb, bo, bc, rfl, -, -⟩ := hb
  go_enter Tryd.func6, Tryd.ntmps6
  go_wp2_with fail
  go_loopw [5, 13] (fun _ i wr => ∃ k : Nat, k ≤ N ∧ i = .int .i64 k ∧ Hid (Below w.heap.size w wr)) (fun _ i _ => N - (intOf i).toNat)
  case atStart => exact ⟨0, Nat.zero_le _, rfl, Below.refl _ _⟩
  case round =>
    obtain ⟨k, hk, rfl, HW⟩ := hrel
    by_cases hlt : k < N
    · have hki : (k : Int) < (N : Int) := by omega
      obtain ⟨b1, o1, c1, e1, g1, k1⟩ := HA.out.below HW.out
      obtain ⟨⟨rfl, rfl⟩, rfl⟩ : (ab = b1 ∧ ao = o1) ∧ ac = c1 := by simpa using e1
      obtain ⟨u1, cu1, ru1⟩ := k1 k hlt
      obtain ⟨b2, o2, c2, e2, g2, k2⟩ := HB.out.below HW.out
      obtain ⟨⟨rfl, rfl⟩, rfl⟩ : (bb = b2 ∧ bo = o2) ∧ bc = c2 := by simpa using e2
      obtain ⟨u2, cu2, ru2⟩ := k2 k hlt
      have y1 : ∀ z : Later wr, z.now.cell? ⟨ab, ao + k, none⟩ = some u1 := fun z => (z.kept.cell (p := ⟨ab, ao + k, none⟩) g1).trans cu1
      have y2 : ∀ z : Later wr, z.now.cell? ⟨bb, bo + k, none⟩ = some u2 := fun z => (z.kept.cell (p := ⟨bb, bo + k, none⟩) g2).trans cu2
      have SM := hid (fun z : Later wr => SameL_any u1 u2 _ _ z.now ((ru1.below z.kept).ints (by omega)) ((ru2.below z.kept).ints (by omega)))
      rw [show decide ((List.range M).map (f k) = (List.range M).map (f k)) = true by simp] at SM
      clear k1 k2 ru1 ru2 cu1 cu2 e1 e2
      go_wp2_with fail
      refine region_later (by kernel_rfl) (by kernel_rfl) ?_
      repeat (go_big_quiet_step ((go_at_call 14; refine (SM.out _).mono ?_; rintro e w' ⟨rfl, h4⟩; exact ⟨rfl, Later.on _ h4⟩)))
      refine wpQuiet_nil ?_
      intro w2 hw'
      obtain ⟨⟨y6, hb13⟩, hw''⟩ := hw'
      dsimp only at hw''
      subst hw''
      have HW2 := hid (HW.out.trans (hb13.mono HW.out.size))
      clear hb13 y1 y2 SM
      go_wp2_with fail
      go_roundw
      case rel => exact ⟨k + 1, by omega, by go_num, HW2.out⟩
      case measure => simp [intOf]; omega
    · obtain rfl : N = k := by omega
      have HW2 := hid HW.out
      go_wp2_with fail
      go_ret
      exact ⟨rfl, HW2.out⟩
end Go.Proofs.YtelcpiekomhfbaaDoor
