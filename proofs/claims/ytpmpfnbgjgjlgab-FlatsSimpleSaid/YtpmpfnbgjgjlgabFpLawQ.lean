/- rotakeep.FlatsSimple. -/
import Derived.Test.YtpmpfnbgjgjlgabFlEQ
import Derived.Test.YtpmpfnbgjgjlgabFlKQ
import Derived.Test.YtpmpfnbgjgjlgabSmpQ
import Derived.Test.YtpmpfnbgjgjlgabPlainAll
import Derived.Test.YtpmpfnbgjgjlgabQBelQ
namespace Go.Proofs.Ytpmpfnbgjgjlgab
open Go.RowKit

set_option maxHeartbeats 800000 in
theorem SimpleF_bad (n : Int) (v : Value) (zs : List Int) (w : World) (h : Ints w v zs) (hc : chkR n zs ≠ 0) :
    Calls Try.prog 19 #[.agg #[.int .i64 n, v]] w (BadM w (chkR n zs)) := by
  have HI := hid h
  obtain ⟨a, cap, rfl, _, _⟩ := h
  have HB0 := hid (boxM_below w n (.slice a zs.length cap))
  have HRK := hid (Ranks_bad n _ zs _ (HI.out.below HB0.out) hc)
  have HX : Hid (∀ w2, Below (boxM w n (.slice a zs.length cap)).heap.size (boxM w n (.slice a zs.length cap)) w2 → _) := fun w2 h => boxM_blocks h
  have HSZ := hid (boxM_size w n (.slice a zs.length cap))
  generalize chkR n zs = q at *
  have hc' : (q == 0) = false := by rw [beq_eq_false_iff_ne]; exact hc
  go_enter Try.func19, Try.ntmps19
  go_wp2_with fail
  refine HRK.out.mono ?_
  rintro e w1 ⟨rfl, hb1⟩
  obtain ⟨hx0, hx2⟩ := HX.out w1 hb1
  obtain ⟨x00, _, _, _⟩ := two_cells hx0
  have z0 := fun o => cellA (W := w1) o x00
  have hsz1 : w.heap.size + 2 ≤ w1.heap.size := by have := hb1.size; have := HSZ.out; omega
  have hx3 := hx2
  have HB1 : Hid (Below w.heap.size w w1) := HB0.out.trans (hb1.mono HB0.out.size)
  have HC := hid (set_two (x := .int .i64 0) (y := .slice none 0 0) hx3)
  have HD := hid (below_two (b := w.heap.size + 1) (x := .int .i64 0) (y := .slice none 0 0) HB1.out (by omega))
  obtain ⟨y2, y3, g2, g3⟩ := two_cells hx3
  clear hb1 hx0 hx2 hx3 x00
  go_wp2_with fail
  obtain ⟨c0, c1⟩ := HC.out
  refine bodyPost_ret (v := .tuple #[.agg #[.int .i64 0, .slice none 0 0], .int .i64 q]) ?_ rfl ⟨rfl, HD.out⟩
  simp [results, Try.f19, go_sem, c0, c1]

theorem ClsF_eq {m : Nat} {r : Nat → Nat} {L : List Nat} (hm : m ≤ 8) (hr : Rk r) (h : ClsS m r L) : L = eqL m (pcl r m) := by
  obtain ⟨P, h1, h2, h3⟩ := h
  exact prts_sorted (T := par r) hm (pcl_eqv hr) (fun i j hi hj => by rw [pcl_bit]; simp [hj]; rfl) h1 h2 h3
theorem simple_rst {m : Nat} {l : List Nat} (hm : m ≤ 8) (hb : Bas l) : Rst m (rk l) (dif (2 ^ m - 1) (goneP (rk l) (eqL m (pcl (rk l) m)))) (rk (minL m l (goneP (rk l) (eqL m (pcl (rk l) m))) 0)) where
  hn := hm
  rk := hb.rk
  lt := kept_ltn m _
  rk' := (min_bas hm hb _ 0).rk
  eq := fun G hG => by
    rw [min_rk hm hb _ 0 hG]
    unfold minR
    rw [Nat.or_zero, hb.rk.zero, Nat.sub_zero]
  par := fun e he hK => by
    rw [dif_bit, full_bit, gone_bit hm hb.rk he] at hK
    simp only [he, decide_true, Bool.true_and, Bool.not_eq_false', Bool.or_eq_true, decide_eq_true_eq] at hK
    rcases hK with h0 | h1
    · exact .inl h0
    · by_cases h0 : rk l (2 ^ e) = 0
      · exact .inl h0
      have hE := pcl_eqv (n := m) hb.rk
      have hs := hE.self e he
      have hlt := lt256 hm (hE.lt e he)
      have hpos : 0 < pcl (rk l) m e := Nat.pos_of_ne_zero fun e0 => by rw [e0] at hs; simp at hs
      have hbit := tzW_bit _ hlt hpos
      have hkm : tz (pcl (rk l) m e) < m := bit_n (hE.lt e he) hbit
      have hsame := hE.same e (tz (pcl (rk l) m e)) he hbit
      rw [pcl_bit] at hbit
      simp only [hkm, decide_true, Bool.true_and, decide_eq_true_eq] at hbit
      rcases hbit with h2 | h2
      · exact absurd h2.symm h1
      · obtain ⟨p1, p2⟩ := par_iff.1 h2
        refine .inr ⟨tz (pcl (rk l) m e), ?_, p1, by rw [Nat.or_comm]; exact p2⟩
        rw [dif_bit, full_bit, gone_bit hm hb.rk hkm, ← hsame]
        have : rk l (2 ^ tz (pcl (rk l) m e)) ≠ 0 := by omega
        simp [hkm, this]
theorem par_fam : Fam 2 [1, 2] := ⟨by decide, by decide⟩
theorem par_bas : Bas [1, 2] := (bas_iff (by decide)).2 ⟨by decide, by decide +kernel, by decide +kernel⟩
theorem par_lev : N ((List.range (rk [1, 2] (2 ^ 2 - 1) + 1)).map (cntS (flatB (rk [1, 2]) 2) (rk [1, 2]) (2 ^ 2))) = [1, 1] := by decide +kernel
theorem box_backP {w w1 : World} {B : Nat} {x y : Value} (hx : w.cell? ⟨B, 0, none⟩ = some x ∧ w.cell? ⟨B, 1, none⟩ = some y) (hb : Below w.heap.size w w1) (hB : B < w.heap.size) : w1.cell? ⟨B, 0, none⟩ = some x ∧ w1.cell? ⟨B, 1, none⟩ = some y :=
  ⟨(hb.cell (p := ⟨B, 0, none⟩) hB).trans hx.1, (hb.cell (p := ⟨B, 1, none⟩) hB).trans hx.2⟩
set_option maxRecDepth 20000 in
set_option maxHeartbeats 4000000 in
theorem fsimple_law (n : Int) (v : Value) (zs : List Int) (w : World) (h : Ints w v zs) :
    Calls Try.prog 5 #[.agg #[.int .i64 n, v]] w fun e w' => e = .returned (.bool true) ∧ Below w.heap.size w w' := by
  have HI := hid h
  obtain ⟨a, cap, rfl, -, -⟩ := h
  have hB0 := below_box w #[.int .i64 n, .slice a zs.length cap]
  have HX : Hid (∀ w2, Below (w.alloc (.cells #[.int .i64 n, .slice a zs.length cap] 24)).heap.size (w.alloc (.cells #[.int .i64 n, .slice a zs.length cap] 24)) w2 → _) := fun w2 hb => box_cells hb
  have hb1 : Below (w.alloc (.cells #[.int .i64 n, .slice a zs.length cap] 24)).heap.size (w.alloc (.cells #[.int .i64 n, .slice a zs.length cap] 24)) ((w.alloc (.cells #[.int .i64 n, .slice a zs.length cap] 24)).alloc (.cells #[.int .i64 1, .int .i64 2] 3)) := (Below.refl _ _).alloc (Nat.le_refl _) _
  have hi1 := Ints.lit2 (w.alloc (.cells #[.int .i64 n, .slice a zs.length cap] 24)) 1 2
  have hsz : (w.alloc (.cells #[.int .i64 n, .slice a zs.length cap] 24)).heap.size = w.heap.size + 1 := World.size_alloc ..
  rw [hsz] at hi1
  have C1 := hid (Levels_ok 2 _ [1, 2] _ (by omega) par_fam par_bas hi1)
  have HB0 := hid hB0
  have HB1 := hid hb1
  have HI0 := hid (HI.out.below hB0)
  clear hB0 HI hb1 hi1 hsz
  go_enter Try.func5, Try.ntmps5
  go_wp2_with fail
  refine C1.out.mono ?_
  rintro e w2 ⟨u2, rfl, hu2, hb2⟩
  have hi2 := hu2.intsF (by decide +kernel)
  rw [par_lev] at hi2
  have hb3 : Below w2.heap.size w2 (w2.alloc (.cells #[.int .i64 1, .int .i64 1] 3)) := (Below.refl _ _).alloc (Nat.le_refl _) _
  have S1 := hid (Same_any _ _ _ _ _ (hi2.below hb3) (Ints.lit2 w2 1 1))
  rw [show decide (([1, 1] : List Int) = [1, 1]) = true by decide] at S1
  obtain ⟨ua, ucap, hu, -, -⟩ := hi2
  subst hu
  have H13 := hid (HB1.out.trans ((hb2.trans (hb3.mono hb2.size)).mono HB1.out.size))
  clear hb2 hb3 hu2 C1
  go_wp2_with fail
  refine S1.out.mono ?_
  rintro e w4 ⟨rfl, hb4⟩
  have hb14 := H13.out.trans (hb4.mono H13.out.size)
  have X4 := hid (HX.out w4 hb14)
  have S4 : w.heap.size < w4.heap.size := by have := hb14.size; simp at this; omega
  have B4 := hid (HB0.out.trans (hb14.mono HB0.out.size))
  have I4 := hid (HI0.out.below hb14)
  obtain ⟨x0, x1⟩ := X4.out
  clear hb4 hb14 H13 S1 HX HB0 HI0 HB1
  by_cases hq : chkR n zs = 0
  · obtain ⟨m, l, rfl, hm, rfl, hf, hb⟩ := chk_of hq
    rw [N_len] at *
    have RS := simple_rst hm hb
    have hG : Fam (pop (dif (2 ^ m - 1) (goneP (rk l) (eqL m (pcl (rk l) m))))) (minL m l (goneP (rk l) (eqL m (pcl (rk l) m))) 0) := min_fam m l _ 0
    have hBB := min_bas hm hb (goneP (rk l) (eqL m (pcl (rk l) m))) 0
    have hn' := kept_le hm (goneP (rk l) (eqL m (pcl (rk l) m)))
    have SI := hid (fun w2 hI => (Simple_ok m (.slice a l.length cap) l w2 hm hf hb hI).mono (fun e w' ⟨L, hL, hg⟩ => (by
      have hE := ClsF_eq hm hb.rk hL
      have e2 : goneL (rk l) L = goneP (rk l) (eqL m (pcl (rk l) m)) := by rw [hE]; rfl
      rw [e2] at hg
      exact hg : GivesO w2 (pop (dif (2 ^ m - 1) (goneP (rk l) (eqL m (pcl (rk l) m)))) : Nat) (minL m l (goneP (rk l) (eqL m (pcl (rk l) m))) 0) e w')))
    generalize minL m l (goneP (rk l) (eqL m (pcl (rk l) m))) 0 = l' at *
    generalize dif (2 ^ m - 1) (goneP (rk l) (eqL m (pcl (rk l) m))) = K at *
    have hR8 := rk_small hm hf (2 ^ m - 1)
    have hlen : (fltL m (rk l)).length ≤ 256 := flt_len hm
    have hpos := flt_pos hm hb.rk
    have LV := hid (fun w2 hI => (Levels_ok m (.slice a l.length cap) l w2 hm hf hb hI).mono (fun e w' ⟨u, h1, h2, h3⟩ => (⟨u, h1, h2.intsF (by omega), h3⟩ : ∃ u, e = Ending.returned (.tuple #[u, .int .i64 0]) ∧ Ints w' u (N ((List.range (rk l (2 ^ m - 1) + 1)).map (cntS (flatB (rk l) m) (rk l) (2 ^ m)))) ∧ Below w2.heap.size w2 w')))
    have LV2 := hid (fun v2 w2 hI => (Levels_ok (pop K) v2 l' w2 hn' hG hBB hI).mono (fun e w' ⟨u, h1, h2, h3⟩ => (⟨u, h1, by
      have h4 := h2.intsF (by rw [RS.top_rk]; omega)
      rw [RS.top_rk, funext (fun j => RS.cnt j)] at h4
      exact h4, h3⟩ : ∃ u, e = Ending.returned (.tuple #[u, .int .i64 0]) ∧ Ints w' u (N ((List.range (rk l (2 ^ m - 1) + 1)).map (cntS (flatB (rk l) m) (rk l) (2 ^ m)))) ∧ Below w2.heap.size w2 w')))
    have CN := hid (fun w2 hI => Chains_ok m (.slice a l.length cap) l w2 hm hf hb hI)
    have CN2 := hid (fun v2 w2 hI => Chains_ok (pop K) v2 l' w2 hn' hG hBB hI)
    rw [RS.chains] at CN2
    have MB := hid (fun w2 hI => (Mobius_ok m (.slice a l.length cap) l w2 hm hf hb hI).mono (fun e w' ⟨u, h1, h2, h3⟩ => (⟨u, h1, h2, h3⟩ : ∃ u, e = Ending.returned (.tuple #[u, .int .i64 0]) ∧ RkZ w' u (fltL m (rk l)).length (mobF (rk l) m) ∧ Below w2.heap.size w2 w')))
    have MB2 := hid (fun v2 w2 hI => (Mobius_ok (pop K) v2 l' w2 hn' hG hBB hI).mono (fun e w' ⟨u, h1, h2, h3⟩ => (⟨u, h1, by rw [RS.len] at h2; exact h2, h3⟩ : ∃ u, e = Ending.returned (.tuple #[u, .int .i64 0]) ∧ RkZ w' u (fltL m (rk l)).length (mobF (rk l') (pop K)) ∧ Below w2.heap.size w2 w')))
    have LST := RS.last
    rw [RS.len] at LST
    have HLST := hid LST
    have hG8 : l'.length ≤ 256 := fam_len hn' hG
    clear LST RS hG hBB hf hb hR8
    generalize (N ((List.range (rk l (2 ^ m - 1) + 1)).map (cntS (flatB (rk l) m) (rk l) (2 ^ m)))) = LA at *
    generalize upN m (rk l) (2 ^ m - 1) = un at *
    generalize mobF (rk l) m = mf at *
    generalize mobF (rk l') (pop K) = mg at *
    generalize (fltL m (rk l)).length = FL at *
    generalize pop K = k' at *
    obtain ⟨y0_5, y1_5⟩ := X4.out
    go_wp2_with fail
    refine (LV.out _ I4.out).mono ?_
    rintro e w5 ⟨u5, rfl, hj5, hb5⟩
    have JA5 := hid hj5
    clear hj5
    have I5 := hid (I4.out.below hb5)
    have X5 := hid (box_backP X4.out hb5 S4)
    have S5 := Nat.lt_of_lt_of_le S4 hb5.size
    have B5 := hid (B4.out.trans (hb5.mono B4.out.size))
    clear hb5
    obtain ⟨y0_6, y1_6⟩ := X5.out
    go_wp2_with fail
    refine (SI.out _ I5.out).mono ?_
    rintro e w6 ⟨r6, rfl, ho6, hb6⟩
    have IS6 := hid (ho6.ints (by omega))
    clear ho6
    have I6 := hid (I5.out.below hb6)
    have JA6 := hid (JA5.out.below hb6)
    have X6 := hid (box_backP X5.out hb6 S5)
    have S6 := Nat.lt_of_lt_of_le S5 hb6.size
    have B6 := hid (B5.out.trans (hb6.mono B5.out.size))
    clear hb6
    obtain ⟨ra, rc, hr6, -, -⟩ := IS6.out.nats
    subst hr6
    have hb7 : Below w6.heap.size w6 (w6.alloc (.cells #[.int .i64 k', .slice ra l'.length rc] 24)) := (Below.refl _ _).alloc (Nat.le_refl _) _
    have Y7 := hid (box_cells (w := w6) (Below.refl _ (w6.alloc (.cells #[.int .i64 k', .slice ra l'.length rc] 24))))
    have R7 : w6.heap.size < (w6.alloc (.cells #[.int .i64 k', .slice ra l'.length rc] 24)).heap.size := by rw [World.size_alloc]; omega
    obtain ⟨w7, hw7⟩ : ∃ w7, w6.alloc (.cells #[.int .i64 k', .slice ra l'.length rc] 24) = w7 := ⟨_, rfl⟩
    rw [hw7] at hb7 Y7 R7
    have I7 := hid (I6.out.below hb7)
    have JA7 := hid (JA6.out.below hb7)
    have IS7 := hid (IS6.out.below hb7)
    have X7 := hid (box_backP X6.out hb7 S6)
    have S7 := Nat.lt_of_lt_of_le S6 hb7.size
    have B7 := hid (B6.out.trans (hb7.mono B6.out.size))
    clear hb7
    obtain ⟨y0_8, y1_8⟩ := Y7.out
    go_wp2_with fail
    refine (LV2.out _ _ IS7.out).mono ?_
    rintro e w8 ⟨u8, rfl, hj8, hb8⟩
    have JB8 := hid hj8
    clear hj8
    have I8 := hid (I7.out.below hb8)
    have JA8 := hid (JA7.out.below hb8)
    have IS8 := hid (IS7.out.below hb8)
    have X8 := hid (box_backP X7.out hb8 S7)
    have S8 := Nat.lt_of_lt_of_le S7 hb8.size
    have Y8 := hid (box_backP Y7.out hb8 R7)
    have R8 := Nat.lt_of_lt_of_le R7 hb8.size
    have B8 := hid (B7.out.trans (hb8.mono B7.out.size))
    clear hb8
    obtain ⟨y0_9, y1_9⟩ := X8.out
    go_wp2_with fail
    refine (CN.out _ I8.out).mono ?_
    rintro e w9 ⟨rfl, hb9⟩
    have I9 := hid (I8.out.below hb9)
    have JA9 := hid (JA8.out.below hb9)
    have IS9 := hid (IS8.out.below hb9)
    have JB9 := hid (JB8.out.below hb9)
    have X9 := hid (box_backP X8.out hb9 S8)
    have S9 := Nat.lt_of_lt_of_le S8 hb9.size
    have Y9 := hid (box_backP Y8.out hb9 R8)
    have R9 := Nat.lt_of_lt_of_le R8 hb9.size
    have B9 := hid (B8.out.trans (hb9.mono B8.out.size))
    clear hb9
    obtain ⟨y0_10, y1_10⟩ := Y9.out
    go_wp2_with fail
    refine (CN2.out _ _ IS9.out).mono ?_
    rintro e w10 ⟨rfl, hb10⟩
    have I10 := hid (I9.out.below hb10)
    have JA10 := hid (JA9.out.below hb10)
    have IS10 := hid (IS9.out.below hb10)
    have JB10 := hid (JB9.out.below hb10)
    have X10 := hid (box_backP X9.out hb10 S9)
    have S10 := Nat.lt_of_lt_of_le S9 hb10.size
    have Y10 := hid (box_backP Y9.out hb10 R9)
    have R10 := Nat.lt_of_lt_of_le R9 hb10.size
    have B10 := hid (B9.out.trans (hb10.mono B9.out.size))
    clear hb10
    obtain ⟨y0_11, y1_11⟩ := X10.out
    go_wp2_with fail
    refine (MB.out _ I10.out).mono ?_
    rintro e w11 ⟨u11, rfl, hj11, hb11⟩
    have KP11 := hid hj11
    clear hj11
    have I11 := hid (I10.out.below hb11)
    have JA11 := hid (JA10.out.below hb11)
    have IS11 := hid (IS10.out.below hb11)
    have JB11 := hid (JB10.out.below hb11)
    have X11 := hid (box_backP X10.out hb11 S10)
    have S11 := Nat.lt_of_lt_of_le S10 hb11.size
    have Y11 := hid (box_backP Y10.out hb11 R10)
    have R11 := Nat.lt_of_lt_of_le R10 hb11.size
    have B11 := hid (B10.out.trans (hb11.mono B10.out.size))
    clear hb11
    obtain ⟨y0_12, y1_12⟩ := Y11.out
    go_wp2_with fail
    refine (MB2.out _ _ IS11.out).mono ?_
    rintro e w12 ⟨u12, rfl, hj12, hb12⟩
    have KQ12 := hid hj12
    clear hj12
    have I12 := hid (I11.out.below hb12)
    have JA12 := hid (JA11.out.below hb12)
    have IS12 := hid (IS11.out.below hb12)
    have JB12 := hid (JB11.out.below hb12)
    have KP12 := hid (KP11.out.below hb12)
    have X12 := hid (box_backP X11.out hb12 S11)
    have S12 := Nat.lt_of_lt_of_le S11 hb12.size
    have Y12 := hid (box_backP Y11.out hb12 R11)
    have R12 := Nat.lt_of_lt_of_le R11 hb12.size
    have B12 := hid (B11.out.trans (hb12.mono B11.out.size))
    clear hb12
    have SM := hid (fun w' (hb' : Below w12.heap.size w12 w') => Same_any _ _ _ _ w' (JA12.out.below hb') (JB12.out.below hb'))
    rw [decide_eq_true rfl] at SM
    obtain ⟨pb, po, pc, hu11, hpb, -⟩ := KP12.out
    subst hu11
    obtain ⟨qb, qo, qc, hu12, hqb, -⟩ := KQ12.out
    subst hu12
    obtain ⟨_, _, hu5, -, -⟩ := JA12.out
    subst hu5
    obtain ⟨_, _, hu8, -, -⟩ := JB12.out
    subst hu8
    obtain ⟨F1, hF1, HF1, hF2⟩ : ∃ F1 : Nat, (FL : Int) - 1 = (F1 : Int) ∧ Hid (FL - 1 = F1) ∧ F1 < FL := ⟨FL - 1, by omega, rfl, by omega⟩
    have cP : ∀ x : Later w12, x.now.cell? ⟨pb, po + F1, none⟩ = some (.int .i64 (mf F1)) := fun x => KP12.out.cellAt x.kept hF2
    have cQ : ∀ x : Later w12, x.now.cell? ⟨qb, qo + F1, none⟩ = some (.int .i64 (mg F1)) := fun x => KQ12.out.cellAt x.kept hF2
    have E1 := HLST.out
    rw [HF1.out] at E1
    rw [E1] at cQ
    have hF1i : (F1 : Int) < (FL : Int) := by omega
    clear E1 HLST HF1 LV LV2 CN CN2 MB MB2 SI
    generalize mf F1 = x at *
    have hxx : (x == x) = true := by simp
    have hFF : ((FL : Int) == (FL : Int)) = true := by simp
    have huu : ((un : Int) == (un : Int)) = true := by simp
    have hz0 : ((0 : Int) == 0) = true := by decide
    go_wp2_with fail
    refine region_later (by kernel_rfl) (by kernel_rfl) ?_
    repeat (go_big_quiet_step ((first
      | (go_at_call 18; (refine (SM.out _ (Later.kept _)).mono ?_); rintro e w' ⟨rfl, h4⟩; exact ⟨rfl, Later.on _ h4⟩))))
    refine wpQuiet_nil ?_
    intro w13 hw'
    obtain ⟨⟨y6, hb13⟩, hw''⟩ := hw'
    dsimp only at hw''
    subst hw''
    have HBF := hid (B12.out.trans (hb13.mono B12.out.size))
    clear hb13 cP cQ
    go_wp2_with fail
    go_ret
    exact ⟨rfl, HBF.out⟩
  · have C1 := hid (fun w2 hI => Levels_bad n (.slice a zs.length cap) zs w2 hI hq)
    have C2 := hid (fun w2 hI => SimpleF_bad n (.slice a zs.length cap) zs w2 hI hq)
    unfold BadM at C2
    generalize chkR n zs = q at *
    have hq' : (q == 0) = false := by rw [beq_eq_false_iff_ne]; exact hq
    have hqq : (q == q) = true := by simp
    obtain ⟨y0_5, y1_5⟩ := X4.out
    go_wp2_with fail
    refine (C1.out _ I4.out).mono ?_
    rintro e w5 ⟨rfl, hb5⟩
    have I5 := hid (I4.out.below hb5)
    have X5 := hid (box_backP X4.out hb5 S4)
    have S5 := Nat.lt_of_lt_of_le S4 hb5.size
    have B5 := hid (B4.out.trans (hb5.mono B4.out.size))
    clear hb5
    obtain ⟨y0_6, y1_6⟩ := X5.out
    go_wp2_with fail
    refine (C2.out _ I5.out).mono ?_
    rintro e w6 ⟨rfl, hb6⟩
    have hb56 := B5.out.trans (hb6.mono B5.out.size)
    have HBF := hid (hb56.alloc hb56.size (.cells #[.int .i64 0, .slice none 0 0] 24))
    clear hb6 hb56
    go_wp2_with fail
    go_ret
    exact ⟨rfl, HBF.out⟩
end Go.Proofs.Ytpmpfnbgjgjlgab
