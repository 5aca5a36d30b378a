/- axioms.OfCircuits and OfHyperplanes, whatever family is handed in. -/
import Derived.Test.YthbldeloocmakaaMadeAnyQ
namespace Go.Proofs.Ythbldeloocmakaa
open Go.RowKit

theorem madeE_three {m : Nat} {K : List Nat} {zs ys : List Int} (hq : madeE m K zs ys ≠ 0) : madeE m K zs ys = 3 := by
  unfold madeE at hq ⊢
  split
  · rename_i h; rw [if_pos h] at hq; exact absurd rfl hq
  · rfl
set_option maxHeartbeats 1600000 in
theorem OfCir_any (m : Nat) (u : Value) (l : List Nat) (w : World) (hm : m ≤ 8) (hf : Fam m l) (h : Ints w u (N l)) :
    Calls Try.prog 29 #[.int .i64 m, u] w (MakesI w (madeE m (cmp m (blk m l)) (N (cirL m (cmp m (blk m l)))) (N l)) m (cmp m (blk m l))) := by
  have HU := hid h
  obtain ⟨a, cap, hv, _, _⟩ := h.nats
  subst hv
  have HB0 := hid (below_box w #[.int .i64 0, .slice none 0 0])
  have EG : Hid (Enters 19) := fun args w => enters_of Try.func19 (by kernel_rfl) rfl args w
  have HC := hid (Blocker_fam m _ l _ hm hf (HU.out.below HB0.out))
  have HBF : Hid (Fam m (blk m l)) := Fam.range m _
  have HKL := hid (Nat.le_trans (fam_len hm (cmp_fam HBF.out)) (by decide : 256 ≤ 17592186044416))
  have AI := hid (all_cir (K := cmp m (blk m l)) hm)
  have HDA := hid (fun v w1 (hi : Ints w1 v (N (blk m l))) => Cpl_any m v _ w1 hm HBF.out (fam_len hm HBF.out) hi)
  generalize cmp m (blk m l) = K at *
  generalize N (cirL m K) = zs at *
  go_enter Try.func29, Try.ntmps29
  go_wp2_with fail
  refine HC.out.mono ?_
  rintro e w1 ⟨r1, rfl, ho1, hb1⟩
  have HR1 := hid (ho1.ints (Nat.le_trans (fam_len hm HBF.out) (by decide)))
  have HB1 := hid hb1
  obtain ⟨a1, cap1, hr1, _, _⟩ := HR1.out.nats
  subst hr1
  have HD1 := hid (HDA.out _ w1 HR1.out)
  clear ho1 hb1
  go_wp2_with fail
  refine HD1.out.mono ?_
  rintro e w2 ⟨r, rfl, ho', hb2'⟩
  have hb2 := HB1.out.trans (hb2'.mono HB1.out.size)
  have ho := ho'.mono HB1.out.size
  clear hb2' ho'
  have HX := hid (box1 hb2)
  have HB := hid (HB0.out.trans (hb2.mono HB0.out.size))
  have HR := hid (ho.ints HKL.out)
  have HO := hid ho
  obtain ⟨a3, cap3, hr, _, _⟩ := HR.out.nats
  subst hr
  have MA := hid (made_any AI.out EG.out HR.out (HU.out.below HB.out))
  clear hb2 ho
  by_cases hq : madeE m K zs (N l) = 0
  · rw [if_pos hq] at MA
    have HQ := hid hq
    go_wp2_with fail
    refine MA.out.mono ?_
    rintro e w4 ⟨rfl, hb4⟩
    have H4 := hid ((hb4.block _ HX.out.2).trans HX.out.1)
    have HB4 := hid (HB.out.trans (hb4.mono HB.out.size))
    have HS := hid (set_two (x := .int .i64 m) (y := .slice a3 K.length cap3) H4.out)
    have HD := hid (below_two (b := w.heap.size) (x := .int .i64 m) (y := .slice a3 K.length cap3) HB4.out (Nat.le_refl _))
    have HRR := hid (((HO.out.below hb4).set2 (b := w.heap.size) (x := .int .i64 m) (y := .slice a3 K.length cap3) (by simp)).ints HKL.out)
    obtain ⟨y2, y3, g2, g3⟩ := two_cells H4.out
    clear hb4
    go_wp2_with fail
    obtain ⟨c0, c1⟩ := HS.out
    refine bodyPost_ret (v := .tuple #[.agg #[.int .i64 m, .slice a3 K.length cap3], .int .i64 0]) ?_ rfl ⟨fun _ => ⟨_, rfl, HRR.out, HD.out⟩, fun e => absurd HQ.out e⟩
    simp [results, Try.f29, go_sem, c0, c1]
  · rw [if_neg hq] at MA
    have HQ : Hid (madeE m K zs (N l) = 3) := madeE_three hq
    go_wp2_with fail
    refine MA.out.mono ?_
    rintro e w4 ⟨rfl, hb4⟩
    have H4 := hid ((hb4.block _ HX.out.2).trans HX.out.1)
    have HB4 := hid (HB.out.trans (hb4.mono HB.out.size))
    have HS := hid (set_two (x := .int .i64 0) (y := .slice none 0 0) H4.out)
    have HD := hid (below_two (b := w.heap.size) (x := .int .i64 0) (y := .slice none 0 0) HB4.out (Nat.le_refl _))
    obtain ⟨y2, y3, g2, g3⟩ := two_cells H4.out
    clear hb4
    go_wp2_with fail
    obtain ⟨c0, c1⟩ := HS.out
    refine bodyPost_ret (v := .tuple #[.agg #[.int .i64 0, .slice none 0 0], .int .i64 3]) ?_ rfl ⟨fun e => absurd (HQ.out.symm.trans e) (by decide), fun _ => ⟨by rw [HQ.out], HD.out⟩⟩
    simp [results, Try.f29, go_sem, c0, c1]
set_option maxHeartbeats 1600000 in
theorem OfHyp_any (m : Nat) (u : Value) (l : List Nat) (w : World) (hm : m ≤ 8) (hf : Fam m l) (h : Ints w u (N l)) :
    Calls Try.prog 31 #[.int .i64 m, u] w (MakesI w (madeE m (blk m (cmp m l)) (N ((List.range (2 ^ m)).filter (hypB (rk (blk m (cmp m l))) m))) (N l)) m (blk m (cmp m l))) := by
  have HU := hid h
  obtain ⟨a, cap, hv, _, _⟩ := h.nats
  subst hv
  have HB0 := hid (below_box w #[.int .i64 0, .slice none 0 0])
  have EG : Hid (Enters 22) := fun args w => enters_of Try.func22 (by kernel_rfl) rfl args w
  have HA := hid (family_any m _ (N l) _ (HU.out.below HB0.out))
  rw [fam_mk hm hf] at HA
  have HC := hid (leastOut_ok m _ _ _ hm hf (HU.out.below HB0.out))
  have HBF : Hid (Fam m (blk m (cmp m l))) := Fam.range m _
  have HKL := hid (Nat.le_trans (fam_len hm HBF.out) (by decide : 256 ≤ 17592186044416))
  have AI := hid (all_hyp (K := blk m (cmp m l)) hm)
  clear HBF
  generalize blk m (cmp m l) = K at *
  generalize N ((List.range (2 ^ m)).filter (hypB (rk K) m)) = zs at *
  go_enter Try.func31, Try.ntmps31
  go_wp2_with fail
  refine HA.out.mono ?_
  rintro e w1 ⟨rfl, rfl⟩
  go_wp2_with fail
  refine HC.out.mono ?_
  rintro e w2 ⟨r, rfl, ho, hb2⟩
  have HX := hid (box1 hb2)
  have HB := hid (HB0.out.trans (hb2.mono HB0.out.size))
  have HR := hid (ho.ints HKL.out)
  have HO := hid ho
  obtain ⟨a3, cap3, hr, _, _⟩ := HR.out.nats
  subst hr
  have MA := hid (made_any AI.out EG.out HR.out (HU.out.below HB.out))
  clear hb2 ho
  by_cases hq : madeE m K zs (N l) = 0
  · rw [if_pos hq] at MA
    have HQ := hid hq
    go_wp2_with fail
    refine MA.out.mono ?_
    rintro e w4 ⟨rfl, hb4⟩
    have H4 := hid ((hb4.block _ HX.out.2).trans HX.out.1)
    have HB4 := hid (HB.out.trans (hb4.mono HB.out.size))
    have HS := hid (set_two (x := .int .i64 m) (y := .slice a3 K.length cap3) H4.out)
    have HD := hid (below_two (b := w.heap.size) (x := .int .i64 m) (y := .slice a3 K.length cap3) HB4.out (Nat.le_refl _))
    have HRR := hid (((HO.out.below hb4).set2 (b := w.heap.size) (x := .int .i64 m) (y := .slice a3 K.length cap3) (by simp)).ints HKL.out)
    obtain ⟨y2, y3, g2, g3⟩ := two_cells H4.out
    clear hb4
    go_wp2_with fail
    obtain ⟨c0, c1⟩ := HS.out
    refine bodyPost_ret (v := .tuple #[.agg #[.int .i64 m, .slice a3 K.length cap3], .int .i64 0]) ?_ rfl ⟨fun _ => ⟨_, rfl, HRR.out, HD.out⟩, fun e => absurd HQ.out e⟩
    simp [results, Try.f31, go_sem, c0, c1]
  · rw [if_neg hq] at MA
    have HQ : Hid (madeE m K zs (N l) = 3) := madeE_three hq
    go_wp2_with fail
    refine MA.out.mono ?_
    rintro e w4 ⟨rfl, hb4⟩
    have H4 := hid ((hb4.block _ HX.out.2).trans HX.out.1)
    have HB4 := hid (HB.out.trans (hb4.mono HB.out.size))
    have HS := hid (set_two (x := .int .i64 0) (y := .slice none 0 0) H4.out)
    have HD := hid (below_two (b := w.heap.size) (x := .int .i64 0) (y := .slice none 0 0) HB4.out (Nat.le_refl _))
    obtain ⟨y2, y3, g2, g3⟩ := two_cells H4.out
    clear hb4
    go_wp2_with fail
    obtain ⟨c0, c1⟩ := HS.out
    refine bodyPost_ret (v := .tuple #[.agg #[.int .i64 0, .slice none 0 0], .int .i64 3]) ?_ rfl ⟨fun e => absurd (HQ.out.symm.trans e) (by decide), fun _ => ⟨by rw [HQ.out], HD.out⟩⟩
    simp [results, Try.f31, go_sem, c0, c1]
end Go.Proofs.Ythbldeloocmakaa
