/- The calls of package axioms that make a matroid, whatever family is handed in. -/
import Derived.Test.YtkebhhpfnalbfacMadeQ
import Derived.Test.YtkebhhpfnalbfacPlainAll
import Derived.Test.YtkebhhpfnalbfacBlockQ
import Derived.Test.YtkebhhpfnalbfacRefBgQ
namespace Go.Proofs.Ytkebhhpfnalbfac
open Go.RowKit

set_option maxHeartbeats 800000 in
theorem madeOf_bad (g : Nat) (n q : Int) (v u : Value) (mz ys : List Int) (w : World) (hv : Ints w v mz) (hu : Ints w u ys) (eg : Enters g) (hq : q ≠ 0)
    (hg : ∀ w1, Below w.heap.size w w1 → Calls Try.prog g #[.agg #[.int .i64 n, v]] w1 fun e w' => e = .returned (.tuple #[.slice none 0 0, .int .i64 q]) ∧ Below w1.heap.size w1 w') :
    Calls Try.prog 77 #[.agg #[.int .i64 n, v], .func (.func g) #[] #[], u] w fun e w' => e = .returned (.tuple #[.agg #[.int .i64 0, .slice none 0 0], .int .i64 3]) ∧ Below w.heap.size w w' := by
  have HG := hid hg
  clear hg
  obtain ⟨a, cap, rfl, _, _⟩ := hv
  obtain ⟨a2, cap2, rfl, _, _⟩ := hu
  unfold Enters at eg
  have hq' : (q != 0) = true := by rw [bne_iff_ne]; exact hq
  have HB0 := hid (boxM_below w n (.slice a mz.length cap))
  have HC := hid (HG.out _ HB0.out)
  have HX : Hid (∀ w2, Below (boxM w n (.slice a mz.length cap)).heap.size (boxM w n (.slice a mz.length cap)) w2 → _) := fun w2 h => boxM_blocks h
  have HS := hid (boxM_size w n (.slice a mz.length cap))
  go_enter Try.func77, Try.ntmps77
  go_wp2_with fail
  refine HC.out.mono ?_
  rintro e w2 ⟨rfl, hb2⟩
  obtain ⟨hx0, hx1⟩ := HX.out w2 hb2
  obtain ⟨y2, y3, g2, g3⟩ := two_cells hx1
  have HB := hid (HB0.out.trans (hb2.mono HB0.out.size))
  have HCC := hid (set_two (x := .int .i64 0) (y := .slice none 0 0) hx1)
  have HD := hid (below_two (b := w.heap.size + 1) (x := .int .i64 0) (y := .slice none 0 0) HB.out (by omega))
  clear hb2 hx0 hx1
  go_wp2_with fail
  obtain ⟨c0, c1⟩ := HCC.out
  refine bodyPost_ret (v := .tuple #[.agg #[.int .i64 0, .slice none 0 0], .int .i64 3]) ?_ rfl ⟨rfl, HD.out⟩
  simp [results, Try.f77, go_sem, c0, c1]
/-- The function tells this of the matroid with these bases; if it is none, an error. -/
def TellsAll (g m : Nat) (K : List Nat) (zs : List Int) : Prop :=
  (chkR m (N K) = 0 → Tells g m K zs) ∧ (chkR m (N K) ≠ 0 → ∀ (r : Value) (w : World), Ints w r (N K) → Calls Try.prog g #[.agg #[.int .i64 m, r]] w fun e w' => e = .returned (.tuple #[.slice none 0 0, .int .i64 (chkR m (N K))]) ∧ Below w.heap.size w w')
/-- What madeOf answers: 0 or ErrShape. -/
def madeE (m : Nat) (K : List Nat) (zs ys : List Int) : Int := if chkR m (N K) = 0 ∧ zs = ys then 0 else 3
theorem made_any {g m : Nat} {K : List Nat} {zs ys : List Int} (ht : TellsAll g m K zs) (eg : Enters g) {v u : Value} {w : World} (hv : Ints w v (N K)) (hu : Ints w u ys) :
    Calls Try.prog 77 #[.agg #[.int .i64 m, v], .func (.func g) #[] #[], u] w fun e w' => e = .returned (if madeE m K zs ys = 0 then .tuple #[.agg #[.int .i64 m, v], .int .i64 0] else .tuple #[.agg #[.int .i64 0, .slice none 0 0], .int .i64 3]) ∧ Below w.heap.size w w' := by
  by_cases hc : chkR m (N K) = 0
  · have := madeOf_ok g m v u (N K) zs ys w hv hu eg (fun w1 hb1 => ht.1 hc v w1 (hv.below hb1))
    by_cases e : zs = ys
    · rw [if_pos (by simpa using e)] at this
      have hE : madeE m K zs ys = 0 := by unfold madeE; exact if_pos ⟨hc, e⟩
      rw [if_pos hE]
      exact this
    · rw [if_neg (by simpa using e)] at this
      have hE : madeE m K zs ys = 3 := by unfold madeE; exact if_neg (fun c => e c.2)
      rw [if_neg (by rw [hE]; decide)]
      exact this
  · have hE : madeE m K zs ys = 3 := by unfold madeE; exact if_neg (fun c => hc c.1)
    rw [if_neg (by rw [hE]; decide)]
    exact madeOf_bad g m _ v u (N K) ys w hv hu eg hc (fun w1 hb1 => ht.2 hc v w1 (hv.below hb1))
theorem bas_of_chk {m : Nat} {K : List Nat} (h : chkR m (N K) = 0) : Fam m K ∧ Bas K := by
  obtain ⟨m', l, h1, _, h2, h3, h4⟩ := chk_of h
  have e1 : m = m' := by omega
  have e2 : K = l := by
    have := congrArg (List.map Int.toNat) h2
    simpa [N, List.map_map, Function.comp_def] using this
  subst e1 e2
  exact ⟨h3, h4⟩
theorem all_ind {m : Nat} {K : List Nat} (hm : m ≤ 8) : TellsAll 18 m K (N (indL m K)) :=
  ⟨fun h => tells_ind hm (bas_of_chk h).1 (bas_of_chk h).2, fun h r w hr => Independents_bad m r (N K) w hr h⟩
theorem all_cir {m : Nat} {K : List Nat} (hm : m ≤ 8) : TellsAll 19 m K (N (cirL m K)) :=
  ⟨fun h => tells_cir hm (bas_of_chk h).1 (bas_of_chk h).2, fun h r w hr => Circuits_bad m r (N K) w hr h⟩
theorem all_flat {m : Nat} {K : List Nat} (hm : m ≤ 8) : TellsAll 21 m K (N (flatL m K)) :=
  ⟨fun h => tells_flat hm (bas_of_chk h).1 (bas_of_chk h).2, fun h r w hr => Flats_bad m r (N K) w hr h⟩
theorem all_hyp {m : Nat} {K : List Nat} (hm : m ≤ 8) : TellsAll 22 m K (N ((List.range (2 ^ m)).filter (hypB (rk K) m))) :=
  ⟨fun h => tells_hyp hm (bas_of_chk h).1 (bas_of_chk h).2, fun h r w hr => Hyperplanes_bad m r (N K) w hr h⟩
theorem all_rk {m : Nat} {K : List Nat} (hm : m ≤ 8) : TellsAll 20 m K (N ((List.range (2 ^ m)).map (rk K))) :=
  ⟨fun h => tells_rk hm (bas_of_chk h).1 (bas_of_chk h).2, fun h r w hr => Ranks_bad m r (N K) w hr h⟩
/-- What is handed back: a matroid, or an error. -/
def MakesI (w : World) (q n : Int) (l : List Nat) (e : Ending) (w' : World) : Prop := (q = 0 → GivesM w n l e w') ∧ (q ≠ 0 → e = .returned (.tuple #[.agg #[.int .i64 0, .slice none 0 0], .int .i64 q]) ∧ Below w.heap.size w w')
def mstL (l : List Nat) : List Nat := l.filter fun s => !l.any (otherOut s)
set_option maxHeartbeats 1600000 in
theorem OfInd_any (m : Nat) (u : Value) (l : List Nat) (w : World) (hm : m ≤ 8) (hf : Fam m l) (h : Ints w u (N l)) :
    Calls Try.prog 28 #[.int .i64 m, u] w (MakesI w (madeE m (mstL l) (N (indL m (mstL l))) (N l)) m (mstL l)) := by
  have HU := hid h
  have hK : Fam m (mstL l) := ⟨hf.up.sublist List.filter_sublist, fun s hs => hf.lt s (List.mem_filter.1 hs).1⟩
  have HKL := hid (Nat.le_trans (fam_len hm hK) (by decide : 256 ≤ 17592186044416))
  have HM := hid (fun w1 (hb1 : Below w.heap.size w w1) => Most_good m u l w1 (hf.lt256 hm) (HU.out.below hb1) (fam_mk hm hf))
  change Hid (∀ w1, Below w.heap.size w w1 → Calls _ _ _ w1 fun e w' => ∃ r, e = .returned (.tuple #[r, .int .i64 0]) ∧ Own _ w' r (mstL l) ∧ _) at HM
  have AI := hid (all_ind (K := mstL l) hm)
  obtain ⟨a, cap, hv, _, _⟩ := h.nats
  subst hv
  have HB0 := hid (below_box w #[.int .i64 0, .slice none 0 0])
  have HC := hid (HM.out _ HB0.out)
  have EG : Hid (Enters 18) := fun args w => enters_of Try.func18 (by kernel_rfl) rfl args w
  generalize mstL l = K at *
  generalize N (indL m K) = zs at *
  go_enter Try.func28, Try.ntmps28
  go_wp2_with fail
  refine HC.out.mono ?_
  rintro e w2 ⟨r, rfl, ho, hb2⟩
  have HX := hid (box1 hb2)
  have HB := hid (HB0.out.trans (hb2.mono HB0.out.size))
  have HR := hid (ho.ints HKL.out)
  have HO := hid ho
  obtain ⟨a3, cap3, hr, _, _⟩ := HR.out.nats
  subst hr
  have MA := hid (made_any AI.out EG.out HR.out (HU.out.below HB.out))
  clear hb2 ho
  by_cases hq : madeE m K zs (N l) = 0
  · rw [if_pos hq] at MA
    have HQ := hid hq
    go_wp2_with fail
    refine MA.out.mono ?_
    rintro e w4 ⟨rfl, hb4⟩
    have H4 := hid ((hb4.block _ HX.out.2).trans HX.out.1)
    have HB4 := hid (HB.out.trans (hb4.mono HB.out.size))
    have HS := hid (set_two (x := .int .i64 m) (y := .slice a3 K.length cap3) H4.out)
    have HD := hid (below_two (b := w.heap.size) (x := .int .i64 m) (y := .slice a3 K.length cap3) HB4.out (Nat.le_refl _))
    have HRR := hid (((HO.out.below hb4).set2 (b := w.heap.size) (x := .int .i64 m) (y := .slice a3 K.length cap3) (by simp)).ints HKL.out)
    obtain ⟨y2, y3, g2, g3⟩ := two_cells H4.out
    clear hb4
    go_wp2_with fail
    obtain ⟨c0, c1⟩ := HS.out
    refine bodyPost_ret (v := .tuple #[.agg #[.int .i64 m, .slice a3 K.length cap3], .int .i64 0]) ?_ rfl ⟨fun _ => ⟨_, rfl, HRR.out, HD.out⟩, fun e => absurd HQ.out e⟩
    simp [results, Try.f28, go_sem, c0, c1]
  · rw [if_neg hq] at MA
    have HQ : Hid (madeE m K zs (N l) = 3) := by
      show _ = _
      unfold madeE at hq ⊢
      split
      · rename_i h; rw [if_pos h] at hq; exact absurd rfl hq
      · rfl
    go_wp2_with fail
    refine MA.out.mono ?_
    rintro e w4 ⟨rfl, hb4⟩
    have H4 := hid ((hb4.block _ HX.out.2).trans HX.out.1)
    have HB4 := hid (HB.out.trans (hb4.mono HB.out.size))
    have HS := hid (set_two (x := .int .i64 0) (y := .slice none 0 0) H4.out)
    have HD := hid (below_two (b := w.heap.size) (x := .int .i64 0) (y := .slice none 0 0) HB4.out (Nat.le_refl _))
    obtain ⟨y2, y3, g2, g3⟩ := two_cells H4.out
    clear hb4
    go_wp2_with fail
    obtain ⟨c0, c1⟩ := HS.out
    refine bodyPost_ret (v := .tuple #[.agg #[.int .i64 0, .slice none 0 0], .int .i64 3]) ?_ rfl ⟨fun e => absurd (HQ.out.symm.trans e) (by decide), fun _ => ⟨by rw [HQ.out], HD.out⟩⟩
    simp [results, Try.f28, go_sem, c0, c1]
end Go.Proofs.Ytkebhhpfnalbfac

namespace Go.Proofs.Ytkebhhpfnalbfac
open Go.RowKit

theorem madeE_three {m : Nat} {K : List Nat} {zs ys : List Int} (hq : madeE m K zs ys ≠ 0) : madeE m K zs ys = 3 := by
  unfold madeE at hq ⊢
  split
  · rename_i h; rw [if_pos h] at hq; exact absurd rfl hq
  · rfl
set_option maxHeartbeats 1600000 in
theorem OfCir_any (m : Nat) (u : Value) (l : List Nat) (w : World) (hm : m ≤ 8) (hf : Fam m l) (h : Ints w u (N l)) :
    Calls Try.prog 29 #[.int .i64 m, u] w (MakesI w (madeE m (cmp m (blk m l)) (N (cirL m (cmp m (blk m l)))) (N l)) m (cmp m (blk m l))) := by
  have HU := hid h
  obtain ⟨a, cap, hv, _, _⟩ := h.nats
  subst hv
  have HB0 := hid (below_box w #[.int .i64 0, .slice none 0 0])
  have EG : Hid (Enters 19) := fun args w => enters_of Try.func19 (by kernel_rfl) rfl args w
  have HC := hid (Blocker_fam m _ l _ hm hf (HU.out.below HB0.out))
  have HBF : Hid (Fam m (blk m l)) := Fam.range m _
  have HKL := hid (Nat.le_trans (fam_len hm (cmp_fam HBF.out)) (by decide : 256 ≤ 17592186044416))
  have AI := hid (all_cir (K := cmp m (blk m l)) hm)
  have HDA := hid (fun v w1 (hi : Ints w1 v (N (blk m l))) => Cpl_any m v _ w1 hm HBF.out (fam_len hm HBF.out) hi)
  generalize cmp m (blk m l) = K at *
  generalize N (cirL m K) = zs at *
  go_enter Try.func29, Try.ntmps29
  go_wp2_with fail
  refine HC.out.mono ?_
  rintro e w1 ⟨r1, rfl, ho1, hb1⟩
  have HR1 := hid (ho1.ints (Nat.le_trans (fam_len hm HBF.out) (by decide)))
  have HB1 := hid hb1
  obtain ⟨a1, cap1, hr1, _, _⟩ := HR1.out.nats
  subst hr1
  have HD1 := hid (HDA.out _ w1 HR1.out)
  clear ho1 hb1
  go_wp2_with fail
  refine HD1.out.mono ?_
  rintro e w2 ⟨r, rfl, ho', hb2'⟩
  have hb2 := HB1.out.trans (hb2'.mono HB1.out.size)
  have ho := ho'.mono HB1.out.size
  clear hb2' ho'
  have HX := hid (box1 hb2)
  have HB := hid (HB0.out.trans (hb2.mono HB0.out.size))
  have HR := hid (ho.ints HKL.out)
  have HO := hid ho
  obtain ⟨a3, cap3, hr, _, _⟩ := HR.out.nats
  subst hr
  have MA := hid (made_any AI.out EG.out HR.out (HU.out.below HB.out))
  clear hb2 ho
  by_cases hq : madeE m K zs (N l) = 0
  · rw [if_pos hq] at MA
    have HQ := hid hq
    go_wp2_with fail
    refine MA.out.mono ?_
    rintro e w4 ⟨rfl, hb4⟩
    have H4 := hid ((hb4.block _ HX.out.2).trans HX.out.1)
    have HB4 := hid (HB.out.trans (hb4.mono HB.out.size))
    have HS := hid (set_two (x := .int .i64 m) (y := .slice a3 K.length cap3) H4.out)
    have HD := hid (below_two (b := w.heap.size) (x := .int .i64 m) (y := .slice a3 K.length cap3) HB4.out (Nat.le_refl _))
    have HRR := hid (((HO.out.below hb4).set2 (b := w.heap.size) (x := .int .i64 m) (y := .slice a3 K.length cap3) (by simp)).ints HKL.out)
    obtain ⟨y2, y3, g2, g3⟩ := two_cells H4.out
    clear hb4
    go_wp2_with fail
    obtain ⟨c0, c1⟩ := HS.out
    refine bodyPost_ret (v := .tuple #[.agg #[.int .i64 m, .slice a3 K.length cap3], .int .i64 0]) ?_ rfl ⟨fun _ => ⟨_, rfl, HRR.out, HD.out⟩, fun e => absurd HQ.out e⟩
    simp [results, Try.f29, go_sem, c0, c1]
  · rw [if_neg hq] at MA
    have HQ : Hid (madeE m K zs (N l) = 3) := madeE_three hq
    go_wp2_with fail
    refine MA.out.mono ?_
    rintro e w4 ⟨rfl, hb4⟩
    have H4 := hid ((hb4.block _ HX.out.2).trans HX.out.1)
    have HB4 := hid (HB.out.trans (hb4.mono HB.out.size))
    have HS := hid (set_two (x := .int .i64 0) (y := .slice none 0 0) H4.out)
    have HD := hid (below_two (b := w.heap.size) (x := .int .i64 0) (y := .slice none 0 0) HB4.out (Nat.le_refl _))
    obtain ⟨y2, y3, g2, g3⟩ := two_cells H4.out
    clear hb4
    go_wp2_with fail
    obtain ⟨c0, c1⟩ := HS.out
    refine bodyPost_ret (v := .tuple #[.agg #[.int .i64 0, .slice none 0 0], .int .i64 3]) ?_ rfl ⟨fun e => absurd (HQ.out.symm.trans e) (by decide), fun _ => ⟨by rw [HQ.out], HD.out⟩⟩
    simp [results, Try.f29, go_sem, c0, c1]
set_option maxHeartbeats 1600000 in
theorem OfHyp_any (m : Nat) (u : Value) (l : List Nat) (w : World) (hm : m ≤ 8) (hf : Fam m l) (h : Ints w u (N l)) :
    Calls Try.prog 31 #[.int .i64 m, u] w (MakesI w (madeE m (blk m (cmp m l)) (N ((List.range (2 ^ m)).filter (hypB (rk (blk m (cmp m l))) m))) (N l)) m (blk m (cmp m l))) := by
  have HU := hid h
  obtain ⟨a, cap, hv, _, _⟩ := h.nats
  subst hv
  have HB0 := hid (below_box w #[.int .i64 0, .slice none 0 0])
  have EG : Hid (Enters 22) := fun args w => enters_of Try.func22 (by kernel_rfl) rfl args w
  have HA := hid (family_any m _ (N l) _ (HU.out.below HB0.out))
  rw [fam_mk hm hf] at HA
  have HC := hid (leastOut_ok m _ _ _ hm hf (HU.out.below HB0.out))
  have HBF : Hid (Fam m (blk m (cmp m l))) := Fam.range m _
  have HKL := hid (Nat.le_trans (fam_len hm HBF.out) (by decide : 256 ≤ 17592186044416))
  have AI := hid (all_hyp (K := blk m (cmp m l)) hm)
  clear HBF
  generalize blk m (cmp m l) = K at *
  generalize N ((List.range (2 ^ m)).filter (hypB (rk K) m)) = zs at *
  go_enter Try.func31, Try.ntmps31
  go_wp2_with fail
  refine HA.out.mono ?_
  rintro e w1 ⟨rfl, rfl⟩
  go_wp2_with fail
  refine HC.out.mono ?_
  rintro e w2 ⟨r, rfl, ho, hb2⟩
  have HX := hid (box1 hb2)
  have HB := hid (HB0.out.trans (hb2.mono HB0.out.size))
  have HR := hid (ho.ints HKL.out)
  have HO := hid ho
  obtain ⟨a3, cap3, hr, _, _⟩ := HR.out.nats
  subst hr
  have MA := hid (made_any AI.out EG.out HR.out (HU.out.below HB.out))
  clear hb2 ho
  by_cases hq : madeE m K zs (N l) = 0
  · rw [if_pos hq] at MA
    have HQ := hid hq
    go_wp2_with fail
    refine MA.out.mono ?_
    rintro e w4 ⟨rfl, hb4⟩
    have H4 := hid ((hb4.block _ HX.out.2).trans HX.out.1)
    have HB4 := hid (HB.out.trans (hb4.mono HB.out.size))
    have HS := hid (set_two (x := .int .i64 m) (y := .slice a3 K.length cap3) H4.out)
    have HD := hid (below_two (b := w.heap.size) (x := .int .i64 m) (y := .slice a3 K.length cap3) HB4.out (Nat.le_refl _))
    have HRR := hid (((HO.out.below hb4).set2 (b := w.heap.size) (x := .int .i64 m) (y := .slice a3 K.length cap3) (by simp)).ints HKL.out)
    obtain ⟨y2, y3, g2, g3⟩ := two_cells H4.out
    clear hb4
    go_wp2_with fail
    obtain ⟨c0, c1⟩ := HS.out
    refine bodyPost_ret (v := .tuple #[.agg #[.int .i64 m, .slice a3 K.length cap3], .int .i64 0]) ?_ rfl ⟨fun _ => ⟨_, rfl, HRR.out, HD.out⟩, fun e => absurd HQ.out e⟩
    simp [results, Try.f31, go_sem, c0, c1]
  · rw [if_neg hq] at MA
    have HQ : Hid (madeE m K zs (N l) = 3) := madeE_three hq
    go_wp2_with fail
    refine MA.out.mono ?_
    rintro e w4 ⟨rfl, hb4⟩
    have H4 := hid ((hb4.block _ HX.out.2).trans HX.out.1)
    have HB4 := hid (HB.out.trans (hb4.mono HB.out.size))
    have HS := hid (set_two (x := .int .i64 0) (y := .slice none 0 0) H4.out)
    have HD := hid (below_two (b := w.heap.size) (x := .int .i64 0) (y := .slice none 0 0) HB4.out (Nat.le_refl _))
    obtain ⟨y2, y3, g2, g3⟩ := two_cells H4.out
    clear hb4
    go_wp2_with fail
    obtain ⟨c0, c1⟩ := HS.out
    refine bodyPost_ret (v := .tuple #[.agg #[.int .i64 0, .slice none 0 0], .int .i64 3]) ?_ rfl ⟨fun e => absurd (HQ.out.symm.trans e) (by decide), fun _ => ⟨by rw [HQ.out], HD.out⟩⟩
    simp [results, Try.f31, go_sem, c0, c1]
end Go.Proofs.Ytkebhhpfnalbfac

namespace Go.Proofs.Ytkebhhpfnalbfac
open Go.RowKit

theorem take_below {t : Nat} {l : List Nat} (h : l.Pairwise (· < ·)) : l.take (l.filter (· < t)).length = l.filter (· < t) := by
  induction l with
  | nil => rfl
  | cons x l ih =>
    rw [List.pairwise_cons] at h
    by_cases hx : x < t
    · rw [List.filter_cons_of_pos (by simpa using hx)]
      simp [ih h.2]
    · rw [List.filter_cons_of_neg (by simpa using hx)]
      have : l.filter (· < t) = [] := List.filter_eq_nil_iff.2 fun y hy => by
        have := h.1 y hy
        simp
        omega
      rw [this]
      rfl
/-- The bases by the flats: the least sets that lie in none but that of all. -/
def basFl (m : Nat) (l : List Nat) : List Nat := blk m (cmp m (l.filter (· < 2 ^ m - 1)))
set_option maxHeartbeats 1600000 in
theorem OfFlat_any (m : Nat) (u : Value) (l : List Nat) (w : World) (hm : m ≤ 8) (hf : Fam m l) (h : Ints w u (N l)) (hcap : ∀ a L cap, u = .slice a L cap → L ≤ cap) :
    Calls Try.prog 30 #[.int .i64 m, u] w (MakesI w (madeE m (basFl m l) (N (flatL m (basFl m l))) (N l)) m (basFl m l)) := by
  have HU := hid h
  obtain ⟨a, cap, hv, _, _⟩ := h.nats
  subst hv
  have hcp := hcap _ _ _ rfl
  clear hcap
  have HB0 := hid (below_box w #[.int .i64 0, .slice none 0 0])
  have EG : Hid (Enters 21) := fun args w => enters_of Try.func21 (by kernel_rfl) rfl args w
  have HA := hid (family_any m _ (N l) _ (HU.out.below HB0.out))
  rw [fam_mk hm hf] at HA
  obtain ⟨T, HT, hT2, hT, hT0⟩ : ∃ T : Nat, Hid (T = 2 ^ m) ∧ T ≤ 256 ∧ wrap64 (2 ^ m) = (T : Int) ∧ 1 ≤ T := ⟨2 ^ m, rfl, (pow_wrap _ hm).2, (pow_wrap _ hm).1, Nat.one_le_two_pow⟩
  obtain ⟨t, Ht⟩ : ∃ t : Nat, Hid (T - 1 = t) := ⟨_, rfl⟩
  have hti : (T : Int) - 1 = (t : Int) := by have := Ht.out; omega
  have HBN := hid (Bin_any _ l t _ (fam_len hm hf) hf.up (HU.out.below HB0.out))
  have HTK := hid (take_below (t := t) hf.up)
  have HKF := hid (show basFl m l = blk m (cmp m (l.filter (· < t))) by unfold basFl; rw [← HT.out, Ht.out])
  have HFL : Hid (Fam m (l.filter (· < t))) := ⟨hf.up.sublist List.filter_sublist, fun s hs => hf.lt s (List.mem_filter.1 hs).1⟩
  have HTK2 : Hid ((l.filter (· < t)).length ≤ l.length) := List.length_filter_le _ _
  have HC := hid (fun w1 (hb1 : Below w.heap.size w w1) => leastOut_ok m _ _ w1 hm HFL.out (by have := (HU.out.below hb1).take HTK2.out; rw [HTK.out] at this; exact this))
  rw [← HKF.out] at HC
  have HKL : Hid ((basFl m l).length ≤ 17592186044416) := by
    show _ ≤ _
    rw [HKF.out]
    exact Nat.le_trans (fam_len hm (Fam.range m _)) (by decide : 256 ≤ 17592186044416)
  have AI := hid (all_flat (K := basFl m l) hm)
  clear HTK HFL HKF
  generalize basFl m l = K at *
  generalize N (flatL m K) = zs at *
  generalize (l.filter (· < t)).length = k at *
  have hk1 := HTK2.out
  generalize memB t l = mb at *
  go_enter Try.func30, Try.ntmps30
  go_wp2_with fail
  refine HA.out.mono ?_
  rintro e w1 ⟨rfl, rfl⟩
  go_wp2_with fail
  refine HBN.out.mono ?_
  rintro e w1 ⟨rfl, hb1⟩
  have HB1 := hid hb1
  have HC1 := hid (HC.out w1 (HB0.out.trans (hb1.mono HB0.out.size)))
  clear hb1
  go_wp2_with fail
  refine HC1.out.mono ?_
  rintro e w2 ⟨r, rfl, ho', hb2'⟩
  have hb2 := HB1.out.trans (hb2'.mono HB1.out.size)
  have ho := ho'.mono HB1.out.size
  clear hb2' ho'
  have HX := hid (box1 hb2)
  have HB := hid (HB0.out.trans (hb2.mono HB0.out.size))
  have HR := hid (ho.ints HKL.out)
  have HO := hid ho
  obtain ⟨a3, cap3, hr, _, _⟩ := HR.out.nats
  subst hr
  have MA := hid (made_any AI.out EG.out HR.out (HU.out.below HB.out))
  clear hb2 ho
  by_cases hq : madeE m K zs (N l) = 0
  · rw [if_pos hq] at MA
    have HQ := hid hq
    go_wp2_with fail
    refine MA.out.mono ?_
    rintro e w4 ⟨rfl, hb4⟩
    have H4 := hid ((hb4.block _ HX.out.2).trans HX.out.1)
    have HB4 := hid (HB.out.trans (hb4.mono HB.out.size))
    have HS := hid (set_two (x := .int .i64 m) (y := .slice a3 K.length cap3) H4.out)
    have HD := hid (below_two (b := w.heap.size) (x := .int .i64 m) (y := .slice a3 K.length cap3) HB4.out (Nat.le_refl _))
    have HRR := hid (((HO.out.below hb4).set2 (b := w.heap.size) (x := .int .i64 m) (y := .slice a3 K.length cap3) (by simp)).ints HKL.out)
    obtain ⟨y2, y3, g2, g3⟩ := two_cells H4.out
    clear hb4
    go_wp2_with fail
    obtain ⟨c0, c1⟩ := HS.out
    refine bodyPost_ret (v := .tuple #[.agg #[.int .i64 m, .slice a3 K.length cap3], .int .i64 0]) ?_ rfl ⟨fun _ => ⟨_, rfl, HRR.out, HD.out⟩, fun e => absurd HQ.out e⟩
    simp [results, Try.f30, go_sem, c0, c1]
  · rw [if_neg hq] at MA
    have HQ : Hid (madeE m K zs (N l) = 3) := madeE_three hq
    go_wp2_with fail
    refine MA.out.mono ?_
    rintro e w4 ⟨rfl, hb4⟩
    have H4 := hid ((hb4.block _ HX.out.2).trans HX.out.1)
    have HB4 := hid (HB.out.trans (hb4.mono HB.out.size))
    have HS := hid (set_two (x := .int .i64 0) (y := .slice none 0 0) H4.out)
    have HD := hid (below_two (b := w.heap.size) (x := .int .i64 0) (y := .slice none 0 0) HB4.out (Nat.le_refl _))
    obtain ⟨y2, y3, g2, g3⟩ := two_cells H4.out
    clear hb4
    go_wp2_with fail
    obtain ⟨c0, c1⟩ := HS.out
    refine bodyPost_ret (v := .tuple #[.agg #[.int .i64 0, .slice none 0 0], .int .i64 3]) ?_ rfl ⟨fun e => absurd (HQ.out.symm.trans e) (by decide), fun _ => ⟨by rw [HQ.out], HD.out⟩⟩
    simp [results, Try.f30, go_sem, c0, c1]
end Go.Proofs.Ytkebhhpfnalbfac

namespace Go.Proofs.Ytkebhhpfnalbfac
open Go.RowKit

/-- What OfRanks asks. -/
def rankZ (zs : List Int) (T s : Nat) : Bool := zs.getD s 0 == (pop s : Int) && zs.getD s 0 == zs.getD (T - 1) 0
theorem OfRanksZ_ok (s bx T : Nat) (v : Value) (zs : List Int) (w : World) (hT : T ≤ 256) (hs : s < T) (hz : zs.length = T) (hbx : w.cell? ⟨bx, 0, none⟩ = some v) (h : Ints w v zs) :
    Calls Try.prog 86 #[.int .i64 s, .pointer (some ⟨bx, 0, none⟩)] w fun e w' => e = .returned (.bool (rankZ zs T s)) ∧ Below w.heap.size w w' := by
  obtain ⟨a, cap, rfl, _, h0⟩ := h
  obtain ⟨b, off, rfl, h1, h2⟩ := h0 (by omega)
  rw [hz] at h2 hbx
  have hc := h2 s hs
  have hc2 := h2 (T - 1) (by omega)
  have HS := hid (fun w' => size_any s w' (by omega))
  obtain ⟨t, Ht⟩ : ∃ t : Nat, Hid (T - 1 = t) := ⟨_, rfl⟩
  have hti : (T : Int) - 1 = (t : Int) := by have := Ht.out; omega
  have htT : t < T := by have := Ht.out; omega
  unfold rankZ
  rw [Ht.out] at hc2 ⊢
  clear h2 Ht h0
  generalize zs.getD s 0 = x at *
  generalize zs.getD t 0 = y at *
  generalize pop s = p at *
  by_cases hq : x = (p : Int)
  · subst hq
    go_enter Try.func86, Try.ntmps86
    go_wp2_with fail
    go_quiet ((go_at_call 87; refine (HS.out _).mono ?_; rintro e w' ⟨rfl, rfl⟩; exact ⟨rfl, _, rfl⟩))
    go_wp2_with fail
    go_ret
    exact ⟨ret_bool (by rw [Bool.eq_iff_iff]; simp), drewN_below _ _ _⟩
  · have hq' : (x == (p : Int)) = false := by rw [beq_eq_false_iff_ne]; omega
    rw [hq']
    go_enter Try.func86, Try.ntmps86
    go_wp2_with fail
    go_quiet ((go_at_call 87; refine (HS.out _).mono ?_; rintro e w' ⟨rfl, rfl⟩; exact ⟨rfl, _, rfl⟩))
    go_wp2_with fail
    go_ret
    exact ⟨ret_bool rfl, drewN_below _ _ _⟩
/-- The bases by the ranks. -/
def basZ (m : Nat) (zs : List Int) : List Nat := (List.range (2 ^ m)).filter (rankZ zs (2 ^ m))

set_option maxHeartbeats 1600000 in
theorem OfRk_any (m : Nat) (u : Value) (zs0 : List Int) (w : World) (hm : m ≤ 8) (hl : zs0.length = 2 ^ m) (h : Ints w u zs0) :
    Calls Try.prog 37 #[.int .i64 m, u] w (MakesI w (madeE m (basZ m zs0) (N ((List.range (2 ^ m)).map (rk (basZ m zs0)))) zs0) m (basZ m zs0)) := by
  have HUI := hid h
  obtain ⟨a, rcap, rfl, _, h0⟩ := h
  obtain ⟨rb, roff, rfl, _, _⟩ := h0 (by rw [hl]; exact Nat.two_pow_pos m)
  clear h0
  have EG : Hid (Enters 20) := fun args w => enters_of Try.func20 (by kernel_rfl) rfl args w
  have HKL : Hid ((basZ m zs0).length ≤ 17592186044416) := Nat.le_trans (fam_len hm (Fam.range m _)) (by decide : 256 ≤ 17592186044416)
  have AI := hid (all_rk (K := basZ m zs0) hm)
  have HK := hid (setsCheck_any m 0)
  have HK0 : Hid (setR m 0 = 0) := by
    show _ = _
    unfold setR
    rw [if_pos ⟨by omega, by omega, by omega, by rw [Int.toNat_natCast]; exact Int.pow_pos (by decide)⟩]
  rw [HK0.out] at HK
  have HLS : Hid ((List.range (2 ^ m)).filter (rankZ zs0 (2 ^ m)) = basZ m zs0) := rfl
  obtain ⟨T, HT, hT2, hT⟩ : ∃ T : Nat, Hid (T = 2 ^ m) ∧ T ≤ 256 ∧ wrap64 (2 ^ m) = (T : Int) := ⟨2 ^ m, rfl, (pow_wrap _ hm).2, (pow_wrap _ hm).1⟩
  rw [← HT.out] at HLS AI hl ⊢
  rw [hl] at HUI ⊢
  generalize basZ m zs0 = K at *
  generalize N ((List.range T).map (rk K)) = zs at *
  have c0 := (cellN w (.slice (some ⟨rb, roff, none⟩) T rcap) 22).1
  have c1 := cellA (.cells #[.int .i64 0, .slice none 0 0] 24) c0
  have HB0 : Hid (Below w.heap.size w ((w.alloc (.cells #[.slice (some ⟨rb, roff, none⟩) T rcap] 22)).alloc (.cells #[.int .i64 0, .slice none 0 0] 24))) := ((Below.refl _ _).alloc (Nat.le_refl _) _).alloc (by simp) _
  clear c0
  go_enter Try.func37, Try.ntmps37
  go_wp2_with fail
  go_quiet ((go_at_call 71; refine (HK.out _).mono ?_; rintro e w' ⟨rfl, rfl⟩; exact ⟨rfl, _, rfl⟩))
  go_wp2_with fail
  have b0 : Hid (((w.alloc (.cells #[.slice (some ⟨rb, roff, none⟩) T rcap] 22)).alloc (.cells #[.int .i64 0, .slice none 0 0] 24)).heap[w.heap.size + 1]? = some (.cells #[.int .i64 0, .slice none 0 0] 24 (0, 0))) := by
    have := World.alloc_heap_new (w.alloc (.cells #[.slice (some ⟨rb, roff, none⟩) T rcap] 22)) (.cells #[.int .i64 0, .slice none 0 0] 24)
    rwa [World.size_alloc] at this
  have hz : ((w.alloc (.cells #[.slice (some ⟨rb, roff, none⟩) T rcap] 22)).alloc (.cells #[.int .i64 0, .slice none 0 0] 24)).heap.size = w.heap.size + 2 := by simp
  have HBQ := hid (HB0.out.trans (drewN_below w.heap.size _ nq))
  have bq : Hid ((((w.alloc (.cells #[.slice (some ⟨rb, roff, none⟩) T rcap] 22)).alloc (.cells #[.int .i64 0, .slice none 0 0] 24)).drewN nq).heap[w.heap.size + 1]? = some (.cells #[.int .i64 0, .slice none 0 0] 24 (0, 0))) := b0.out
  have hzq : (((w.alloc (.cells #[.slice (some ⟨rb, roff, none⟩) T rcap] 22)).alloc (.cells #[.int .i64 0, .slice none 0 0] 24)).drewN nq).heap.size = w.heap.size + 2 := hz
  have cq : (((w.alloc (.cells #[.slice (some ⟨rb, roff, none⟩) T rcap] 22)).alloc (.cells #[.int .i64 0, .slice none 0 0] 24)).drewN nq).cell? ⟨w.heap.size, 0, none⟩ = some (.slice (some ⟨rb, roff, none⟩) T rcap) := by rw [World.cell?_drewN]; exact c1
  clear b0 hz c1 HB0
  revert HBQ bq hzq cq
  generalize (((w.alloc (.cells #[.slice (some ⟨rb, roff, none⟩) T rcap] 22)).alloc (.cells #[.int .i64 0, .slice none 0 0] 24)).drewN nq) = W0
  intro HBQ bq hzq cq
  have HSV := hid (Sieve_at m T 86 HT.out #[.pointer (some ⟨w.heap.size, 0, none⟩)] (rankZ zs0 T) W0 hm (fun args w => enters_of Try.func86 (by kernel_rfl) rfl args w)
    (fun x hx w1 hb1 _ => OfRanksZ_ok x w.heap.size T _ zs0 w1 hT2 hx hl ((hb1.cell (p := ⟨w.heap.size, 0, none⟩) (by show w.heap.size < _; omega)).trans cq) ((HUI.out.below HBQ.out).below hb1)))
  rw [HLS.out] at HSV
  refine HSV.out.mono ?_
  rintro e w2 ⟨r, rfl, ho, hb2⟩
  have HX1 := hid ((hb2.block _ (by omega)).trans bq.out)
  have cq2 := (hb2.cell (p := ⟨w.heap.size, 0, none⟩) (by show w.heap.size < _; omega)).trans cq
  have hs2 : w.heap.size + 1 < w2.heap.size := by have := hb2.size; omega
  have HB := hid (HBQ.out.trans (hb2.mono HBQ.out.size))
  have HR := hid (ho.ints HKL.out)
  have HO := hid ho
  obtain ⟨a3, cap3, hr, _, _⟩ := HR.out.nats
  subst hr
  have MA := hid (made_any AI.out EG.out HR.out (HUI.out.below HB.out))
  clear hb2 ho cq
  by_cases hq : madeE m K zs zs0 = 0
  · rw [if_pos hq] at MA
    have HQ := hid hq
    go_wp2_with fail
    refine MA.out.mono ?_
    rintro e w4 ⟨rfl, hb4⟩
    have H4 := hid ((hb4.block _ hs2).trans HX1.out)
    have HB4 := hid (HB.out.trans (hb4.mono HB.out.size))
    have HS := hid (set_two (x := .int .i64 m) (y := .slice a3 K.length cap3) H4.out)
    have HD := hid (below_two (b := w.heap.size + 1) (x := .int .i64 m) (y := .slice a3 K.length cap3) HB4.out (by omega))
    have HRR := hid (((HO.out.below hb4).set2 (b := w.heap.size + 1) (x := .int .i64 m) (y := .slice a3 K.length cap3) (by omega)).ints HKL.out)
    obtain ⟨y2, y3, g2, g3⟩ := two_cells H4.out
    clear hb4
    go_wp2_with fail
    obtain ⟨c0, c1⟩ := HS.out
    refine bodyPost_ret (v := .tuple #[.agg #[.int .i64 m, .slice a3 K.length cap3], .int .i64 0]) ?_ rfl ⟨fun _ => ⟨_, rfl, HRR.out, HD.out⟩, fun e => absurd HQ.out e⟩
    simp [results, Try.f37, go_sem, c0, c1]
  · rw [if_neg hq] at MA
    have HQ : Hid (madeE m K zs zs0 = 3) := madeE_three hq
    go_wp2_with fail
    refine MA.out.mono ?_
    rintro e w4 ⟨rfl, hb4⟩
    have H4 := hid ((hb4.block _ hs2).trans HX1.out)
    have HB4 := hid (HB.out.trans (hb4.mono HB.out.size))
    have HS := hid (set_two (x := .int .i64 0) (y := .slice none 0 0) H4.out)
    have HD := hid (below_two (b := w.heap.size + 1) (x := .int .i64 0) (y := .slice none 0 0) HB4.out (by omega))
    obtain ⟨y2, y3, g2, g3⟩ := two_cells H4.out
    clear hb4
    go_wp2_with fail
    obtain ⟨c0, c1⟩ := HS.out
    refine bodyPost_ret (v := .tuple #[.agg #[.int .i64 0, .slice none 0 0], .int .i64 3]) ?_ rfl ⟨fun e => absurd (HQ.out.symm.trans e) (by decide), fun _ => ⟨by rw [HQ.out], HD.out⟩⟩
    simp [results, Try.f37, go_sem, c0, c1]
end Go.Proofs.Ytkebhhpfnalbfac

namespace Go.Proofs.Ytkebhhpfnalbfac
open Go.RowKit

theorem famR_one {n : Int} {zs : List Int} (h : famR n zs ≠ 0) : famR n zs = 1 := by
  unfold famR at h ⊢
  split
  · rename_i c; rw [if_pos c] at h; exact absurd rfl h
  · rfl
theorem OfInd_arg (n : Int) (u : Value) (zs : List Int) (w : World) (h : Ints w u zs) (hf : famR n zs ≠ 0) :
    Calls Try.prog 28 #[.int .i64 n, u] w (MakesI w 1 n []) := by
  have HU := hid h
  obtain ⟨a, cap, hv, _, _⟩ := h
  subst hv
  have HB0 := hid (below_box w #[.int .i64 0, .slice none 0 0])
  have HC := hid (Most_bad n _ zs _ (HU.out.below HB0.out) hf)
  go_enter Try.func28, Try.ntmps28
  go_wp2_with fail
  refine HC.out.mono ?_
  rintro e w2 ⟨rfl, hw2⟩
  have hb2 : Below (w.alloc (.cells #[.int .i64 0, .slice none 0 0] 24)).heap.size (w.alloc (.cells #[.int .i64 0, .slice none 0 0] 24)) w2 := by rw [hw2]; exact Below.refl _ _
  clear hw2
  have HX := hid (box1 hb2)
  have HB := hid (HB0.out.trans (hb2.mono HB0.out.size))
  have HS := hid (set_two (x := .int .i64 0) (y := .slice none 0 0) HX.out.1)
  have HD := hid (below_two (b := w.heap.size) (x := .int .i64 0) (y := .slice none 0 0) HB.out (Nat.le_refl _))
  obtain ⟨y2, y3, g2, g3⟩ := two_cells HX.out.1
  clear hb2
  go_wp2_with fail
  obtain ⟨c0, c1⟩ := HS.out
  refine bodyPost_ret (v := .tuple #[.agg #[.int .i64 0, .slice none 0 0], .int .i64 1]) ?_ rfl ⟨fun e => absurd e (by decide), fun _ => ⟨rfl, HD.out⟩⟩
  simp [results, Try.f28, go_sem, c0, c1]
theorem OfCir_arg (n : Int) (u : Value) (zs : List Int) (w : World) (h : Ints w u zs) (hf : famR n zs ≠ 0) :
    Calls Try.prog 29 #[.int .i64 n, u] w (MakesI w 1 n []) := by
  have HU := hid h
  obtain ⟨a, cap, hv, _, _⟩ := h
  subst hv
  have HB0 := hid (below_box w #[.int .i64 0, .slice none 0 0])
  have HC := hid (Blocker_bad n _ zs _ (HU.out.below HB0.out) hf)
  go_enter Try.func29, Try.ntmps29
  go_wp2_with fail
  refine HC.out.mono ?_
  rintro e w2 ⟨rfl, hb2⟩
  have HX := hid (box1 hb2)
  have HB := hid (HB0.out.trans (hb2.mono HB0.out.size))
  have HS := hid (set_two (x := .int .i64 0) (y := .slice none 0 0) HX.out.1)
  have HD := hid (below_two (b := w.heap.size) (x := .int .i64 0) (y := .slice none 0 0) HB.out (Nat.le_refl _))
  obtain ⟨y2, y3, g2, g3⟩ := two_cells HX.out.1
  clear hb2
  go_wp2_with fail
  obtain ⟨c0, c1⟩ := HS.out
  refine bodyPost_ret (v := .tuple #[.agg #[.int .i64 0, .slice none 0 0], .int .i64 1]) ?_ rfl ⟨fun e => absurd e (by decide), fun _ => ⟨rfl, HD.out⟩⟩
  simp [results, Try.f29, go_sem, c0, c1]
theorem OfFlat_arg (n : Int) (u : Value) (zs : List Int) (w : World) (h : Ints w u zs) (hf : famR n zs ≠ 0) :
    Calls Try.prog 30 #[.int .i64 n, u] w (MakesI w 1 n []) := by
  have HU := hid h
  obtain ⟨a, cap, hv, _, _⟩ := h
  subst hv
  have HB0 := hid (below_box w #[.int .i64 0, .slice none 0 0])
  have HC := hid (family_any n _ zs _ (HU.out.below HB0.out))
  rw [famR_one hf] at HC
  go_enter Try.func30, Try.ntmps30
  go_wp2_with fail
  refine HC.out.mono ?_
  rintro e w2 ⟨rfl, hw2⟩
  have hb2 : Below (w.alloc (.cells #[.int .i64 0, .slice none 0 0] 24)).heap.size (w.alloc (.cells #[.int .i64 0, .slice none 0 0] 24)) w2 := by rw [hw2]; exact Below.refl _ _
  clear hw2
  have HX := hid (box1 hb2)
  have HB := hid (HB0.out.trans (hb2.mono HB0.out.size))
  have HS := hid (set_two (x := .int .i64 0) (y := .slice none 0 0) HX.out.1)
  have HD := hid (below_two (b := w.heap.size) (x := .int .i64 0) (y := .slice none 0 0) HB.out (Nat.le_refl _))
  obtain ⟨y2, y3, g2, g3⟩ := two_cells HX.out.1
  clear hb2
  go_wp2_with fail
  obtain ⟨c0, c1⟩ := HS.out
  refine bodyPost_ret (v := .tuple #[.agg #[.int .i64 0, .slice none 0 0], .int .i64 1]) ?_ rfl ⟨fun e => absurd e (by decide), fun _ => ⟨rfl, HD.out⟩⟩
  simp [results, Try.f30, go_sem, c0, c1]
theorem OfHyp_arg (n : Int) (u : Value) (zs : List Int) (w : World) (h : Ints w u zs) (hf : famR n zs ≠ 0) :
    Calls Try.prog 31 #[.int .i64 n, u] w (MakesI w 1 n []) := by
  have HU := hid h
  obtain ⟨a, cap, hv, _, _⟩ := h
  subst hv
  have HB0 := hid (below_box w #[.int .i64 0, .slice none 0 0])
  have HC := hid (family_any n _ zs _ (HU.out.below HB0.out))
  rw [famR_one hf] at HC
  go_enter Try.func31, Try.ntmps31
  go_wp2_with fail
  refine HC.out.mono ?_
  rintro e w2 ⟨rfl, hw2⟩
  have hb2 : Below (w.alloc (.cells #[.int .i64 0, .slice none 0 0] 24)).heap.size (w.alloc (.cells #[.int .i64 0, .slice none 0 0] 24)) w2 := by rw [hw2]; exact Below.refl _ _
  clear hw2
  have HX := hid (box1 hb2)
  have HB := hid (HB0.out.trans (hb2.mono HB0.out.size))
  have HS := hid (set_two (x := .int .i64 0) (y := .slice none 0 0) HX.out.1)
  have HD := hid (below_two (b := w.heap.size) (x := .int .i64 0) (y := .slice none 0 0) HB.out (Nat.le_refl _))
  obtain ⟨y2, y3, g2, g3⟩ := two_cells HX.out.1
  clear hb2
  go_wp2_with fail
  obtain ⟨c0, c1⟩ := HS.out
  refine bodyPost_ret (v := .tuple #[.agg #[.int .i64 0, .slice none 0 0], .int .i64 1]) ?_ rfl ⟨fun e => absurd e (by decide), fun _ => ⟨rfl, HD.out⟩⟩
  simp [results, Try.f31, go_sem, c0, c1]
theorem OfRk_arg1 (n : Int) (u : Value) (zs : List Int) (w : World) (h : Ints w u zs) (hn : n < 0 ∨ 8 < n) :
    Calls Try.prog 37 #[.int .i64 n, u] w (MakesI w 1 n []) := by
  obtain ⟨a, rcap, rfl, _, _⟩ := h
  have HK := hid (setsCheck_any n 0)
  have HK0 : Hid (setR n 0 = 1) := by
    show _ = _
    unfold setR
    rw [if_neg (by omega)]
  rw [HK0.out] at HK
  have HB0 : Hid (Below w.heap.size w ((w.alloc (.cells #[.slice a zs.length rcap] 22)).alloc (.cells #[.int .i64 0, .slice none 0 0] 24))) := ((Below.refl _ _).alloc (Nat.le_refl _) _).alloc (by simp) _
  go_enter Try.func37, Try.ntmps37
  go_wp2_with fail
  go_quiet ((go_at_call 71; refine (HK.out _).mono ?_; rintro e w' ⟨rfl, rfl⟩; exact ⟨rfl, _, rfl⟩))
  have b0 : Hid (((w.alloc (.cells #[.slice a zs.length rcap] 22)).alloc (.cells #[.int .i64 0, .slice none 0 0] 24)).heap[w.heap.size + 1]? = some (.cells #[.int .i64 0, .slice none 0 0] 24 (0, 0))) := by
    have := World.alloc_heap_new (w.alloc (.cells #[.slice a zs.length rcap] 22)) (.cells #[.int .i64 0, .slice none 0 0] 24)
    rwa [World.size_alloc] at this
  have HBQ := hid (HB0.out.trans (drewN_below w.heap.size _ nq))
  have bq : Hid ((((w.alloc (.cells #[.slice a zs.length rcap] 22)).alloc (.cells #[.int .i64 0, .slice none 0 0] 24)).drewN nq).heap[w.heap.size + 1]? = some (.cells #[.int .i64 0, .slice none 0 0] 24 (0, 0))) := b0.out
  clear b0 HB0
  revert HBQ bq
  generalize (((w.alloc (.cells #[.slice a zs.length rcap] 22)).alloc (.cells #[.int .i64 0, .slice none 0 0] 24)).drewN nq) = W0
  intro HBQ bq
  have HS := hid (set_two (x := .int .i64 0) (y := .slice none 0 0) bq.out)
  have HD := hid (below_two (b := w.heap.size + 1) (x := .int .i64 0) (y := .slice none 0 0) HBQ.out (by omega))
  obtain ⟨y2, y3, g2, g3⟩ := two_cells bq.out
  go_wp2_with fail
  obtain ⟨c0, c1⟩ := HS.out
  refine bodyPost_ret (v := .tuple #[.agg #[.int .i64 0, .slice none 0 0], .int .i64 1]) ?_ rfl ⟨fun e => absurd e (by decide), fun _ => ⟨rfl, HD.out⟩⟩
  simp [results, Try.f37, go_sem, c0, c1]
theorem OfRk_arg2 (m : Nat) (u : Value) (zs : List Int) (w : World) (hm : m ≤ 8) (h : Ints w u zs) (hl : zs.length ≠ 2 ^ m) :
    Calls Try.prog 37 #[.int .i64 m, u] w (MakesI w 1 m []) := by
  obtain ⟨a, rcap, rfl, _, _⟩ := h
  have HK := hid (setsCheck_any m 0)
  have HK0 : Hid (setR m 0 = 0) := by
    show _ = _
    unfold setR
    rw [if_pos ⟨by omega, by omega, by omega, by rw [Int.toNat_natCast]; exact Int.pow_pos (by decide)⟩]
  rw [HK0.out] at HK
  obtain ⟨T, HT, hT2, hT⟩ : ∃ T : Nat, Hid (T = 2 ^ m) ∧ T ≤ 256 ∧ wrap64 (2 ^ m) = (T : Int) := ⟨2 ^ m, rfl, (pow_wrap _ hm).2, (pow_wrap _ hm).1⟩
  have hne : ((zs.length : Int) != (T : Int)) = true := by rw [bne_iff_ne]; have := HT.out; omega
  have hne2 : ((zs.length : Int) == (T : Int)) = false := by rw [beq_eq_false_iff_ne]; have := HT.out; omega
  have HB0 : Hid (Below w.heap.size w ((w.alloc (.cells #[.slice a zs.length rcap] 22)).alloc (.cells #[.int .i64 0, .slice none 0 0] 24))) := ((Below.refl _ _).alloc (Nat.le_refl _) _).alloc (by simp) _
  go_enter Try.func37, Try.ntmps37
  go_wp2_with fail
  go_quiet ((go_at_call 71; refine (HK.out _).mono ?_; rintro e w' ⟨rfl, rfl⟩; exact ⟨rfl, _, rfl⟩))
  have b0 : Hid (((w.alloc (.cells #[.slice a zs.length rcap] 22)).alloc (.cells #[.int .i64 0, .slice none 0 0] 24)).heap[w.heap.size + 1]? = some (.cells #[.int .i64 0, .slice none 0 0] 24 (0, 0))) := by
    have := World.alloc_heap_new (w.alloc (.cells #[.slice a zs.length rcap] 22)) (.cells #[.int .i64 0, .slice none 0 0] 24)
    rwa [World.size_alloc] at this
  have HBQ := hid (HB0.out.trans (drewN_below w.heap.size _ nq))
  have bq : Hid ((((w.alloc (.cells #[.slice a zs.length rcap] 22)).alloc (.cells #[.int .i64 0, .slice none 0 0] 24)).drewN nq).heap[w.heap.size + 1]? = some (.cells #[.int .i64 0, .slice none 0 0] 24 (0, 0))) := b0.out
  clear b0 HB0
  revert HBQ bq
  generalize (((w.alloc (.cells #[.slice a zs.length rcap] 22)).alloc (.cells #[.int .i64 0, .slice none 0 0] 24)).drewN nq) = W0
  intro HBQ bq
  have HS := hid (set_two (x := .int .i64 0) (y := .slice none 0 0) bq.out)
  have HD := hid (below_two (b := w.heap.size + 1) (x := .int .i64 0) (y := .slice none 0 0) HBQ.out (by omega))
  obtain ⟨y2, y3, g2, g3⟩ := two_cells bq.out
  go_wp2_with fail
  obtain ⟨c0, c1⟩ := HS.out
  refine bodyPost_ret (v := .tuple #[.agg #[.int .i64 0, .slice none 0 0], .int .i64 1]) ?_ rfl ⟨fun e => absurd e (by decide), fun _ => ⟨rfl, HD.out⟩⟩
  simp [results, Try.f37, go_sem, c0, c1]
end Go.Proofs.Ytkebhhpfnalbfac

namespace Go.Proofs.Ytkebhhpfnalbfac
open Go.RowKit

theorem madeE_zero {m : Nat} {K l ys : List Nat} (hm : m ≤ 8) (hf : Fam m K) (hb : Bas K) (e : ys = l) : madeE m K (N ys) (N l) = 0 := by
  unfold madeE
  exact if_pos ⟨chk_mk hm hf hb, by rw [e]⟩
theorem madeE_of {m : Nat} {K : List Nat} {zs ys : List Int} (h : madeE m K zs ys = 0) : Fam m K ∧ Bas K ∧ zs = ys := by
  unfold madeE at h
  split at h
  · rename_i c
    exact ⟨(bas_of_chk c.1).1, (bas_of_chk c.1).2, c.2⟩
  · cases h
/-- The greatest of the independent sets are the bases. -/
theorem big_ind {m : Nat} {bs : List Nat} (hm : m ≤ 8) (hf : Fam m bs) (hb : Bas bs) : bigS (indL m bs) = bs := by
  obtain ⟨h1, h2, h3⟩ := ind_makes (l := indL m bs) hm (Fam.range m _) (ind_ax hm hb)
  have a := most_ind hm h1 h2
  have b := most_ind hm hf hb
  rw [h3] at a
  exact a.symm.trans b
theorem ind_link {m : Nat} {l : List Nat} (hm : m ≤ 8) (hf : Fam m l) :
    (IndAx l → madeE m (mstL l) (N (indL m (mstL l))) (N l) = 0 ∧ mstL l = bigS l) ∧ (¬ IndAx l → madeE m (mstL l) (N (indL m (mstL l))) (N l) = 3) := by
  refine ⟨fun h => ?_, fun h => madeE_three fun c => h ?_⟩
  · obtain ⟨h1, h2, h3⟩ := ind_makes hm hf h
    have e : mstL l = bigS l := by
      have := most_ind hm h1 h2
      rw [h3] at this
      exact this
    rw [e]
    exact ⟨madeE_zero hm h1 h2 h3, rfl⟩
  · obtain ⟨_, h2, h3⟩ := madeE_of c
    have := N_inj h3
    rw [← this]
    exact ind_ax hm h2
/-- The sets that have none of these within. -/
def noneL (m : Nat) (l : List Nat) : List Nat := (List.range (2 ^ m)).filter fun s => !l.any (subB · s)
theorem cir_link {m : Nat} {l : List Nat} (hm : m ≤ 8) (hf : Fam m l) :
    (CirAx l → madeE m (cmp m (blk m l)) (N (cirL m (cmp m (blk m l)))) (N l) = 0 ∧ cmp m (blk m l) = bigS (noneL m l)) ∧ (¬ CirAx l → madeE m (cmp m (blk m l)) (N (cirL m (cmp m (blk m l)))) (N l) = 3) := by
  refine ⟨fun h => ?_, fun h => madeE_three fun c => h ?_⟩
  · obtain ⟨bs, h1, h2, h3, h4⟩ := cir_makes hm hf h
    have e : cmp m (blk m l) = bs := by
      have := of_cir hm h1 h2
      rw [h3] at this
      exact this
    have e2 : noneL m l = indL m bs := by
      unfold noneL indL
      refine List.filter_congr fun s hs => ?_
      have := h4 s (List.mem_range.1 hs)
      rw [Bool.eq_iff_iff, beq_iff_eq, this]
      simp
    rw [e, e2, big_ind hm h1 h2]
    exact ⟨madeE_zero hm h1 h2 h3, rfl⟩
  · obtain ⟨_, h2, h3⟩ := madeE_of c
    have := N_inj h3
    rw [← this]
    exact cir_ax hm h2
theorem hyp_link {m : Nat} {l : List Nat} (hm : m ≤ 8) (hf : Fam m l) :
    (HypAx m l → madeE m (blk m (cmp m l)) (N ((List.range (2 ^ m)).filter (hypB (rk (blk m (cmp m l))) m))) (N l) = 0) ∧ (¬ HypAx m l → madeE m (blk m (cmp m l)) (N ((List.range (2 ^ m)).filter (hypB (rk (blk m (cmp m l))) m))) (N l) = 3) := by
  refine ⟨fun h => ?_, fun h => madeE_three fun c => h ?_⟩
  · obtain ⟨bs, h1, h2, h3⟩ := hyp_makes hm hf h
    have e : blk m (cmp m l) = bs := by
      have := of_hyp hm h1 h2
      rw [h3] at this
      exact this
    rw [e]
    exact madeE_zero hm h1 h2 h3
  · obtain ⟨h1, h2, h3⟩ := madeE_of c
    have := N_inj h3
    rw [← this]
    exact hyp_ax hm h1 h2
theorem flat_link {m : Nat} {l : List Nat} (hm : m ≤ 8) (hf : Fam m l) :
    (FlatAx m l → madeE m (basFl m l) (N (flatL m (basFl m l))) (N l) = 0) ∧ (¬ FlatAx m l → madeE m (basFl m l) (N (flatL m (basFl m l))) (N l) = 3) := by
  refine ⟨fun h => ?_, fun h => madeE_three fun c => h ?_⟩
  · obtain ⟨bs, h1, h2, h3⟩ := flat_makes hm hf h
    have e : basFl m l = bs := by
      have := of_flat hm h1 h2
      unfold basFl
      rw [← (less_take (l := bs) hm).1, h3] at this
      exact this
    rw [e]
    exact madeE_zero hm h1 h2 h3
  · obtain ⟨_, h2, h3⟩ := madeE_of c
    have := N_inj h3
    rw [← this]
    exact flat_ax hm h2
end Go.Proofs.Ytkebhhpfnalbfac

namespace Go.Proofs.Ytkebhhpfnalbfac
open Go.RowKit

/-- What ranks must be, of any numbers. -/
structure RkZ (n : Nat) (f : Nat → Int) : Prop where
  zero : f 0 = 0
  up : ∀ s i, s < 2 ^ n → i < n → f s ≤ f (s ||| 2 ^ i) ∧ f (s ||| 2 ^ i) ≤ f s + 1
  loc : ∀ s i k, s < 2 ^ n → i < n → k < n → f ((s ||| 2 ^ i) ||| (s ||| 2 ^ k)) + f ((s ||| 2 ^ i) &&& (s ||| 2 ^ k)) ≤ f (s ||| 2 ^ i) + f (s ||| 2 ^ k)
theorem RkZ.pos {n : Nat} {f : Nat → Int} (hn : n ≤ 8) (h : RkZ n f) : ∀ (s : Nat), s < 2 ^ n → 0 ≤ f s := by
  intro s
  induction s using Nat.strongRecOn with
  | ind s ih =>
    intro hs
    by_cases e : s = 0
    · rw [e, h.zero]; exact Int.le_refl 0
    · obtain ⟨i, hi⟩ := exists_bit e
      have hlt := rm_lt (lt256 hn hs) hi
      have h1 := ih _ hlt (by omega)
      have h2 := (h.up (rm s i) i (by omega) (bit_lt hs hi)).1
      rw [ad_rm hi] at h2
      omega
theorem two_lt {n s i : Nat} (hs : s < 2 ^ n) (hi : i < n) : s ||| 2 ^ i < 2 ^ n := Nat.or_lt_two_pow hs (Nat.pow_lt_pow_right (by decide) hi)
theorem RkZ.nat {n : Nat} {f : Nat → Int} (hn : n ≤ 8) (h : RkZ n f) : RkAx n fun s => (f s).toNat where
  zero := by simp [h.zero]
  up := fun s i hs hi => by
    have := h.up s i hs hi
    have := h.pos hn s hs
    have := h.pos hn _ (two_lt hs hi)
    show (f s).toNat ≤ (f (s ||| 2 ^ i)).toNat ∧ (f (s ||| 2 ^ i)).toNat ≤ (f s).toNat + 1
    omega
  loc := fun s i k hs hi hk => by
    have := h.loc s i k hs hi hk
    have := h.pos hn _ (two_lt hs hi)
    have := h.pos hn _ (two_lt hs hk)
    have := h.pos hn _ (Nat.or_lt_two_pow (two_lt hs hi) (two_lt hs hk))
    have := h.pos hn _ (Nat.lt_of_le_of_lt Nat.and_le_left (two_lt hs hi) : (s ||| 2 ^ i) &&& (s ||| 2 ^ k) < 2 ^ n)
    show (f ((s ||| 2 ^ i) ||| (s ||| 2 ^ k))).toNat + (f ((s ||| 2 ^ i) &&& (s ||| 2 ^ k))).toNat ≤ (f (s ||| 2 ^ i)).toNat + (f (s ||| 2 ^ k)).toNat
    omega
theorem map_getD {T : Nat} {r : Nat → Nat} {s : Nat} (hs : s < T) : (N ((List.range T).map r)).getD s 0 = (r s : Int) := by
  rw [N_getD]
  simp [List.getD, hs]
theorem RkAx.int {n : Nat} {r : Nat → Nat} (h : RkAx n r) {f : Nat → Int} (e : ∀ s, s < 2 ^ n → f s = r s) : RkZ n f where
  zero := by rw [e 0 (Nat.two_pow_pos n), h.zero]; rfl
  up := fun s i hs hi => by
    have := h.up s i hs hi
    rw [e s hs, e _ (two_lt hs hi)]
    omega
  loc := fun s i k hs hi hk => by
    have := h.loc s i k hs hi hk
    rw [e _ (two_lt hs hi), e _ (two_lt hs hk), e _ (Nat.or_lt_two_pow (two_lt hs hi) (two_lt hs hk)), e _ (Nat.lt_of_le_of_lt Nat.and_le_left (two_lt hs hi))]
    omega
theorem rk_link {m : Nat} {zs : List Int} (hm : m ≤ 8) (hl : zs.length = 2 ^ m) :
    (RkZ m (zs.getD · 0) → madeE m (basZ m zs) (N ((List.range (2 ^ m)).map (rk (basZ m zs)))) zs = 0 ∧ basZ m zs = bigS ((List.range (2 ^ m)).filter fun s => zs.getD s 0 == (pop s : Int))) ∧ (¬ RkZ m (zs.getD · 0) → madeE m (basZ m zs) (N ((List.range (2 ^ m)).map (rk (basZ m zs)))) zs = 3) := by
  refine ⟨fun h => ?_, fun h => madeE_three fun c => h ?_⟩
  · obtain ⟨bs, h1, h2, h3⟩ := rk_makes hm (h.nat hm)
    have hz : ∀ s, s < 2 ^ m → zs.getD s 0 = (rk bs s : Int) := fun s hs => by
      rw [h3 s hs]
      have := h.pos hm s hs
      omega
    have e0 : zs = N ((List.range (2 ^ m)).map (rk bs)) := by
      refine List.ext_getElem (by rw [N_len]; simp [hl]) fun s g1 g2 => ?_
      have a := hz s (by omega)
      rw [← map_getD (r := rk bs) (show s < 2 ^ m by omega)] at a
      simpa [List.getD, List.getElem?_eq_getElem g1, List.getElem?_eq_getElem g2] using a
    have e : basZ m zs = bs := by
      refine Eq.trans (List.filter_congr fun s hs => ?_) (rank_list hm h1 h2)
      rw [List.mem_range] at hs
      unfold rankZ
      rw [hz s hs, hz (2 ^ m - 1) (by omega), Bool.eq_iff_iff]
      simp
      omega
    have e2 : ((List.range (2 ^ m)).filter fun s => zs.getD s 0 == (pop s : Int)) = indL m bs := by
      unfold indL
      refine List.filter_congr fun s hs => ?_
      rw [List.mem_range] at hs
      rw [hz s hs, Bool.eq_iff_iff]
      simp
      omega
    rw [e, e2, big_ind hm h1 h2]
    refine ⟨?_, rfl⟩
    unfold madeE
    exact if_pos ⟨chk_mk hm h1 h2, e0.symm⟩
  · obtain ⟨_, h2, h3⟩ := madeE_of c
    refine (rk_ax (n := m) h2).int fun s hs => ?_
    rw [← map_getD (r := rk (basZ m zs)) hs, h3]
end Go.Proofs.Ytkebhhpfnalbfac
