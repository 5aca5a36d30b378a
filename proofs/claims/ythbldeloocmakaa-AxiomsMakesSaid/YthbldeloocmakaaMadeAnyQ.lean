/- The calls of package axioms that make a matroid, whatever family is handed in. -/
import Derived.Test.YthbldeloocmakaaMadeQ
import Derived.Test.YthbldeloocmakaaPlainAll
namespace Go.Proofs.Ythbldeloocmakaa
open Go.RowKit

set_option maxHeartbeats 800000 in
theorem madeOf_bad (g : Nat) (n q : Int) (v u : Value) (mz ys : List Int) (w : World) (hv : Ints w v mz) (hu : Ints w u ys) (eg : Enters g) (hq : q ≠ 0)
    (hg : ∀ w1, Below w.heap.size w w1 → Calls Try.prog g #[.agg #[.int .i64 n, v]] w1 fun e w' => e = .returned (.tuple #[.slice none 0 0, .int .i64 q]) ∧ Below w1.heap.size w1 w') :
    Calls Try.prog 73 #[.agg #[.int .i64 n, v], .func (.func g) #[] #[], u] w fun e w' => e = .returned (.tuple #[.agg #[.int .i64 0, .slice none 0 0], .int .i64 3]) ∧ Below w.heap.size w w' := by
  have HG := hid hg
  clear hg
  obtain ⟨a, cap, rfl, _, _⟩ := hv
  obtain ⟨a2, cap2, rfl, _, _⟩ := hu
  unfold Enters at eg
  have hq' : (q != 0) = true := by rw [bne_iff_ne]; exact hq
  have HB0 := hid (boxM_below w n (.slice a mz.length cap))
  have HC := hid (HG.out _ HB0.out)
  have HX : Hid (∀ w2, Below (boxM w n (.slice a mz.length cap)).heap.size (boxM w n (.slice a mz.length cap)) w2 → _) := fun w2 h => boxM_blocks h
  have HS := hid (boxM_size w n (.slice a mz.length cap))
  go_enter Try.func73, Try.ntmps73
  go_wp2_with fail
  refine HC.out.mono ?_
  rintro e w2 ⟨rfl, hb2⟩
  obtain ⟨hx0, hx1⟩ := HX.out w2 hb2
  obtain ⟨y2, y3, g2, g3⟩ := two_cells hx1
  have HB := hid (HB0.out.trans (hb2.mono HB0.out.size))
  have HCC := hid (set_two (x := .int .i64 0) (y := .slice none 0 0) hx1)
  have HD := hid (below_two (b := w.heap.size + 1) (x := .int .i64 0) (y := .slice none 0 0) HB.out (by omega))
  clear hb2 hx0 hx1
  go_wp2_with fail
  obtain ⟨c0, c1⟩ := HCC.out
  refine bodyPost_ret (v := .tuple #[.agg #[.int .i64 0, .slice none 0 0], .int .i64 3]) ?_ rfl ⟨rfl, HD.out⟩
  simp [results, Try.f73, go_sem, c0, c1]
/-- The function tells this of the matroid with these bases; if it is none, an error. -/
def TellsAll (g m : Nat) (K : List Nat) (zs : List Int) : Prop :=
  (chkR m (N K) = 0 → Tells g m K zs) ∧ (chkR m (N K) ≠ 0 → ∀ (r : Value) (w : World), Ints w r (N K) → Calls Try.prog g #[.agg #[.int .i64 m, r]] w fun e w' => e = .returned (.tuple #[.slice none 0 0, .int .i64 (chkR m (N K))]) ∧ Below w.heap.size w w')
/-- What madeOf answers: 0 or ErrShape. -/
def madeE (m : Nat) (K : List Nat) (zs ys : List Int) : Int := if chkR m (N K) = 0 ∧ zs = ys then 0 else 3
theorem made_any {g m : Nat} {K : List Nat} {zs ys : List Int} (ht : TellsAll g m K zs) (eg : Enters g) {v u : Value} {w : World} (hv : Ints w v (N K)) (hu : Ints w u ys) :
    Calls Try.prog 73 #[.agg #[.int .i64 m, v], .func (.func g) #[] #[], u] w fun e w' => e = .returned (if madeE m K zs ys = 0 then .tuple #[.agg #[.int .i64 m, v], .int .i64 0] else .tuple #[.agg #[.int .i64 0, .slice none 0 0], .int .i64 3]) ∧ Below w.heap.size w w' := by
  by_cases hc : chkR m (N K) = 0
  · have := madeOf_ok g m v u (N K) zs ys w hv hu eg (fun w1 hb1 => ht.1 hc v w1 (hv.below hb1))
    by_cases e : zs = ys
    · rw [if_pos (by simpa using e)] at this
      have hE : madeE m K zs ys = 0 := by unfold madeE; exact if_pos ⟨hc, e⟩
      rw [if_pos hE]
      exact this
    · rw [if_neg (by simpa using e)] at this
      have hE : madeE m K zs ys = 3 := by unfold madeE; exact if_neg (fun c => e c.2)
      rw [if_neg (by rw [hE]; decide)]
      exact this
  · have hE : madeE m K zs ys = 3 := by unfold madeE; exact if_neg (fun c => hc c.1)
    rw [if_neg (by rw [hE]; decide)]
    exact madeOf_bad g m _ v u (N K) ys w hv hu eg hc (fun w1 hb1 => ht.2 hc v w1 (hv.below hb1))
theorem bas_of_chk {m : Nat} {K : List Nat} (h : chkR m (N K) = 0) : Fam m K ∧ Bas K := by
  obtain ⟨m', l, h1, _, h2, h3, h4⟩ := chk_of h
  have e1 : m = m' := by omega
  have e2 : K = l := by
    have := congrArg (List.map Int.toNat) h2
    simpa [N, List.map_map, Function.comp_def] using this
  subst e1 e2
  exact ⟨h3, h4⟩
theorem all_ind {m : Nat} {K : List Nat} (hm : m ≤ 8) : TellsAll 18 m K (N (indL m K)) :=
  ⟨fun h => tells_ind hm (bas_of_chk h).1 (bas_of_chk h).2, fun h r w hr => Independents_bad m r (N K) w hr h⟩
theorem all_cir {m : Nat} {K : List Nat} (hm : m ≤ 8) : TellsAll 19 m K (N (cirL m K)) :=
  ⟨fun h => tells_cir hm (bas_of_chk h).1 (bas_of_chk h).2, fun h r w hr => Circuits_bad m r (N K) w hr h⟩
theorem all_flat {m : Nat} {K : List Nat} (hm : m ≤ 8) : TellsAll 21 m K (N (flatL m K)) :=
  ⟨fun h => tells_flat hm (bas_of_chk h).1 (bas_of_chk h).2, fun h r w hr => Flats_bad m r (N K) w hr h⟩
theorem all_hyp {m : Nat} {K : List Nat} (hm : m ≤ 8) : TellsAll 22 m K (N ((List.range (2 ^ m)).filter (hypB (rk K) m))) :=
  ⟨fun h => tells_hyp hm (bas_of_chk h).1 (bas_of_chk h).2, fun h r w hr => Hyperplanes_bad m r (N K) w hr h⟩
theorem all_rk {m : Nat} {K : List Nat} (hm : m ≤ 8) : TellsAll 20 m K (N ((List.range (2 ^ m)).map (rk K))) :=
  ⟨fun h => tells_rk hm (bas_of_chk h).1 (bas_of_chk h).2, fun h r w hr => Ranks_bad m r (N K) w hr h⟩
/-- What is handed back: a matroid, or an error. -/
def MakesI (w : World) (q n : Int) (l : List Nat) (e : Ending) (w' : World) : Prop := (q = 0 → GivesM w n l e w') ∧ (q ≠ 0 → e = .returned (.tuple #[.agg #[.int .i64 0, .slice none 0 0], .int .i64 q]) ∧ Below w.heap.size w w')
def mstL (l : List Nat) : List Nat := l.filter fun s => !l.any (otherOut s)
set_option maxHeartbeats 1600000 in
theorem OfInd_any (m : Nat) (u : Value) (l : List Nat) (w : World) (hm : m ≤ 8) (hf : Fam m l) (h : Ints w u (N l)) :
    Calls Try.prog 28 #[.int .i64 m, u] w (MakesI w (madeE m (mstL l) (N (indL m (mstL l))) (N l)) m (mstL l)) := by
  have HU := hid h
  have hK : Fam m (mstL l) := ⟨hf.up.sublist List.filter_sublist, fun s hs => hf.lt s (List.mem_filter.1 hs).1⟩
  have HKL := hid (Nat.le_trans (fam_len hm hK) (by decide : 256 ≤ 17592186044416))
  have HM := hid (fun w1 (hb1 : Below w.heap.size w w1) => Most_good m u l w1 (hf.lt256 hm) (HU.out.below hb1) (fam_mk hm hf))
  change Hid (∀ w1, Below w.heap.size w w1 → Calls _ _ _ w1 fun e w' => ∃ r, e = .returned (.tuple #[r, .int .i64 0]) ∧ Own _ w' r (mstL l) ∧ _) at HM
  have AI := hid (all_ind (K := mstL l) hm)
  obtain ⟨a, cap, hv, _, _⟩ := h.nats
  subst hv
  have HB0 := hid (below_box w #[.int .i64 0, .slice none 0 0])
  have HC := hid (HM.out _ HB0.out)
  have EG : Hid (Enters 18) := fun args w => enters_of Try.func18 (by kernel_rfl) rfl args w
  generalize mstL l = K at *
  generalize N (indL m K) = zs at *
  go_enter Try.func28, Try.ntmps28
  go_wp2_with fail
  refine HC.out.mono ?_
  rintro e w2 ⟨r, rfl, ho, hb2⟩
  have HX := hid (box1 hb2)
  have HB := hid (HB0.out.trans (hb2.mono HB0.out.size))
  have HR := hid (ho.ints HKL.out)
  have HO := hid ho
  obtain ⟨a3, cap3, hr, _, _⟩ := HR.out.nats
  subst hr
  have MA := hid (made_any AI.out EG.out HR.out (HU.out.below HB.out))
  clear hb2 ho
  by_cases hq : madeE m K zs (N l) = 0
  · rw [if_pos hq] at MA
    have HQ := hid hq
    go_wp2_with fail
    refine MA.out.mono ?_
    rintro e w4 ⟨rfl, hb4⟩
    have H4 := hid ((hb4.block _ HX.out.2).trans HX.out.1)
    have HB4 := hid (HB.out.trans (hb4.mono HB.out.size))
    have HS := hid (set_two (x := .int .i64 m) (y := .slice a3 K.length cap3) H4.out)
    have HD := hid (below_two (b := w.heap.size) (x := .int .i64 m) (y := .slice a3 K.length cap3) HB4.out (Nat.le_refl _))
    have HRR := hid (((HO.out.below hb4).set2 (b := w.heap.size) (x := .int .i64 m) (y := .slice a3 K.length cap3) (by simp)).ints HKL.out)
    obtain ⟨y2, y3, g2, g3⟩ := two_cells H4.out
    clear hb4
    go_wp2_with fail
    obtain ⟨c0, c1⟩ := HS.out
    refine bodyPost_ret (v := .tuple #[.agg #[.int .i64 m, .slice a3 K.length cap3], .int .i64 0]) ?_ rfl ⟨fun _ => ⟨_, rfl, HRR.out, HD.out⟩, fun e => absurd HQ.out e⟩
    simp [results, Try.f28, go_sem, c0, c1]
  · rw [if_neg hq] at MA
    have HQ : Hid (madeE m K zs (N l) = 3) := by
      show _ = _
      unfold madeE at hq ⊢
      split
      · rename_i h; rw [if_pos h] at hq; exact absurd rfl hq
      · rfl
    go_wp2_with fail
    refine MA.out.mono ?_
    rintro e w4 ⟨rfl, hb4⟩
    have H4 := hid ((hb4.block _ HX.out.2).trans HX.out.1)
    have HB4 := hid (HB.out.trans (hb4.mono HB.out.size))
    have HS := hid (set_two (x := .int .i64 0) (y := .slice none 0 0) H4.out)
    have HD := hid (below_two (b := w.heap.size) (x := .int .i64 0) (y := .slice none 0 0) HB4.out (Nat.le_refl _))
    obtain ⟨y2, y3, g2, g3⟩ := two_cells H4.out
    clear hb4
    go_wp2_with fail
    obtain ⟨c0, c1⟩ := HS.out
    refine bodyPost_ret (v := .tuple #[.agg #[.int .i64 0, .slice none 0 0], .int .i64 3]) ?_ rfl ⟨fun e => absurd (HQ.out.symm.trans e) (by decide), fun _ => ⟨by rw [HQ.out], HD.out⟩⟩
    simp [results, Try.f28, go_sem, c0, c1]
end Go.Proofs.Ythbldeloocmakaa
