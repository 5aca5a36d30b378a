/- meet.heaviestOfEachSize; meet.Common, meet.Heaviest, meet.Spanned. -/
import Derived.Test.YtomajfpincehnaaMtAQ
import Derived.Test.YtomajfpincehnaaGrBestW
import Derived.Test.YtomajfpincehnaaOwnPQ
namespace Go.Proofs.Ytomajfpincehnaa
open Go.RowKit Go.Shelf

theorem hv_len9 {n : Nat} {r q : Nat → Nat} (hn : n ≤ 8) (hr : RkOn n r) (hq : RkOn n q) (W : Nat → Int) {k : Nat} (hk : k ≤ (comL n r q).length) : (hvF W ((comL n r q).take k)).length ≤ 9 ∧ ∀ j, j < (hvF W ((comL n r q).take k)).length → (hvF W ((comL n r q).take k)).getD j 0 < 256 := by
  have h := (hv_walk hn hr hq W k hk).1
  have at_ : ∀ j, j < (hvF W ((comL n r q).take k)).length → (hvF W ((comL n r q).take k)).getD j 0 < 256 ∧ pop ((hvF W ((comL n r q).take k)).getD j 0) = j := fun j hj => by
    obtain ⟨a1, a2, _⟩ := h.at_ j hj
    exact ⟨lt256 hn (mem_comL.1 (List.mem_of_mem_take a1)).1, a2⟩
  refine ⟨?_, fun j hj => (at_ j hj).1⟩
  rcases Nat.eq_zero_or_pos (hvF W ((comL n r q).take k)).length with e | e
  · omega
  · obtain ⟨h1, h2⟩ := at_ ((hvF W ((comL n r q).take k)).length - 1) (by omega)
    have := pop_le _ h1
    omega
set_option maxHeartbeats 1000000 in
theorem Common_none (n k : Int) (v u : Value) (zs ys : List Int) (w : World) (h : Ints w v zs) (h' : Ints w u ys) (hq : uniQ n zs k ys ≠ 0) :
    Calls Try.prog 4 #[.agg #[.int .i64 n, v], .agg #[.int .i64 k, u]] w fun e w' => e = .returned (.tuple #[.int .i64 0, .int .i64 0, .int .i64 (uniQ n zs k ys)]) ∧ Below w.heap.size w w' := by
  have HI := hid h
  have HI' := hid h'
  obtain ⟨a, cap, rfl, _, _⟩ := h
  obtain ⟨a', cap', rfl, _, _⟩ := h'
  have HB0 := hid (box2_below w n (.slice a zs.length cap) k (.slice a' ys.length cap'))
  have R1 := hid (alike_none n k _ _ zs ys _ (HI.out.below HB0.out) (HI'.out.below HB0.out) hq)
  generalize uniQ n zs k ys = q at *
  have hc' : (q == 0) = false := by rw [beq_eq_false_iff_ne]; exact hq
  go_enter Try.func4, Try.ntmps4
  go_wp2_with fail
  refine R1.out.mono ?_
  rintro e w1 ⟨rfl, hb1⟩
  have HB1 := hid (HB0.out.trans (hb1.mono HB0.out.size))
  clear hb1
  go_wp2_with fail
  refine bodyPost_ret (v := .tuple #[.int .i64 0, .int .i64 0, .int .i64 q]) ?_ rfl ⟨rfl, HB1.out⟩
  simp [results, Try.f4, go_sem]
set_option maxHeartbeats 1000000 in
theorem Common_ok (m : Nat) (v u : Value) (l l' : List Nat) (w : World) (hm : m ≤ 8) (hf : Fam m l) (hb : Bas l) (h : Ints w v (N l)) (hf' : Fam m l') (hb' : Bas l') (h' : Ints w u (N l')) :
    Calls Try.prog 4 #[.agg #[.int .i64 m, v], .agg #[.int .i64 m, u]] w fun e w' => e = .returned (.tuple #[.int .i64 (comS m (rk l) (rk l') : Nat), .int .i64 (barS m (rk l) (rk l') : Nat), .int .i64 0]) ∧ Below w.heap.size w w' := by
  have HI := hid h
  have HI' := hid h'
  obtain ⟨a, cap, hv, -, -⟩ := h.nats
  subst hv
  obtain ⟨a', cap', hv, -, -⟩ := h'.nats
  subst hv
  have HB0 := hid (box2_below w m (.slice a l.length cap) m (.slice a' l'.length cap'))
  have R1 := hid (alike_ok m _ _ l l' _ hm hf hb (HI.out.below HB0.out) hf' hb' (HI'.out.below HB0.out))
  have hr := hb.rkOn m
  have hq := hb'.rkOn m
  have I1 : Hid (∀ va vb w', RkAt w' va (2 ^ m) (rk l) → RkAt w' vb (2 ^ m) (rk l') → Calls Try.prog 15 #[va, vb] w' fun e w2 => ∃ v, e = .returned v ∧ Own w'.heap.size w2 v (comL m (rk l) (rk l')) ∧ Below w'.heap.size w' w2) := fun va vb w' ha hb' => indBoth_any va vb (2 ^ m) _ _ w' (pow_wrap m hm).2 ha hb'
  have hl256 : (comL m (rk l) (rk l')).length ≤ 256 := fam_len hm (comL_fam m _ _)
  have I2 : Hid (∀ v w', Ints w' v (N (comL m (rk l) (rk l'))) → _) := fun v w' hv => largest_any v (comL m (rk l) (rk l')) w' hv (comL_fam m _ _).up ((comL_fam m _ _).lt256 hm) hl256
  have I3 : Hid (∀ va vb w', RkAt w' va (2 ^ m) (rk l) → RkAt w' vb (2 ^ m) (rk l') → _) := fun va vb w' ha hb' => tightest_any va vb m (rk l) (rk l') w' hm (rk_small hm hf) (rk_small hm hf') ha hb'
  rw [lg_com hr hq] at I2
  rw [tg_bar hm hr hq] at I3
  generalize comL m (rk l) (rk l') = L at *
  generalize comS m (rk l) (rk l') = cs at *
  generalize barS m (rk l) (rk l') = bs at *
  generalize 2 ^ m = T at *
  go_enter Try.func4, Try.ntmps4
  go_wp2_with fail
  refine R1.out.mono ?_
  rintro e w1 ⟨r, r', rfl, hr, hr', hb1⟩
  have HB1 := hid (HB0.out.trans (hb1.mono HB0.out.size))
  have HR1 := hid hr
  have HR2 := hid hr'
  have I1' := hid (I1.out _ _ _ hr hr')
  obtain ⟨rb, roff, rcap, rfl, -, -⟩ := hr
  obtain ⟨rb', roff', rcap', rfl, -, -⟩ := hr'
  clear hb1 I1
  go_wp2_with fail
  refine I1'.out.mono ?_
  rintro e w2 ⟨v2, rfl, ho2, hb2⟩
  have HB2 := hid (HB1.out.trans (hb2.mono HB1.out.size))
  have I2' := hid (I2.out _ _ (ho2.ints (by omega)))
  have I3' := hid (I3.out _ _ _ (HR1.out.below hb2) (HR2.out.below hb2))
  obtain ⟨la, lc, rfl⟩ := ownsRow_form' ho2
  clear ho2 hb2 I2 I3
  go_wp2_with fail
  refine I2'.out.mono ?_
  rintro e w3 ⟨rfl, rfl⟩
  go_wp2_with fail
  refine I3'.out.mono ?_
  rintro e w4 ⟨rfl, hb4⟩
  have HB4 := hid (HB2.out.trans (hb4.mono HB2.out.size))
  clear hb4
  go_wp2_with fail
  refine bodyPost_ret (v := .tuple #[.int .i64 cs, .int .i64 bs, .int .i64 0]) ?_ rfl ⟨rfl, HB4.out⟩
  simp [results, Try.f4, go_sem]
end Go.Proofs.Ytomajfpincehnaa
