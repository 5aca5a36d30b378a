/- minors.Relax. -/
import Derived.Test.YthbldeloocmakabGreatFreeQ
import Derived.Test.YthbldeloocmakabGreatConcW
namespace Go.Proofs.YthbldeloocmakabGreat
open Go.RowKit

theorem in_fil {T s : Nat} {p : Nat → Bool} (hs : s < T) : decide ((s : Int) ∈ N ((List.range T).filter p)) = p s := by
  unfold N
  rw [Bool.eq_iff_iff, decide_eq_true_eq, List.mem_map]
  constructor
  · rintro ⟨x, hx, e⟩
    have e' : (x : Int) = s := e
    obtain rfl : x = s := by omega
    exact (List.mem_filter.1 hx).2
  · intro h
    exact ⟨s, List.mem_filter.2 ⟨List.mem_range.2 hs, h⟩, rfl⟩
set_option maxHeartbeats 800000 in
theorem Relax_bad (n s : Int) (v : Value) (zs : List Int) (w : World) (h : Ints w v zs) (hc : chkR n zs ≠ 0) :
    Calls Tryz.prog 19 #[.agg #[.int .i64 n, v], .int .i64 s] w (BadM w (chkR n zs)) := by
  have HI := hid h
  obtain ⟨a, cap, rfl, _, _⟩ := h
  have HB0 := hid (boxM_below w n (.slice a zs.length cap))
  have HRK := hid (Circuits_bad n _ zs _ (HI.out.below HB0.out) hc)
  have HX : Hid (∀ w2, Below (boxM w n (.slice a zs.length cap)).heap.size (boxM w n (.slice a zs.length cap)) w2 → _) := fun w2 h => boxM_blocks h
  have HSZ := hid (boxM_size w n (.slice a zs.length cap))
  generalize chkR n zs = q at *
  have hc' : (q == 0) = false := by rw [beq_eq_false_iff_ne]; exact hc
  go_enter Tryz.func19, Tryz.ntmps19
  go_wp2_with fail
  refine HRK.out.mono ?_
  rintro e w1 ⟨rfl, hb1⟩
  obtain ⟨_, hx3⟩ := HX.out w1 hb1
  have hsz1 : w.heap.size + 2 ≤ w1.heap.size := by have := hb1.size; have := HSZ.out; omega
  have HB1 : Hid (Below w.heap.size w w1) := HB0.out.trans (hb1.mono HB0.out.size)
  have HC := hid (set_two (x := .int .i64 0) (y := .slice none 0 0) hx3)
  have HD := hid (below_two (b := w.heap.size + 1) (x := .int .i64 0) (y := .slice none 0 0) HB1.out (by omega))
  obtain ⟨y2, y3, g2, g3⟩ := two_cells hx3
  clear hb1 hx3
  go_wp2_with fail
  obtain ⟨c0, c1⟩ := HC.out
  refine bodyPost_ret (v := .tuple #[.agg #[.int .i64 0, .slice none 0 0], .int .i64 q]) ?_ rfl ⟨rfl, HD.out⟩
  simp [results, Tryz.f19, go_sem, c0, c1]
set_option maxHeartbeats 800000 in
theorem Relax_arg (m : Nat) (s : Int) (v : Value) (l : List Nat) (w : World) (hm : m ≤ 8) (hf : Fam m l) (hb : Bas l) (h : Ints w v (N l)) (hs : setR m s = 1) :
    Calls Tryz.prog 19 #[.agg #[.int .i64 m, v], .int .i64 s] w (BadM w 1) := by
  have HI := hid h
  obtain ⟨a, cap, hv, _, _⟩ := h.nats
  subst hv
  have HB0 := hid (boxM_below w m (.slice a l.length cap))
  have HRK := hid (Circuits_ok m _ l _ hm hf hb (HI.out.below HB0.out))
  have HX : Hid (∀ w2, Below (boxM w m (.slice a l.length cap)).heap.size (boxM w m (.slice a l.length cap)) w2 → _) := fun w2 h => boxM_blocks h
  have HSZ := hid (boxM_size w m (.slice a l.length cap))
  have HSC := hid (fun w' => setsCheck_any m s w')
  rw [hs] at HSC
  clear hs
  generalize (List.range (2 ^ m)).filter (cirB (rk l)) = cs at *
  go_enter Tryz.func19, Tryz.ntmps19
  go_wp2_with fail
  refine HRK.out.mono ?_
  rintro e w1 ⟨r1, rfl, hr1, hb1⟩
  obtain ⟨ra, rc, rfl⟩ := ownsRow_form' hr1
  obtain ⟨hx0, hx3⟩ := HX.out w1 hb1
  obtain ⟨x0, x1, _, _⟩ := two_cells hx0
  have hsz1 : w.heap.size + 2 ≤ w1.heap.size := by have := hb1.size; have := HSZ.out; omega
  have HB1 : Hid (Below w.heap.size w w1) := HB0.out.trans (hb1.mono HB0.out.size)
  have HC := hid (set_two (x := .int .i64 0) (y := .slice none 0 0) hx3)
  have HD := hid (below_two (b := w.heap.size + 1) (x := .int .i64 0) (y := .slice none 0 0) HB1.out (by omega))
  obtain ⟨y2, y3, g2, g3⟩ := two_cells hx3
  clear hb1 hx3 hx0 hr1
  go_wp2_with fail
  refine (HSC.out _).mono ?_
  rintro e w1' ⟨rfl, rfl⟩
  go_wp2_with fail
  obtain ⟨c0, c1⟩ := HC.out
  refine bodyPost_ret (v := .tuple #[.agg #[.int .i64 0, .slice none 0 0], .int .i64 1]) ?_ rfl ⟨rfl, HD.out⟩
  simp [results, Tryz.f19, go_sem, c0, c1]
set_option maxHeartbeats 800000 in
theorem Relax_shape (m s : Nat) (v : Value) (l : List Nat) (w : World) (hm : m ≤ 8) (hf : Fam m l) (hb : Bas l) (h : Ints w v (N l)) (hs : s < 2 ^ m) (hn : (cirB (rk l) s && hypB (rk l) m s) = false) :
    Calls Tryz.prog 19 #[.agg #[.int .i64 m, v], .int .i64 s] w (BadM w 3) := by
  have HI := hid h
  obtain ⟨a, cap, hv, _, _⟩ := h.nats
  subst hv
  have HB0 := hid (boxM_below w m (.slice a l.length cap))
  have HRK := hid (Circuits_ok m _ l _ hm hf hb (HI.out.below HB0.out))
  have HHY := hid (fun w' (hb' : Below w.heap.size w w') => Hyperplanes_ok m _ l w' hm hf hb (HI.out.below hb'))
  have HX : Hid (∀ w2, Below (boxM w m (.slice a l.length cap)).heap.size (boxM w m (.slice a l.length cap)) w2 → _) := fun w2 h => boxM_blocks h
  have HSZ := hid (boxM_size w m (.slice a l.length cap))
  have HSC := hid (fun w' => setsCheck_any m s w')
  rw [setR_ok hm hs] at HSC
  have HN : Hid (decide ((s : Int) ∈ N ((List.range (2 ^ m)).filter (cirB (rk l)))) = false ∨ decide ((s : Int) ∈ N ((List.range (2 ^ m)).filter (hypB (rk l) m))) = false) := by
    rcases hc : cirB (rk l) s with _ | _
    · exact .inl ((in_fil hs).trans hc)
    · rw [hc, Bool.true_and] at hn
      exact .inr ((in_fil hs).trans hn)
  have hcl := ran_len hm (cirB (rk l))
  have hhl := ran_len hm (hypB (rk l) m)
  generalize (List.range (2 ^ m)).filter (cirB (rk l)) = cs at *
  generalize (List.range (2 ^ m)).filter (hypB (rk l) m) = hs' at *
  go_enter Tryz.func19, Tryz.ntmps19
  go_wp2_with fail
  refine HRK.out.mono ?_
  rintro e w1 ⟨r1, rfl, hr1, hb1⟩
  obtain ⟨ra, rc, rfl⟩ := ownsRow_form' hr1
  have HR1 := hid hr1
  obtain ⟨hx0, hx3⟩ := HX.out w1 hb1
  have HY0 := hid hx0
  have HY1 := hid hx3
  obtain ⟨x0, x1, _, _⟩ := two_cells hx0
  have hsz1 : w.heap.size + 2 ≤ w1.heap.size := by have := hb1.size; have := HSZ.out; omega
  have HB1 : Hid (Below w.heap.size w w1) := HB0.out.trans (hb1.mono HB0.out.size)
  clear hb1 hx3 hx0 hr1
  go_wp2_with fail
  refine (HSC.out _).mono ?_
  rintro e w1' ⟨rfl, rfl⟩
  go_wp2_with fail
  refine (HHY.out _ HB1.out).mono ?_
  rintro e w2 ⟨r2, rfl, hr2, hb2⟩
  obtain ⟨ra2, rc2, rfl⟩ := ownsRow_form' hr2
  have HR2 := hid hr2
  have HB2 : Hid (Below w.heap.size w w2) := HB1.out.trans (hb2.mono HB1.out.size)
  have HZ1 : Hid (w2.heap[w.heap.size + 1]? = some (.cells #[.int .i64 0, .slice none 0 0] 24 (0, 0))) := (hb2.block _ (by omega)).trans HY1.out
  have hsz2 := hb2.size
  have HI1 := hid (HR1.out.ints hcl)
  have HC1 := hid (fun w' (hb' : Below w2.heap.size w2 w') => ContainsC_any _ _ (s : Int) w' ((HI1.out.below hb2).below hb'))
  have HC2 := hid (fun w' (hb' : Below w2.heap.size w2 w') => ContainsC_any _ _ (s : Int) w' ((HR2.out.ints hhl).below hb'))
  clear hr2 hb2 x0 x1
  go_wp2_with fail
  refine (HC1.out _ (Below.refl _ _)).mono ?_
  rintro e w3 ⟨rfl, hb3⟩
  have HB_w3 := hid hb3
  clear hb3
  rcases hd : decide ((s : Int) ∈ N cs) with _ | _
  · have hx3 := (HB_w3.out.block (w.heap.size + 1) (by omega)).trans HZ1.out
    clear hd
    have HC := hid (set_two (x := .int .i64 0) (y := .slice none 0 0) hx3)
    have HD := hid (below_two (b := w.heap.size + 1) (x := .int .i64 0) (y := .slice none 0 0) (HB2.out.trans (HB_w3.out.mono HB2.out.size)) (by omega))
    obtain ⟨y2, y3, g2, g3⟩ := two_cells hx3
    clear hx3
    go_wp2_with fail
    obtain ⟨c0, c1⟩ := HC.out
    refine bodyPost_ret (v := .tuple #[.agg #[.int .i64 0, .slice none 0 0], .int .i64 3]) ?_ rfl ⟨rfl, HD.out⟩
    simp [results, Tryz.f19, go_sem, c0, c1]
  · rw [hd] at HN
    have HN2 : Hid (decide ((s : Int) ∈ N hs') = false) := HN.out.resolve_left (by simp)
    rw [HN2.out] at HC2
    clear hd
    go_wp2_with fail
    refine (HC2.out _ HB_w3.out).mono ?_
    rintro e w4 ⟨rfl, hb4⟩
    have HB_w4 := hid (HB_w3.out.trans (hb4.mono HB_w3.out.size))
    have hx3 := (HB_w4.out.block (w.heap.size + 1) (by omega)).trans HZ1.out
    clear hb4
    have HC := hid (set_two (x := .int .i64 0) (y := .slice none 0 0) hx3)
    have HD := hid (below_two (b := w.heap.size + 1) (x := .int .i64 0) (y := .slice none 0 0) (HB2.out.trans (HB_w4.out.mono HB2.out.size)) (by omega))
    obtain ⟨y2, y3, g2, g3⟩ := two_cells hx3
    clear hx3
    go_wp2_with fail
    obtain ⟨c0, c1⟩ := HC.out
    refine bodyPost_ret (v := .tuple #[.agg #[.int .i64 0, .slice none 0 0], .int .i64 3]) ?_ rfl ⟨rfl, HD.out⟩
    simp [results, Tryz.f19, go_sem, c0, c1]
end Go.Proofs.YthbldeloocmakabGreat
