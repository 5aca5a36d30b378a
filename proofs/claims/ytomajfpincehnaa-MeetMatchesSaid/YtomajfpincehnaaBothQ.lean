/- axioms.RanksOfBoth. -/
import Derived.Test.YtomajfpincehnaaRwLW
namespace Go.Proofs.Ytomajfpincehnaa
open Go.RowKit

/-- What two matroids are answered, if one is none. -/
def chk2 (n : Int) (zs : List Int) (k : Int) (ys : List Int) : Int := if chkR n zs = 0 then chkR k ys else chkR n zs
def box2 (w : World) (n : Int) (v : Value) (k : Int) (u : Value) : World := (w.alloc (.cells #[.int .i64 n, v] 30)).alloc (.cells #[.int .i64 k, u] 30)
theorem box2_below (w : World) (n : Int) (v : Value) (k : Int) (u : Value) : Below w.heap.size w (box2 w n v k u) := ((Below.refl _ _).alloc (Nat.le_refl _) _).alloc (by simp) _
theorem box2_size (w : World) (n : Int) (v : Value) (k : Int) (u : Value) : (box2 w n v k u).heap.size = w.heap.size + 2 := by unfold box2; simp
theorem box2_blocks {w w2 : World} {n : Int} {v : Value} {k : Int} {u : Value} (hb2 : Below (box2 w n v k u).heap.size (box2 w n v k u) w2) :
    w2.heap[w.heap.size]? = some (.cells #[.int .i64 n, v] 30 (0, 0)) ∧ w2.heap[w.heap.size + 1]? = some (.cells #[.int .i64 k, u] 30 (0, 0)) := by
  have hs := box2_size w n v k u
  refine ⟨(hb2.block _ (by omega)).trans ?_, (hb2.block _ (by omega)).trans ?_⟩
  · unfold box2
    rw [Below.heap_alloc _ _ _ (by simp)]
    exact World.alloc_heap_new w _
  · unfold box2
    have := World.alloc_heap_new (w.alloc (.cells #[.int .i64 n, v] 30)) (.cells #[.int .i64 k, u] 30)
    simpa using this
theorem cells2 {w : World} {b : Nat} {x y : Value} {t : TypeId} (h : w.heap[b]? = some (.cells #[x, y] t (0, 0))) : w.cell? ⟨b, 0, none⟩ = some x ∧ w.cell? ⟨b, 1, none⟩ = some y := by
  refine ⟨?_, ?_⟩ <;> simp [World.cell?, h]
set_option maxHeartbeats 1000000 in
theorem both_bad (n k : Int) (v u : Value) (zs ys : List Int) (w : World) (h : Ints w v zs) (h' : Ints w u ys) (hc : chk2 n zs k ys ≠ 0) :
    Calls Try.prog 28 #[.agg #[.int .i64 n, v], .agg #[.int .i64 k, u]] w fun e w' => e = .returned (.tuple #[.slice none 0 0, .slice none 0 0, .int .i64 (chk2 n zs k ys)]) ∧ Below w.heap.size w w' := by
  have HI := hid h
  have HI' := hid h'
  obtain ⟨a, cap, rfl, _, _⟩ := h
  obtain ⟨a', cap', rfl, _, _⟩ := h'
  have HB0 := hid (box2_below w n (.slice a zs.length cap) k (.slice a' ys.length cap'))
  by_cases h1 : chkR n zs = 0
  · have e2 : chk2 n zs k ys = chkR k ys := by unfold chk2; rw [if_pos h1]
    rw [e2] at hc ⊢
    obtain ⟨m, l, rfl, hm, rfl, hf, hb⟩ := chk_of h1
    rw [N_len] at *
    have R1 := hid (Ranks_ok m _ l _ hm hf hb (HI.out.below HB0.out))
    have R2 := hid (fun w' (hb' : Below w.heap.size w w') => Ranks_bad k _ ys w' (HI'.out.below hb') hc)
    generalize chkR k ys = q at *
    have hc' : (q == 0) = false := by rw [beq_eq_false_iff_ne]; exact hc
    clear e2 h1
    generalize 2 ^ m = T at *
    go_enter Try.func28, Try.ntmps28
    go_wp2_with fail
    refine R1.out.mono ?_
    rintro e w1 ⟨r, rfl, hr, hb1⟩
    obtain ⟨b1, b2⟩ := box2_blocks hb1
    obtain ⟨x0, x1⟩ := cells2 b1
    obtain ⟨y0, y1⟩ := cells2 b2
    have HB1 := hid (HB0.out.trans (hb1.mono HB0.out.size))
    obtain ⟨rb, roff, rcap, rfl, _, _⟩ := hr
    clear hb1 b1 b2
    go_wp2_with fail
    refine (R2.out _ HB1.out).mono ?_
    rintro e w2 ⟨rfl, hb2⟩
    have HB2 := hid (HB1.out.trans (hb2.mono HB1.out.size))
    clear hb2
    go_wp2_with fail
    refine bodyPost_ret (v := .tuple #[.slice none 0 0, .slice none 0 0, .int .i64 q]) ?_ rfl ⟨rfl, HB2.out⟩
    simp [results, Try.f28, go_sem]
  · have e2 : chk2 n zs k ys = chkR n zs := by unfold chk2; rw [if_neg h1]
    rw [e2] at hc ⊢
    have R1 := hid (Ranks_bad n _ zs _ (HI.out.below HB0.out) h1)
    generalize chkR n zs = q at *
    have hc' : (q == 0) = false := by rw [beq_eq_false_iff_ne]; exact hc
    clear e2 h1
    go_enter Try.func28, Try.ntmps28
    go_wp2_with fail
    refine R1.out.mono ?_
    rintro e w1 ⟨rfl, hb1⟩
    have HB1 := hid (HB0.out.trans (hb1.mono HB0.out.size))
    clear hb1
    go_wp2_with fail
    refine bodyPost_ret (v := .tuple #[.slice none 0 0, .slice none 0 0, .int .i64 q]) ?_ rfl ⟨rfl, HB1.out⟩
    simp [results, Try.f28, go_sem]
set_option maxHeartbeats 1000000 in
theorem both_ok (m k : Nat) (v u : Value) (l l' : List Nat) (w : World) (hm : m ≤ 8) (hf : Fam m l) (hb : Bas l) (h : Ints w v (N l)) (hk : k ≤ 8) (hf' : Fam k l') (hb' : Bas l') (h' : Ints w u (N l')) :
    Calls Try.prog 28 #[.agg #[.int .i64 m, v], .agg #[.int .i64 k, u]] w fun e w' => ∃ r r', e = .returned (.tuple #[r, r', .int .i64 0]) ∧ RkAt w' r (2 ^ m) (rk l) ∧ RkAt w' r' (2 ^ k) (rk l') ∧ Below w.heap.size w w' := by
  have HI := hid h
  have HI' := hid h'
  obtain ⟨a, cap, hv, _, _⟩ := h
  obtain ⟨a', cap', hv', _, _⟩ := h'
  rw [N_len] at hv hv'
  subst hv
  subst hv'
  have HB0 := hid (box2_below w m (.slice a l.length cap) k (.slice a' l'.length cap'))
  have R1 := hid (Ranks_ok m _ l _ hm hf hb (HI.out.below HB0.out))
  have R2 := hid (fun w' (hb0 : Below w.heap.size w w') => Ranks_ok k _ l' w' hk hf' hb' (HI'.out.below hb0))
  generalize 2 ^ m = T at *
  generalize 2 ^ k = T' at *
  go_enter Try.func28, Try.ntmps28
  go_wp2_with fail
  refine R1.out.mono ?_
  rintro e w1 ⟨r, rfl, hr, hb1⟩
  obtain ⟨b1, b2⟩ := box2_blocks hb1
  obtain ⟨x0, x1⟩ := cells2 b1
  obtain ⟨y0, y1⟩ := cells2 b2
  have HB1 := hid (HB0.out.trans (hb1.mono HB0.out.size))
  have HR := hid hr
  obtain ⟨rb, roff, rcap, rfl, _, _⟩ := hr
  clear hb1 b1 b2
  go_wp2_with fail
  refine (R2.out _ HB1.out).mono ?_
  rintro e w2 ⟨r', rfl, hr', hb2⟩
  have HB2 := hid (HB1.out.trans (hb2.mono HB1.out.size))
  have HR1 := hid (HR.out.below hb2)
  have HR2 := hid hr'
  obtain ⟨rb', roff', rcap', rfl, _, _⟩ := hr'
  clear hb2
  go_wp2_with fail
  refine bodyPost_ret (v := .tuple #[.slice (some ⟨rb, roff, none⟩) T rcap, .slice (some ⟨rb', roff', none⟩) T' rcap', .int .i64 0]) ?_ rfl ⟨_, _, rfl, HR1.out, HR2.out, HB2.out⟩
  simp [results, Try.f28, go_sem]
end Go.Proofs.Ytomajfpincehnaa
