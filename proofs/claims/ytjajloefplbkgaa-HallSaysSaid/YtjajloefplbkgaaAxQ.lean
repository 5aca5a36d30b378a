/- The calls of package axioms that tell families, ranks and closures; rotakeep.two. -/
import Derived.Test.YtjajloefplbkgaaFamsQ
namespace Go.Proofs.Ytjajloefplbkgaa
open Go.RowKit

theorem rk_small {m : Nat} {l : List Nat} (hm : m ≤ 8) (hf : Fam m l) : ∀ i, rk l i ≤ 8 := rk_le8 l (hf.lt256 hm)
theorem below_box (w : World) (cs : Array Value) : Below w.heap.size w (w.alloc (.cells cs 44)) := (Below.refl _ _).alloc (Nat.le_refl _) _
theorem box_cells {w w2 : World} {n : Int} {u : Value} (hb2 : Below (w.alloc (.cells #[.int .i64 n, u] 44)).heap.size (w.alloc (.cells #[.int .i64 n, u] 44)) w2) :
    w2.cell? ⟨w.heap.size, 0, none⟩ = some (.int .i64 n) ∧ w2.cell? ⟨w.heap.size, 1, none⟩ = some u := by
  have hx : w2.heap[w.heap.size]? = some (.cells #[.int .i64 n, u] 44 (0, 0)) := (hb2.block _ (by simp)).trans (World.alloc_heap_new w _)
  exact ⟨by simp [World.cell?, hx], by simp [World.cell?, hx]⟩

/-- A literal slice. -/
theorem litsAt (w : World) (l : List Nat) (h : l.length ≤ 17592186044416 := by decide) : Ints (w.alloc (.cells (V l).toArray 3)) (.slice (some ⟨w.heap.size, 0, none⟩) l.length l.length) (N l) := by
  refine ⟨_, _, by rw [N_len], by rw [N_len]; exact h, fun _ => ⟨w.heap.size, 0, rfl, by simp, fun i hi => ?_⟩⟩
  rw [N_len] at hi
  rw [World.cell?_alloc_at _ _ _ _ rfl, N_getD, Nat.zero_add]
  simp [V, hi, List.getD]





theorem Ranks_bad (n : Int) (v : Value) (zs : List Int) (w : World) (h : Ints w v zs) (hc : chkR n zs ≠ 0) :
    Calls Try.prog 38 #[.agg #[.int .i64 n, v]] w fun e w' => e = .returned (.tuple #[.slice none 0 0, .int .i64 (chkR n zs)]) ∧ Below w.heap.size w w' := by
  have HI := hid h
  obtain ⟨a, cap, rfl, _, _⟩ := h
  have hB0 : Below w.heap.size w (w.alloc (.cells #[.int .i64 n, .slice a zs.length cap] 44)) := (Below.refl _ _).alloc (Nat.le_refl _) _
  have HC := hid (check_any n _ zs _ (HI.out.below hB0))
  have HB0 := hid hB0
  generalize chkR n zs = q at *
  have hc' : (q == 0) = false := by rw [beq_eq_false_iff_ne]; exact hc
  clear hB0
  go_enter Try.func38, Try.ntmps38
  go_wp2_with fail
  refine HC.out.mono ?_
  rintro e w2 ⟨rfl, hb2⟩
  have HB := hid (HB0.out.trans (hb2.mono HB0.out.size))
  clear hb2
  go_wp2_with fail
  go_ret2
  exact ⟨rfl, HB.out⟩
theorem Ranks_ok (m : Nat) (v : Value) (l : List Nat) (w : World) (hm : m ≤ 8) (hf : Fam m l) (hb : Bas l) (h : Ints w v (N l)) :
    Calls Try.prog 38 #[.agg #[.int .i64 m, v]] w fun e w' => ∃ r, e = .returned (.tuple #[r, .int .i64 0]) ∧ RkAt w' r (2 ^ m) (rk l) ∧ Below w.heap.size w w' := by
  have HI := hid h
  obtain ⟨a, cap, hv, _, _⟩ := h
  rw [N_len] at hv
  subst hv
  have hB0 : Below w.heap.size w (w.alloc (.cells #[.int .i64 m, .slice a l.length cap] 44)) := (Below.refl _ _).alloc (Nat.le_refl _) _
  have HC := hid (check_any m _ (N l) _ (HI.out.below hB0))
  have H0 := hid (chk_mk hm hf hb)
  have HR := hid (fun w' (hb' : Below w.heap.size w w') => ranks_any m _ l w' hm (hf.lt256 hm) (HI.out.below hb'))
  have HB0 := hid hB0
  clear hB0
  generalize 2 ^ m = T at *
  go_enter Try.func38, Try.ntmps38
  go_wp2_with fail
  refine HC.out.mono ?_
  rw [H0.out]
  rintro e w2 ⟨rfl, hb2⟩
  obtain ⟨x0, x1⟩ := box_cells hb2
  have HB2 := hid (HB0.out.trans (hb2.mono HB0.out.size))
  clear hb2
  go_wp2_with fail
  refine (HR.out _ HB2.out).mono ?_
  rintro e w3 ⟨r, rfl, hr, hb3⟩
  have HB3 := hid (HB2.out.trans (hb3.mono HB2.out.size))
  have HRK := hid hr
  obtain ⟨rb, roff, rcap, rfl, _, _⟩ := hr
  clear hb3
  go_wp2_with fail
  go_ret2
  exact ⟨_, rfl, HRK.out, HB3.out⟩


end Go.Proofs.Ytjajloefplbkgaa
