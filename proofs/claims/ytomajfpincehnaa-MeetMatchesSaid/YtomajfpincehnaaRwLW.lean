/- The calls of package axioms that tell families, ranks and closures; rotakeep.two. -/
import Derived.Test.YtomajfpincehnaaFewW
import Derived.Test.YtomajfpincehnaaPlainAll
import Derived.Test.YtomajfpincehnaaWholeQ
namespace Go.Proofs.Ytomajfpincehnaa
open Go.RowKit

theorem rk_small {m : Nat} {l : List Nat} (hm : m ≤ 8) (hf : Fam m l) : ∀ i, rk l i ≤ 8 := rk_le8 l (hf.lt256 hm)
theorem below_box (w : World) (cs : Array Value) : Below w.heap.size w (w.alloc (.cells cs 30)) := (Below.refl _ _).alloc (Nat.le_refl _) _
theorem box_cells {w w2 : World} {n : Int} {u : Value} (hb2 : Below (w.alloc (.cells #[.int .i64 n, u] 30)).heap.size (w.alloc (.cells #[.int .i64 n, u] 30)) w2) :
    w2.cell? ⟨w.heap.size, 0, none⟩ = some (.int .i64 n) ∧ w2.cell? ⟨w.heap.size, 1, none⟩ = some u := by
  have hx : w2.heap[w.heap.size]? = some (.cells #[.int .i64 n, u] 30 (0, 0)) := (hb2.block _ (by simp)).trans (World.alloc_heap_new w _)
  exact ⟨by simp [World.cell?, hx], by simp [World.cell?, hx]⟩

/-- A literal slice. -/
theorem litsAt (w : World) (l : List Nat) (h : l.length ≤ 17592186044416 := by decide) : Ints (w.alloc (.cells (V l).toArray 3)) (.slice (some ⟨w.heap.size, 0, none⟩) l.length l.length) (N l) := by
  refine ⟨_, _, by rw [N_len], by rw [N_len]; exact h, fun _ => ⟨w.heap.size, 0, rfl, by simp, fun i hi => ?_⟩⟩
  rw [N_len] at hi
  rw [World.cell?_alloc_at _ _ _ _ rfl, N_getD, Nat.zero_add]
  simp [V, hi, List.getD]





theorem Ranks_bad (n : Int) (v : Value) (zs : List Int) (w : World) (h : Ints w v zs) (hc : chkR n zs ≠ 0) :
    Calls Try.prog 49 #[.agg #[.int .i64 n, v]] w fun e w' => e = .returned (.tuple #[.slice none 0 0, .int .i64 (chkR n zs)]) ∧ Below w.heap.size w w' := by
  have HI := hid h
  obtain ⟨a, cap, rfl, _, _⟩ := h
  have hB0 : Below w.heap.size w (w.alloc (.cells #[.int .i64 n, .slice a zs.length cap] 30)) := (Below.refl _ _).alloc (Nat.le_refl _) _
  have HC := hid (check_any n _ zs _ (HI.out.below hB0))
  have HB0 := hid hB0
  generalize chkR n zs = q at *
  have hc' : (q == 0) = false := by rw [beq_eq_false_iff_ne]; exact hc
  clear hB0
  go_enter Try.func49, Try.ntmps49
  go_wp2_with fail
  refine HC.out.mono ?_
  rintro e w2 ⟨rfl, hb2⟩
  have HB := hid (HB0.out.trans (hb2.mono HB0.out.size))
  clear hb2
  go_wp2_with fail
  go_ret2
  exact ⟨rfl, HB.out⟩
theorem Ranks_ok (m : Nat) (v : Value) (l : List Nat) (w : World) (hm : m ≤ 8) (hf : Fam m l) (hb : Bas l) (h : Ints w v (N l)) :
    Calls Try.prog 49 #[.agg #[.int .i64 m, v]] w fun e w' => ∃ r, e = .returned (.tuple #[r, .int .i64 0]) ∧ RkAt w' r (2 ^ m) (rk l) ∧ Below w.heap.size w w' := by
  have HI := hid h
  obtain ⟨a, cap, hv, _, _⟩ := h
  rw [N_len] at hv
  subst hv
  have hB0 : Below w.heap.size w (w.alloc (.cells #[.int .i64 m, .slice a l.length cap] 30)) := (Below.refl _ _).alloc (Nat.le_refl _) _
  have HC := hid (check_any m _ (N l) _ (HI.out.below hB0))
  have H0 := hid (chk_mk hm hf hb)
  have HR := hid (fun w' (hb' : Below w.heap.size w w') => ranks_any m _ l w' hm (hf.lt256 hm) (HI.out.below hb'))
  have HB0 := hid hB0
  clear hB0
  generalize 2 ^ m = T at *
  go_enter Try.func49, Try.ntmps49
  go_wp2_with fail
  refine HC.out.mono ?_
  rw [H0.out]
  rintro e w2 ⟨rfl, hb2⟩
  obtain ⟨x0, x1⟩ := box_cells hb2
  have HB2 := hid (HB0.out.trans (hb2.mono HB0.out.size))
  clear hb2
  go_wp2_with fail
  refine (HR.out _ HB2.out).mono ?_
  rintro e w3 ⟨r, rfl, hr, hb3⟩
  have HB3 := hid (HB2.out.trans (hb3.mono HB2.out.size))
  have HRK := hid hr
  obtain ⟨rb, roff, rcap, rfl, _, _⟩ := hr
  clear hb3
  go_wp2_with fail
  go_ret2
  exact ⟨_, rfl, HRK.out, HB3.out⟩


end Go.Proofs.Ytomajfpincehnaa

namespace Go.Proofs.Ytomajfpincehnaa
open Go.RowKit Go.Shelf
attribute [local go_sem] Oper.semAt_some

def boxT (w : World) (n : Int) (v : Value) : World := ((w.alloc (.cells #[.int .i64 n, v] 30)).alloc (.cells #[.slice none 0 0] 28)).alloc (.cells #[.int .i64 0] 25)
theorem boxT_blocks {w w2 : World} {n : Int} {v : Value} (hb2 : Below (boxT w n v).heap.size (boxT w n v) w2) :
    w2.heap[w.heap.size]? = some (.cells #[.int .i64 n, v] 30 (0, 0)) ∧ w2.heap[w.heap.size + 1]? = some (.cells #[.slice none 0 0] 28 (0, 0)) ∧ w2.heap[w.heap.size + 1 + 1]? = some (.cells #[.int .i64 0] 25 (0, 0)) ∧ w.heap.size + 3 ≤ w2.heap.size := by
  have hs : (boxT w n v).heap.size = w.heap.size + 3 := by unfold boxT; simp
  refine ⟨(hb2.block _ (by omega)).trans ?_, (hb2.block _ (by omega)).trans ?_, (hb2.block _ (by omega)).trans ?_, by have := hb2.size; omega⟩
  · unfold boxT
    rw [Below.heap_alloc _ _ _ (by simp; omega), Below.heap_alloc _ _ _ (by simp)]
    exact World.alloc_heap_new w _
  · unfold boxT
    rw [Below.heap_alloc _ _ _ (by simp)]
    have := World.alloc_heap_new (w.alloc (.cells #[.int .i64 n, v] 30)) (.cells #[.slice none 0 0] 28)
    simpa using this
  · unfold boxT
    have := World.alloc_heap_new ((w.alloc (.cells #[.int .i64 n, v] 30)).alloc (.cells #[.slice none 0 0] 28)) (.cells #[.int .i64 0] 25)
    simpa using this
theorem two_cellsT {w : World} {b : Nat} {x y : Value} {t : TypeId} (h : w.heap[b]? = some (.cells #[x, y] t (0, 0))) : w.cell? ⟨b, 0, none⟩ = some x := by simp [World.cell?, h]
theorem one_cellT {w : World} {b : Nat} {x : Value} {t : TypeId} (h : w.heap[b]? = some (.cells #[x] t (0, 0))) : w.cell? ⟨b, 0, none⟩ = some x ∧ w.frozen? ⟨b, 0, none⟩ = false := by simp [World.cell?, World.frozen?, h]
/-- Is there a loop? -/
def loopB (m : Nat) (r : Nat → Nat) : Bool := (els (2 ^ m - 1)).any fun i => r (bt i) == 0
theorem el_full {m : Nat} (hm : m ≤ 8) (x : El (2 ^ m - 1)) : bt x.1 < 2 ^ m := by
  have := (mem_els (lt256 hm (full_lt m))).1 x.2
  rw [full_bit] at this
  unfold bt
  exact Nat.pow_lt_pow_right (by omega) (by simpa using this)
def RwlEnds (w : World) (m : Nat) (l : List Nat) (e : Ending) (w' : World) : Prop := ((loopB m (rk l) = false ∧ ∃ r, e = .returned (.tuple #[r, .int .i64 0]) ∧ RkAt w' r (2 ^ m) (rk l)) ∨ (loopB m (rk l) = true ∧ e = .returned (.tuple #[.slice none 0 0, .int .i64 5]))) ∧ Below w.heap.size w w'
theorem loop_free {m : Nat} {l : List Nat} (hm : m ≤ 8) (hb : Bas l) : loopB m (rk l) = false → NoLoop m (rk l) := fun h => by
  refine noLoop_of (hb.rkOn m) fun i hi e => ?_
  have hin : i ∈ els (2 ^ m - 1) := (mem_els (lt256 hm (full_lt m))).2 (by rw [full_bit]; simpa using hi)
  have : loopB m (rk l) = true := List.any_eq_true.2 ⟨i, hin, by unfold bt; rw [e]; rfl⟩
  rw [h] at this
  cases this
end Go.Proofs.Ytomajfpincehnaa
