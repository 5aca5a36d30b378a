/- axioms.WithIndependents, for whatever function answers as p does. -/
import Derived.Test.YtokdldnbanpgbaaEqQ
import Derived.Test.YtokdldnbanpgbaaOldNW
import Derived.Test.YtokdldnbanpgbaaExchW
import Derived.Test.YtokdldnbanpgbaaFamsQ
namespace Go.Proofs.Ytokdldnbanpgbaa
open Go.RowKit

def mxTo (l : List Nat) (k : Nat) : Nat := (l.take k).foldl (fun m s => max m (pop s)) 0
theorem mxTo_succ {l : List Nat} {k : Nat} (h : k < l.length) : mxTo l (k + 1) = max (mxTo l k) (pop (l.getD k 0)) := by
  unfold mxTo
  rw [take_snoc h, List.foldl_append]
  rfl
theorem mxTo_le {l : List Nat} (hl : ∀ s ∈ l, s < 256) : ∀ k, mxTo l k ≤ 8 := by
  intro k
  unfold mxTo
  rcases fold_at pop (l.take k) 0 with h | ⟨b, hb, h⟩
  · omega
  · rw [h]; exact pop_le b (hl b (List.mem_of_mem_take hb))
theorem mxTo_all {p : Nat → Bool} {T : Nat} : mxTo ((List.range T).filter p) ((List.range T).filter p).length = maxI p T := by
  unfold mxTo maxI
  rw [List.take_length, List.foldl_filter]
theorem filt_two (p : Nat → Bool) (T m : Nat) : ((List.range T).filter p).filter (fun s => pop s == m) = (List.range T).filter fun s => pop s == m && p s := by
  rw [List.filter_filter]
theorem AnswersTo.mono {w w0 : World} {g : Nat} {cs : Array Value} {T : Nat} {p : Nat → Bool} (h : AnswersTo w.heap.size w g cs T p) (hb : Below w.heap.size w w0) : AnswersTo w0.heap.size w0 g cs T p :=
  fun x hx w1 hb1 hs1 => h x hx w1 (hb.trans (hb1.mono hb.size)) (Nat.le_trans hb.size hs1)

theorem boxR {w w2 : World} (hb2 : Below (w.alloc (.cells #[.int .i64 0, .slice none 0 0] 31)).heap.size (w.alloc (.cells #[.int .i64 0, .slice none 0 0] 31)) w2) : w2.heap[w.heap.size]? = some (.cells #[.int .i64 0, .slice none 0 0] 31 (0, 0)) ∧ w.heap.size < w2.heap.size :=
  ⟨(hb2.block _ (by simp)).trans (World.alloc_heap_new w _), by have := hb2.size; simp at this; omega⟩
theorem below_boxR (w : World) (cs : Array Value) : Below w.heap.size w (w.alloc (.cells cs 31)) := (Below.refl _ _).alloc (Nat.le_refl _) _

end Go.Proofs.Ytokdldnbanpgbaa

namespace Go.Proofs.Ytokdldnbanpgbaa
open Go.RowKit

theorem rk_small {m : Nat} {l : List Nat} (hm : m ≤ 8) (hf : Fam m l) : ∀ i, rk l i ≤ 8 := rk_le8 l (hf.lt256 hm)
theorem below_box (w : World) (cs : Array Value) : Below w.heap.size w (w.alloc (.cells cs 31)) := (Below.refl _ _).alloc (Nat.le_refl _) _
theorem box_cells {w w2 : World} {n : Int} {u : Value} (hb2 : Below (w.alloc (.cells #[.int .i64 n, u] 31)).heap.size (w.alloc (.cells #[.int .i64 n, u] 31)) w2) :
    w2.cell? ⟨w.heap.size, 0, none⟩ = some (.int .i64 n) ∧ w2.cell? ⟨w.heap.size, 1, none⟩ = some u := by
  have hx : w2.heap[w.heap.size]? = some (.cells #[.int .i64 n, u] 31 (0, 0)) := (hb2.block _ (by simp)).trans (World.alloc_heap_new w _)
  exact ⟨by simp [World.cell?, hx], by simp [World.cell?, hx]⟩

/-- A literal slice. -/
theorem litsAt (w : World) (l : List Nat) (h : l.length ≤ 17592186044416 := by decide) : Ints (w.alloc (.cells (V l).toArray 3)) (.slice (some ⟨w.heap.size, 0, none⟩) l.length l.length) (N l) := by
  refine ⟨_, _, by rw [N_len], by rw [N_len]; exact h, fun _ => ⟨w.heap.size, 0, rfl, by simp, fun i hi => ?_⟩⟩
  rw [N_len] at hi
  rw [World.cell?_alloc_at _ _ _ _ rfl, N_getD, Nat.zero_add]
  simp [V, hi, List.getD]







end Go.Proofs.Ytokdldnbanpgbaa
