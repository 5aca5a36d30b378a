/- axioms.WithIndependents, for whatever function answers as p does. -/
import Derived.Test.YtmbkjiglbgnamaaEqQ
import Derived.Test.YtmbkjiglbgnamaaOldNQ
import Derived.Test.YtmbkjiglbgnamaaQBelQ
namespace Go.Proofs.Ytmbkjiglbgnamaa
open Go.RowKit

def mxTo (l : List Nat) (k : Nat) : Nat := (l.take k).foldl (fun m s => max m (pop s)) 0
theorem mxTo_succ {l : List Nat} {k : Nat} (h : k < l.length) : mxTo l (k + 1) = max (mxTo l k) (pop (l.getD k 0)) := by
  unfold mxTo
  rw [take_snoc h, List.foldl_append]
  rfl
theorem mxTo_le {l : List Nat} (hl : ∀ s ∈ l, s < 256) : ∀ k, mxTo l k ≤ 8 := by
  intro k
  unfold mxTo
  rcases fold_at pop (l.take k) 0 with h | ⟨b, hb, h⟩
  · omega
  · rw [h]; exact pop_le b (hl b (List.mem_of_mem_take hb))
theorem mxTo_all {p : Nat → Bool} {T : Nat} : mxTo ((List.range T).filter p) ((List.range T).filter p).length = maxI p T := by
  unfold mxTo maxI
  rw [List.take_length, List.foldl_filter]
theorem filt_two (p : Nat → Bool) (T m : Nat) : ((List.range T).filter p).filter (fun s => pop s == m) = (List.range T).filter fun s => pop s == m && p s := by
  rw [List.filter_filter]
theorem AnswersTo.mono {w w0 : World} {g : Nat} {cs : Array Value} {T : Nat} {p : Nat → Bool} (h : AnswersTo w.heap.size w g cs T p) (hb : Below w.heap.size w w0) : AnswersTo w0.heap.size w0 g cs T p :=
  fun x hx w1 hb1 hs1 => h x hx w1 (hb.trans (hb1.mono hb.size)) (Nat.le_trans hb.size hs1)

end Go.Proofs.Ytmbkjiglbgnamaa
