/- kinds.Transversal. -/
import Derived.Test.YtjajloefplbkgaaKLamQ
import Derived.Test.YtjajloefplbkgaaWithoutQ
import Derived.Test.YtjajloefplbkgaaFewQ
namespace Go.Proofs.Ytjajloefplbkgaa
open Go.RowKit

/-- The greatest of the sets that p tells, rising. -/
def bigL (n : Nat) (p : Nat → Bool) : List Nat := (List.range (2 ^ n)).filter fun s => pop s == maxI p (2 ^ n) && p s
theorem big_fam (n : Nat) (p : Nat → Bool) : Fam n (bigL n p) := Fam.range n _
/-- What a maker hands back: a matroid, or an error. -/
def Makes (w : World) (q : Int) (n : Int) (l : List Nat) (e : Ending) (w' : World) : Prop := (q = 0 → GivesO w n l e w') ∧ (q ≠ 0 → BadM w q e w')
theorem slot_box {w : World} {b : Value} : ((w.alloc (.cells #[b] 22)).alloc (.cells #[.int .i64 0, .slice none 0 0] 44)).heap[w.heap.size]? = some (.cells #[b] 22 (0, 0)) ∧ ((w.alloc (.cells #[b] 22)).alloc (.cells #[.int .i64 0, .slice none 0 0] 44)).heap[w.heap.size + 1]? = some (.cells #[.int .i64 0, .slice none 0 0] 44 (0, 0)) := by
  refine ⟨?_, ?_⟩
  · rw [Below.heap_alloc _ _ _ (by simp)]
    exact World.alloc_heap_new w _
  · have := World.alloc_heap_new (w.alloc (.cells #[b] 22)) (.cells #[.int .i64 0, .slice none 0 0] 44)
    rwa [World.size_alloc] at this

end Go.Proofs.Ytjajloefplbkgaa
