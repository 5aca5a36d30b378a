/- kinds.cleared: columns of six numbers. -/
import Derived.Test.YtjnifcfcigcngaaPlainAll1
import Derived.Test.YtjnifcfcigcngaaGiveW
import Derived.Test.YtjnifcfcigcngaaIndQ
import Derived.Deep.RegionWith
namespace Go.Proofs.Ytjnifcfcigcngaa
open Go.RowKit

/-- The six numbers of a column. -/
def colC (f : Nat → Int) : Array Value := #[.int .i64 (f 0), .int .i64 (f 1), .int .i64 (f 2), .int .i64 (f 3), .int .i64 (f 4), .int .i64 (f 5)]
theorem colC_at (f : Nat → Int) {i : Nat} (hi : i < 6) : (colC f)[i]? = some (.int .i64 (f i)) := by
  have : i = 0 ∨ i = 1 ∨ i = 2 ∨ i = 3 ∨ i = 4 ∨ i = 5 := by omega
  rcases this with rfl | rfl | rfl | rfl | rfl | rfl <;> rfl
theorem colC_set (f : Nat → Int) {i : Nat} (hi : i < 6) (x : Int) : (colC f).setIfInBounds i (.int .i64 x) = colC (fun r => if r = i then x else f r) := by
  have : i = 0 ∨ i = 1 ∨ i = 2 ∨ i = 3 ∨ i = 4 ∨ i = 5 := by omega
  rcases this with rfl | rfl | rfl | rfl | rfl | rfl <;> rfl
theorem colC_congr {f g : Nat → Int} (h : ∀ i, i < 6 → f i = g i) : colC f = colC g := by
  unfold colC
  rw [h 0 (by omega), h 1 (by omega), h 2 (by omega), h 3 (by omega), h 4 (by omega), h 5 (by omega)]
/-- A column is stored. -/
def put6 (W : World) (g : Nat) (x : Nat → Int) : World := (((((W.setCell ⟨g, 0, none⟩ (.int .i64 (x 0))).setCell ⟨g, 1, none⟩ (.int .i64 (x 1))).setCell ⟨g, 2, none⟩ (.int .i64 (x 2))).setCell ⟨g, 3, none⟩ (.int .i64 (x 3))).setCell ⟨g, 4, none⟩ (.int .i64 (x 4))).setCell ⟨g, 5, none⟩ (.int .i64 (x 5))
theorem below_put6 {B : Nat} {w W : World} {g : Nat} (x : Nat → Int) (h : Below B w W) (hg : B ≤ g) : Below B w (put6 W g x) :=
  (((((h.setCell (p := ⟨g, 0, none⟩) hg _).setCell (p := ⟨g, 1, none⟩) hg _).setCell (p := ⟨g, 2, none⟩) hg _).setCell (p := ⟨g, 3, none⟩) hg _).setCell (p := ⟨g, 4, none⟩) hg _).setCell (p := ⟨g, 5, none⟩) hg _
def colV (f : Nat → Int) : Value := .agg (colC f)
end Go.Proofs.Ytjnifcfcigcngaa
