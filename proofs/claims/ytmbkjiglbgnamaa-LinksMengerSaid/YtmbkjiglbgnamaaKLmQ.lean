/- kinds.CheckMatrix. -/
import Derived.Test.YtmbkjiglbgnamaaKLpQ
import Derived.Test.YtmbkjiglbgnamaaKGraphQ
namespace Go.Proofs.Ytmbkjiglbgnamaa
open Go.RowKit

/-- v is a slice that holds these rows. -/
def RowsI (w : World) (v : Value) (R : List (List Int)) : Prop := ∃ a cap, v = .slice a R.length cap ∧ R.length ≤ 17592186044416 ∧ (0 < R.length → ∃ b off, a = some ⟨b, off, none⟩ ∧ b < w.heap.size ∧ ∀ i, i < R.length → ∃ u, w.cell? ⟨b, off + i, none⟩ = some u ∧ Ints w u (R.getD i []))
theorem RowsI.below {w w' : World} {v : Value} {R : List (List Int)} (h : RowsI w v R) (hb : Below w.heap.size w w') : RowsI w' v R := by
  obtain ⟨a, cap, h1, h2, hc⟩ := h
  refine ⟨a, cap, h1, h2, fun hn => ?_⟩
  obtain ⟨b, off, h3, h4, h5⟩ := hc hn
  refine ⟨b, off, h3, Nat.lt_of_lt_of_le h4 hb.size, fun i hi => ?_⟩
  obtain ⟨u, h6, h7⟩ := h5 i hi
  exact ⟨u, (hb.cell (p := ⟨b, off + i, none⟩) h4).trans h6, h7.below hb⟩
def mduB (p : Int) : Bool := p == 2 || p == 3 || p == 5 || p == 7
theorem mduB_iff (p : Int) : mduB p = true ↔ isP p := by
  unfold mduB isP
  simp
  omega
def rowB (p c : Int) (r : List Int) : Bool := (r.length : Int) == c && r.all fun v => inB v p
/-- What is wrong with a matrix. -/
def matR (p c : Int) (R : List (List Int)) : Int := if mduB p = true ∧ 0 ≤ c ∧ c ≤ 8 ∧ R.length ≤ 6 ∧ R.all (rowB p c) = true then 0 else 1
theorem three_cells {W : World} {b : Nat} {x y z : Value} {t : TypeId} (h : W.heap[b]? = some (.cells #[x, y, z] t (0, 0))) : W.cell? ⟨b, 0, none⟩ = some x ∧ W.cell? ⟨b, 1, none⟩ = some y ∧ W.cell? ⟨b, 2, none⟩ = some z := by
  refine ⟨?_, ?_, ?_⟩ <;> simp [World.cell?, h]
end Go.Proofs.Ytmbkjiglbgnamaa
