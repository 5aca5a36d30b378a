/- kinds.picked: the columns whose places are in a set. -/
import Derived.Test.YtjnifcfcigcngaaKLfQ
import Derived.Test.YtjnifcfcigcngaaKRingQ
import Derived.Test.YtjnifcfcigcngaaKGraphQ
namespace Go.Proofs.Ytjnifcfcigcngaa
open Go.RowKit

def VC (l : List (Nat → Int)) : List Value := l.flatMap fun f => (colC f).toList
theorem VC_len (l : List (Nat → Int)) : (VC l).length = l.length * 6 := by
  induction l with
  | nil => rfl
  | cons f l ih =>
    show ((colC f).toList ++ VC l).length = _
    rw [List.length_append, ih, List.length_cons]
    show 6 + _ = _
    omega
theorem VC_snoc (l : List (Nat → Int)) (f : Nat → Int) : VC (l ++ [f]) = VC l ++ (colC f).toList := by
  unfold VC
  rw [List.flatMap_append]
  simp
theorem VC_at : ∀ (l : List (Nat → Int)) (k r : Nat), k < l.length → r < 6 → (VC l)[k * 6 + r]? = some (.int .i64 ((l.getD k fun _ => 0) r))
  | [], k, _, h, _ => absurd h (Nat.not_lt_zero k)
  | f :: l, k, r, hk, hr => by
    show ((colC f).toList ++ VC l)[k * 6 + r]? = _
    have e6 : (colC f).toList.length = 6 := rfl
    cases k with
    | zero =>
      rw [Nat.zero_mul, Nat.zero_add, List.getElem?_append_left (by rw [e6]; exact hr), Array.getElem?_toList, colC_at f hr]
      rfl
    | succ k =>
      rw [List.getElem?_append_right (by rw [e6]; omega), e6, show (k + 1) * 6 + r - 6 = k * 6 + r by omega, VC_at l k r (by rw [List.length_cons] at hk; omega) hr]
      rfl
/-- The columns of a set, in order. -/
def pickL (o : Nat → Nat → Int) (s L : Nat) : List (Nat → Int) := ((List.range L).filter fun i => s.testBit i).map o
theorem pickL_succ (o : Nat → Nat → Int) (s k : Nat) : pickL o s (k + 1) = if s.testBit k then pickL o s k ++ [o k] else pickL o s k := by
  unfold pickL
  rw [List.range_succ, List.filter_append, List.map_append]
  by_cases h : s.testBit k = true
  · rw [if_pos h]; simp [h]
  · rw [if_neg h]; simp [h]
theorem pickL_len (o : Nat → Nat → Int) (s k : Nat) : (pickL o s k).length ≤ k := by
  unfold pickL
  rw [List.length_map]
  exact Nat.le_trans (List.length_filter_le _ _) (by rw [List.length_range]; exact Nat.le_refl _)
theorem shr_one : ∀ s : Nat, s < 256 → ∀ i : Nat, i < 8 → (bits BinOp.and IntKind.i64 ((s : Int) / 2 ^ i) 1 == 1) = s.testBit i := by decide +kernel
end Go.Proofs.Ytjnifcfcigcngaa

namespace Go.Proofs.Ytjnifcfcigcngaa
open Go.RowKit

/-- v is a slice that holds these rows. -/
def RowsI (w : World) (v : Value) (R : List (List Int)) : Prop := ∃ a cap, v = .slice a R.length cap ∧ R.length ≤ 17592186044416 ∧ (0 < R.length → ∃ b off, a = some ⟨b, off, none⟩ ∧ b < w.heap.size ∧ ∀ i, i < R.length → ∃ u, w.cell? ⟨b, off + i, none⟩ = some u ∧ Ints w u (R.getD i []))
theorem RowsI.below {w w' : World} {v : Value} {R : List (List Int)} (h : RowsI w v R) (hb : Below w.heap.size w w') : RowsI w' v R := by
  obtain ⟨a, cap, h1, h2, hc⟩ := h
  refine ⟨a, cap, h1, h2, fun hn => ?_⟩
  obtain ⟨b, off, h3, h4, h5⟩ := hc hn
  refine ⟨b, off, h3, Nat.lt_of_lt_of_le h4 hb.size, fun i hi => ?_⟩
  obtain ⟨u, h6, h7⟩ := h5 i hi
  exact ⟨u, (hb.cell (p := ⟨b, off + i, none⟩) h4).trans h6, h7.below hb⟩
def mduB (p : Int) : Bool := p == 2 || p == 3 || p == 5 || p == 7
theorem mduB_iff (p : Int) : mduB p = true ↔ isP p := by
  unfold mduB isP
  simp
  omega
def rowB (p c : Int) (r : List Int) : Bool := (r.length : Int) == c && r.all fun v => inB v p
/-- What is wrong with a matrix. -/
def matR (p c : Int) (R : List (List Int)) : Int := if mduB p = true ∧ 0 ≤ c ∧ c ≤ 8 ∧ R.length ≤ 6 ∧ R.all (rowB p c) = true then 0 else 1
theorem three_cells {W : World} {b : Nat} {x y z : Value} {t : TypeId} (h : W.heap[b]? = some (.cells #[x, y, z] t (0, 0))) : W.cell? ⟨b, 0, none⟩ = some x ∧ W.cell? ⟨b, 1, none⟩ = some y ∧ W.cell? ⟨b, 2, none⟩ = some z := by
  refine ⟨?_, ?_, ?_⟩ <;> simp [World.cell?, h]
end Go.Proofs.Ytjnifcfcigcngaa
