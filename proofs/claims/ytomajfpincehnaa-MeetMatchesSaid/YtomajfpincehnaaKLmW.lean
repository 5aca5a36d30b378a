/- slices.IndexFunc: the first that is not nought; kinds.areFree. -/
import Derived.Test.YtomajfpincehnaaKLnQ
import Derived.Test.YtomajfpincehnaaSieveQ
import Derived.Test.YtomajfpincehnaaOrdBW
import Derived.Test.YtomajfpincehnaaKRingQ
import Derived.Test.YtomajfpincehnaaKGraphQ
namespace Go.Proofs.Ytomajfpincehnaa
open Go.RowKit

/-- The first place that is not nought, or -1. -/
def firstI (zs : List Int) (k : Nat) : Int := if k < zs.length then (if zs.getD k 0 != 0 then (k : Int) else firstI zs (k + 1)) else -1
termination_by zs.length - k
theorem firstI_end {zs : List Int} {k : Nat} (h : ¬ k < zs.length) : firstI zs k = -1 := by rw [firstI, if_neg h]
theorem firstI_hit {zs : List Int} {k : Nat} (h : k < zs.length) (hz : zs.getD k 0 ≠ 0) : firstI zs k = k := by rw [firstI, if_pos h, if_pos (by simpa using hz)]
theorem firstI_miss {zs : List Int} {k : Nat} (h : k < zs.length) (hz : zs.getD k 0 = 0) : firstI zs k = firstI zs (k + 1) := by rw [firstI, if_pos h, if_neg (by simp only [hz]; decide)]
theorem first_lead (f : Nat → Int) : firstI ((List.range 6).map f) 0 = if leadN f = 6 then -1 else (leadN f : Int) := by
  have key : ∀ k, k ≤ 6 → (∀ r, r < k → f r = 0) → firstI ((List.range 6).map f) k = if leadN f = 6 then -1 else (leadN f : Int) := fun k hk => by
    induction hd : 6 - k generalizing k with
    | zero =>
      intro h0
      obtain rfl : k = 6 := by omega
      rw [firstI_end (by simp)]
      have : leadN f = 6 := Classical.byContradiction fun c => by
        obtain ⟨h1, h2⟩ := leadN_some c
        exact h2 (h0 _ h1)
      rw [if_pos this]
    | succ d ih =>
      intro h0
      have hlt : k < ((List.range 6).map f).length := by simp; omega
      have hg : ((List.range 6).map f).getD k 0 = f k := by simp [List.getD, show k < 6 by omega]
      by_cases hz : f k = 0
      · rw [firstI_miss hlt (by rw [hg]; exact hz)]
        exact ih (k + 1) (by omega) (by omega) fun r hr => by
          rcases Nat.lt_or_ge r k with h | h
          · exact h0 r h
          · obtain rfl : r = k := by omega
            exact hz
      · rw [firstI_hit hlt (by rw [hg]; exact hz)]
        have hl : leadN f = k := by
          have hne : leadN f ≠ 6 := fun e => hz (leadN_none e k (by omega))
          obtain ⟨h1, h2⟩ := leadN_some hne
          rcases Nat.lt_trichotomy (leadN f) k with h | h | h
          · exact absurd (h0 _ h) h2
          · exact h
          · exfalso
            unfold leadN at h
            cases e : (List.range 6).find? fun r => f r != 0 with
            | none =>
              have := List.find?_eq_none.1 e k (List.mem_range.2 (by omega))
              simp at this
              exact hz this
            | some x =>
              rw [e, Option.getD_some] at h
              have hh := List.find?_eq_some_iff_append.1 e
              obtain ⟨_, l1, l2, hab, has⟩ := hh
              have hmem : k ∈ l1 := by
                have hp : (l1 ++ x :: l2).Pairwise (· < ·) := by rw [← hab]; exact List.pairwise_lt_range
                have hk2 : k ∈ l1 ++ x :: l2 := by rw [← hab]; exact List.mem_range.2 (by omega)
                rw [List.mem_append, List.mem_cons] at hk2
                rcases hk2 with h3 | h3 | h3
                · exact h3
                · omega
                · rw [List.pairwise_append, List.pairwise_cons] at hp
                  have := hp.2.1.1 k h3
                  omega
              have := has k hmem
              simp at this
              exact hz this
        rw [if_neg (by omega), hl]
  exact key 0 (by omega) (fun r hr => by omega)
/-- A column is stored among columns. -/
def putC (W : World) (g k : Nat) (x : Nat → Int) : World := (((((W.setCell ⟨g, k * 6, none⟩ (.int .i64 (x 0))).setCell ⟨g, k * 6 + 1, none⟩ (.int .i64 (x 1))).setCell ⟨g, k * 6 + 2, none⟩ (.int .i64 (x 2))).setCell ⟨g, k * 6 + 3, none⟩ (.int .i64 (x 3))).setCell ⟨g, k * 6 + 4, none⟩ (.int .i64 (x 4))).setCell ⟨g, k * 6 + 5, none⟩ (.int .i64 (x 5))
theorem below_putC {B : Nat} {w W : World} {g k : Nat} (x : Nat → Int) (h : Below B w W) (hg : B ≤ g) : Below B w (putC W g k x) :=
  (((((h.setCell (p := ⟨g, k * 6, none⟩) hg _).setCell (p := ⟨g, k * 6 + 1, none⟩) hg _).setCell (p := ⟨g, k * 6 + 2, none⟩) hg _).setCell (p := ⟨g, k * 6 + 3, none⟩) hg _).setCell (p := ⟨g, k * 6 + 4, none⟩) hg _).setCell (p := ⟨g, k * 6 + 5, none⟩) hg _
def freeTo (p : Int) (o : Nat → Nat → Int) (L : Nat) : Bool := (List.range L).all fun i => leadN (elimV p o i i) != 6
theorem freeTo_iff (p : Int) (o : Nat → Nat → Int) (L : Nat) : freeTo p o L = true ↔ ∀ i, i < L → leadN (elimV p o i i) ≠ 6 := by
  unfold freeTo
  rw [List.all_eq_true]
  exact ⟨fun h i hi => by simpa using h i (List.mem_range.2 hi), fun h i hi => by simpa using h i (List.mem_range.1 hi)⟩
end Go.Proofs.Ytomajfpincehnaa

namespace Go.Proofs.Ytomajfpincehnaa
open Go.RowKit

def VC (l : List (Nat → Int)) : List Value := l.flatMap fun f => (colC f).toList
theorem VC_len (l : List (Nat → Int)) : (VC l).length = l.length * 6 := by
  induction l with
  | nil => rfl
  | cons f l ih =>
    show ((colC f).toList ++ VC l).length = _
    rw [List.length_append, ih, List.length_cons]
    show 6 + _ = _
    omega
theorem VC_snoc (l : List (Nat → Int)) (f : Nat → Int) : VC (l ++ [f]) = VC l ++ (colC f).toList := by
  unfold VC
  rw [List.flatMap_append]
  simp
theorem VC_at : ∀ (l : List (Nat → Int)) (k r : Nat), k < l.length → r < 6 → (VC l)[k * 6 + r]? = some (.int .i64 ((l.getD k fun _ => 0) r))
  | [], k, _, h, _ => absurd h (Nat.not_lt_zero k)
  | f :: l, k, r, hk, hr => by
    show ((colC f).toList ++ VC l)[k * 6 + r]? = _
    have e6 : (colC f).toList.length = 6 := rfl
    cases k with
    | zero =>
      rw [Nat.zero_mul, Nat.zero_add, List.getElem?_append_left (by rw [e6]; exact hr), Array.getElem?_toList, colC_at f hr]
      rfl
    | succ k =>
      rw [List.getElem?_append_right (by rw [e6]; omega), e6, show (k + 1) * 6 + r - 6 = k * 6 + r by omega, VC_at l k r (by rw [List.length_cons] at hk; omega) hr]
      rfl
/-- The columns of a set, in order. -/
def pickL (o : Nat → Nat → Int) (s L : Nat) : List (Nat → Int) := ((List.range L).filter fun i => s.testBit i).map o
theorem pickL_succ (o : Nat → Nat → Int) (s k : Nat) : pickL o s (k + 1) = if s.testBit k then pickL o s k ++ [o k] else pickL o s k := by
  unfold pickL
  rw [List.range_succ, List.filter_append, List.map_append]
  by_cases h : s.testBit k = true
  · rw [if_pos h]; simp [h]
  · rw [if_neg h]; simp [h]
theorem pickL_len (o : Nat → Nat → Int) (s k : Nat) : (pickL o s k).length ≤ k := by
  unfold pickL
  rw [List.length_map]
  exact Nat.le_trans (List.length_filter_le _ _) (by rw [List.length_range]; exact Nat.le_refl _)
theorem shr_one : ∀ s : Nat, s < 256 → ∀ i : Nat, i < 8 → (bits BinOp.and IntKind.i64 ((s : Int) / 2 ^ i) 1 == 1) = s.testBit i := by decide +kernel
end Go.Proofs.Ytomajfpincehnaa

namespace Go.Proofs.Ytomajfpincehnaa
open Go.RowKit

/-- v is a slice that holds these rows. -/
def RowsI (w : World) (v : Value) (R : List (List Int)) : Prop := ∃ a cap, v = .slice a R.length cap ∧ R.length ≤ 17592186044416 ∧ (0 < R.length → ∃ b off, a = some ⟨b, off, none⟩ ∧ b < w.heap.size ∧ ∀ i, i < R.length → ∃ u, w.cell? ⟨b, off + i, none⟩ = some u ∧ Ints w u (R.getD i []))
theorem RowsI.below {w w' : World} {v : Value} {R : List (List Int)} (h : RowsI w v R) (hb : Below w.heap.size w w') : RowsI w' v R := by
  obtain ⟨a, cap, h1, h2, hc⟩ := h
  refine ⟨a, cap, h1, h2, fun hn => ?_⟩
  obtain ⟨b, off, h3, h4, h5⟩ := hc hn
  refine ⟨b, off, h3, Nat.lt_of_lt_of_le h4 hb.size, fun i hi => ?_⟩
  obtain ⟨u, h6, h7⟩ := h5 i hi
  exact ⟨u, (hb.cell (p := ⟨b, off + i, none⟩) h4).trans h6, h7.below hb⟩
def mduB (p : Int) : Bool := p == 2 || p == 3 || p == 5 || p == 7
theorem mduB_iff (p : Int) : mduB p = true ↔ isP p := by
  unfold mduB isP
  simp
  omega
def rowB (p c : Int) (r : List Int) : Bool := (r.length : Int) == c && r.all fun v => inB v p
/-- What is wrong with a matrix. -/
def matR (p c : Int) (R : List (List Int)) : Int := if mduB p = true ∧ 0 ≤ c ∧ c ≤ 8 ∧ R.length ≤ 6 ∧ R.all (rowB p c) = true then 0 else 1
theorem three_cells {W : World} {b : Nat} {x y z : Value} {t : TypeId} (h : W.heap[b]? = some (.cells #[x, y, z] t (0, 0))) : W.cell? ⟨b, 0, none⟩ = some x ∧ W.cell? ⟨b, 1, none⟩ = some y ∧ W.cell? ⟨b, 2, none⟩ = some z := by
  refine ⟨?_, ?_, ?_⟩ <;> simp [World.cell?, h]
end Go.Proofs.Ytomajfpincehnaa
