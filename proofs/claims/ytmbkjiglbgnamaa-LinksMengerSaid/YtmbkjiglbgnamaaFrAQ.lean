/- Slices of edges that a call has made. -/
import Derived.Test.YtmbkjiglbgnamaaKRingQ
import Derived.Test.YtmbkjiglbgnamaaOwnQ
namespace Go.Proofs.Ytmbkjiglbgnamaa
open Go.RowKit

theorem Try.infoEdge : (Try.prog.info? 29).map (fun i => (i.zero, i.size, i.bytes)) = some (some (.agg #[.int .i64 0, .int .i64 0]), 2, 16) := by kernel_rfl
theorem Try.undEdgeS : Try.prog.underlying 22 = some (.slice 29) := by kernel_rfl
def VE (l : List (Nat × Nat)) : List Value := l.flatMap fun e => [.int .i64 (e.1 : Nat), .int .i64 (e.2 : Nat)]
theorem VE_len (l : List (Nat × Nat)) : (VE l).length = l.length * 2 := by
  induction l with
  | nil => rfl
  | cons f l ih =>
    show (([.int .i64 (f.1 : Nat), .int .i64 (f.2 : Nat)] : List Value) ++ VE l).length = (f :: l).length * 2
    rw [List.length_append, ih]
    simp only [List.length_cons, List.length_nil]
    omega
theorem VE_snoc (l : List (Nat × Nat)) (e : Nat × Nat) : VE (l ++ [e]) = VE l ++ [.int .i64 (e.1 : Nat), .int .i64 (e.2 : Nat)] := by
  unfold VE
  rw [List.flatMap_append]
  simp
theorem VE_at : ∀ (l : List (Nat × Nat)) (k : Nat), k < l.length → (VE l)[k * 2]? = some (.int .i64 ((l.getD k (0, 0)).1 : Nat)) ∧ (VE l)[k * 2 + 1]? = some (.int .i64 ((l.getD k (0, 0)).2 : Nat))
  | [], k, h => absurd h (Nat.not_lt_zero k)
  | f :: l, k, hk => by
    show ([.int .i64 (f.1 : Nat), .int .i64 (f.2 : Nat)] ++ VE l)[k * 2]? = _ ∧ ([.int .i64 (f.1 : Nat), .int .i64 (f.2 : Nat)] ++ VE l)[k * 2 + 1]? = _
    cases k with
    | zero => exact ⟨rfl, rfl⟩
    | succ k =>
      have ih := VE_at l k (by rw [List.length_cons] at hk; omega)
      rw [List.getElem?_append_right (by simp; omega), List.getElem?_append_right (by simp; omega)]
      simp only [List.length_cons, List.length_nil]
      rw [show (k + 1) * 2 - (0 + 1 + 1) = k * 2 by omega, show (k + 1) * 2 + 1 - (0 + 1 + 1) = k * 2 + 1 by omega]
      exact ih
/-- v is a slice of the call's own that holds these edges. -/
def OwnE (B : Nat) (w : World) (v : Value) (l : List (Nat × Nat)) : Prop := w.ownsRow B 29 2 v l.length (VE l)
theorem OwnE.nil (B : Nat) (w : World) : OwnE B w (.slice none 0 0) [] := World.ownsRow_nil _ _ _ _
theorem OwnE.snoc {B : Nat} {w : World} {v : Value} {l : List (Nat × Nat)} {a b : Nat} (h : w.ownsRow B 29 2 v (l.length + 1) (VE l ++ [.int .i64 (a : Nat), .int .i64 (b : Nat)])) : OwnE B w v (l ++ [(a, b)]) := by
  unfold OwnE
  rw [VE_snoc]
  simpa using h
theorem OwnE.below {B : Nat} {w w' : World} {v : Value} {l : List (Nat × Nat)} (h : OwnE B w v l) (hb : Below w.heap.size w w') : OwnE B w' v l := by
  obtain ⟨h0, h1⟩ := h
  refine ⟨h0, h1.imp_right ?_⟩
  rintro ⟨g, cap, cur, hv, hg, hheap, hr⟩
  have hlt : g < w.heap.size := by
    rcases Nat.lt_or_ge g w.heap.size with h | h
    · exact h
    · rw [Array.getElem?_eq_none h] at hheap; cases hheap
  exact ⟨g, cap, cur, hv, hg, (hb.block g hlt).trans hheap, hr⟩
theorem OwnE.alloc {B : Nat} {w : World} {v : Value} {l : List (Nat × Nat)} (h : OwnE B w v l) (o : Obj) : OwnE B (w.alloc o) v l := h.below ((Below.refl _ _).alloc (Nat.le_refl _) _)
theorem OwnE.grown {B : Nat} {w wr w1 : World} {u : Value} {l : List (Nat × Nat)} {o : Obj} (hown : OwnE B wr u l) (hnx : Below B w wr) (hB : B ≤ wr.heap.size) (hg : (wr.alloc o).grownBy w1 u.ownBlock) : Below B w w1 :=
  (hnx.alloc hB o).grown hg (by simp; omega) (fun j hj => (World.ownsRow.lt hown j hj).1)
/-- It reads as these edges. -/
theorem OwnE.at {B : Nat} {w : World} {v : Value} {l : List (Nat × Nat)} (h : OwnE B w v l) (hl : l.length ≤ 8) : EdgesAt w v l := by
  obtain ⟨h0, h1⟩ := h
  rcases h1 with ⟨h1, h2⟩ | ⟨g, cap, cur, hv, hg, hheap, hc, hm, hs, ht⟩
  · have h3 : l = [] := List.length_eq_zero_iff.1 h2
    subst h3
    exact ⟨none, 0, h1, hl, fun h => absurd h (by simp)⟩
  · have key : ∀ k u, k < l.length * 2 → (VE l)[k]? = some u → w.cell? ⟨g, k, none⟩ = some u := fun k u hk he => by
      rw [← ht, List.getElem?_take, if_pos (by omega), Array.getElem?_toList] at he
      simp [World.cell?, hheap, he]
    refine ⟨some ⟨g, 0, none⟩, cap, hv, hl, fun hn => ⟨g, 0, rfl, (Array.getElem?_eq_some_iff.1 hheap).1, fun i hi => ?_⟩⟩
    obtain ⟨h3, h4⟩ := VE_at l i hi
    rw [Nat.zero_add]
    exact ⟨key _ _ (by omega) h3, key _ _ (by omega) h4⟩
end Go.Proofs.Ytmbkjiglbgnamaa
