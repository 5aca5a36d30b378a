/- Rows that are laid one behind the other; slices.Index, slices.Contains; field.across. -/
import Derived.Test.YtcncaaeofcmefaaFdSW
import Derived.Maps.AppendAt
namespace Go.Proofs.Ytcncaaeofcmefaa
open Go.RowKit

/-- A row of numbers in a block of its own. -/
structure RowB (W : World) (b n : Nat) (f : Nat → Int) : Prop where
  tbl : TblZ b W n f
  ty : ∃ c, W.heap[b]? = some (.cells c 3 (0, 0))
theorem RowB.below {W W' : World} {b n : Nat} {f : Nat → Int} (h : RowB W b n f) (hb : Below W.heap.size W W') : RowB W' b n f := by
  obtain ⟨c, hc⟩ := h.ty
  exact ⟨h.tbl.below hb, c, (hb.block b h.tbl.size).trans hc⟩
theorem RowB.same {W W' : World} {b n : Nat} {f : Nat → Int} (h : RowB W b n f) (hb : W'.heap[b]? = W.heap[b]?) (hs : W.heap.size ≤ W'.heap.size) : RowB W' b n f := by
  obtain ⟨c, hc⟩ := h.ty
  refine ⟨⟨fun i hi => ?_, fun i => ?_, Nat.lt_of_lt_of_le h.tbl.size hs⟩, c, hb.trans hc⟩
  · rw [World.cell?_of_block (w := W) (a := ⟨b, i, none⟩) hb]; exact h.tbl.cell i hi
  · have := h.tbl.frozen i
    simpa [World.frozen?, hb] using this
theorem RowB.set {W : World} {b n : Nat} {f f' : Nat → Int} (h : RowB W b n f) (j : Nat) (x : Int) (hj : j < n) (hf : ∀ i, i < n → f' i = if j = i then x else f i) : RowB (W.setCell ⟨b, j, none⟩ (.int .i64 x)) b n f' := by
  obtain ⟨c, hc⟩ := h.ty
  refine ⟨h.tbl.set j x hj hf, c.setIfInBounds j (.int .i64 x), ?_⟩
  unfold World.setCell
  dsimp only
  rw [Array.getElem?_modify, hc]
  simp
theorem RowB.congr {W : World} {b n : Nat} {f f' : Nat → Int} (h : RowB W b n f) (hf : ∀ i, i < n → f' i = f i) : RowB W b n f' := ⟨h.tbl.congr hf, h.ty⟩
theorem RowB.new (w : World) (n : Nat) : RowB (w.alloc (.cells (madeCells #[.int .i64 0] n) 3)) w.heap.size n fun _ => 0 := ⟨TblZ.new w n _, _, World.alloc_heap_new w _⟩
/-- The rows that are laid. -/
def TotS (W : World) (B : Nat) (v : Value) (n k : Nat) (f : Nat → Nat → Int) : Prop := ∃ us : List Value, us.length = k ∧ W.ownsRow B 28 1 v k us ∧ ∀ i, i < k → ∃ b, us[i]? = some (.slice (some ⟨b, 0, none⟩) n n) ∧ RowB W b n (f i)
theorem TotS.below {W W' : World} {B : Nat} {v : Value} {n k : Nat} {f : Nat → Nat → Int} (h : TotS W B v n k f) (hb : Below W.heap.size W W') : TotS W' B v n k f := by
  obtain ⟨us, h1, ⟨h2, h3⟩, h4⟩ := h
  refine ⟨us, h1, ⟨h2, h3.imp_right ?_⟩, fun i hi => ?_⟩
  · rintro ⟨g, cap, cur, hv, hg, hheap, hr⟩
    exact ⟨g, cap, cur, hv, hg, (hb.block g (Array.getElem?_eq_some_iff.1 hheap).1).trans hheap, hr⟩
  · obtain ⟨b, h5, h6⟩ := h4 i hi
    exact ⟨b, h5, h6.below hb⟩
theorem TotS.setO {W : World} {B : Nat} {v : Value} {n k : Nat} {f : Nat → Nat → Int} (h : TotS W B v n k f) (p : Addr) (x : Value) (hp : p.block < B) (hq : ∀ i, i < k → ∀ us : List Value, ∀ b, us[i]? = some (.slice (some ⟨b, 0, none⟩) n n) → RowB W b n (f i) → p.block ≠ b) : TotS (W.setCell p x) B v n k f := by
  obtain ⟨us, h1, ⟨h2, h3⟩, h4⟩ := h
  have so : ∀ k, p.block ≠ k → (W.setCell p x).heap[k]? = W.heap[k]? := fun k hk => by
    unfold World.setCell
    dsimp only
    rw [Array.getElem?_modify]
    simp [hk]
  refine ⟨us, h1, ⟨h2, h3.imp_right ?_⟩, fun i hi => ?_⟩
  · rintro ⟨g, cap, cur, hv, hg, hheap, hr⟩
    exact ⟨g, cap, cur, hv, hg, (so g (by omega)).trans hheap, hr⟩
  · obtain ⟨b, h5, h6⟩ := h4 i hi
    exact ⟨b, h5, h6.same (so b (hq i hi us b h5 h6)) (by rw [World.size_setCell]; exact Nat.le_refl _)⟩
theorem TotS.snoc {W W' : World} {B : Nat} {v v' : Value} {n k : Nat} {f : Nat → Nat → Int} {us : List Value} {o : Obj} (h1 : us.length = k) (h2 : W.ownsRow B 28 1 v k us) (h3 : ∀ i, i < k → ∃ b, us[i]? = some (.slice (some ⟨b, 0, none⟩) n n) ∧ RowB W b n (f i)) {g : Nat} (hg : RowB W g n (f k)) (hown : W'.ownsRow B 28 1 v' (k + 1) (us ++ [.slice (some ⟨g, 0, none⟩) n n])) (hgr : (W.alloc o).grownBy W' v.ownBlock) : TotS W' B v' n (k + 1) f := by
  have keep : ∀ b m ff, RowB W b m ff → RowB W' b m ff := fun b m ff hr => by
    have hs : W.heap.size ≤ W'.heap.size := Nat.le_trans (by simp) hgr.size
    refine hr.same ?_ hs
    have h5 : (W.alloc o).heap[b]? = W.heap[b]? := Below.heap_alloc _ _ _ hr.tbl.size
    rw [← h5]
    refine hgr.block b (by have := hr.tbl.size; simp; omega) fun e => ?_
    obtain ⟨c, hc⟩ := hr.ty
    obtain ⟨-, h7⟩ := h2
    rcases h7 with ⟨rfl, -⟩ | ⟨g', cap, cur, rfl, -, hh, -⟩
    · cases e
    · have : g' = b := by simpa [Value.ownBlock] using e.symm
      subst this
      rw [hc] at hh
      simp at hh
  refine ⟨us ++ [.slice (some ⟨g, 0, none⟩) n n], by simp [h1], hown, fun i hi => ?_⟩
  by_cases e : i < k
  · obtain ⟨b, h5, h6⟩ := h3 i e
    exact ⟨b, by rw [List.getElem?_append_left (by omega)]; exact h5, keep _ _ _ h6⟩
  · obtain rfl : i = k := by omega
    exact ⟨g, by rw [List.getElem?_append_right (by omega), h1]; simp, keep _ _ _ hg⟩
theorem TotS.rowsI {W : World} {B : Nat} {v : Value} {n k : Nat} {f : Nat → Nat → Int} (h : TotS W B v n k f) (hn8 : n ≤ 8) (hk : k ≤ 8) : RowsI W v (matL k n f) := by
  obtain ⟨us, h1, h2, h3⟩ := h
  rcases Go.Joins.ownsRow_forms h2 with ⟨rfl, h0⟩ | ⟨g, cap, rfl⟩
  · exact ⟨none, 0, by rw [matL_len, h0], by rw [matL_len]; omega, fun hh => by rw [matL_len] at hh; omega⟩
  · refine ⟨_, cap, by rw [matL_len], by rw [matL_len]; omega, fun _ => ⟨g, 0, rfl, (World.ownsRow.lt h2 g rfl).2, fun i hi => ?_⟩⟩
    rw [matL_len] at hi
    obtain ⟨b, h5, h6⟩ := h3 i hi
    refine ⟨.slice (some ⟨b, 0, none⟩) n n, ?_, ?_⟩
    · have := World.ownsRow.cellAt h2 i (by omega)
      rw [Nat.zero_add, this, h5]
    · rw [matL_row hi]
      exact h6.tbl.ints (by omega)
theorem TotS.nil (W : World) (B n : Nat) (f : Nat → Nat → Int) : TotS W B (.slice none 0 0) n 0 f := ⟨[], rfl, World.ownsRow_nil _ _ _ _, fun i hi => by omega⟩
/-- Where x is first among these. -/
def IdxAt (zs : List Int) (x r : Int) : Prop := (r = -1 ∧ ∀ j, j < zs.length → zs.getD j 0 ≠ x) ∨ ∃ i : Nat, r = i ∧ i < zs.length ∧ zs.getD i 0 = x ∧ ∀ j, j < i → zs.getD j 0 ≠ x
/-- Is x one of these? -/
def hasI (zs : List Int) (x : Int) : Bool := zs.any (· == x)
theorem IdxAt.has {zs : List Int} {x r : Int} (h : IdxAt zs x r) : decide (0 ≤ r) = hasI zs x := by
  have e : hasI zs x = true ↔ ∃ j, j < zs.length ∧ zs.getD j 0 = x := by
    unfold hasI
    rw [List.any_eq_true]
    constructor
    · rintro ⟨y, hy, e⟩
      obtain ⟨j, hj, rfl⟩ := List.getElem_of_mem hy
      exact ⟨j, hj, by simpa [List.getD, hj] using e⟩
    · rintro ⟨j, hj, rfl⟩
      exact ⟨_, List.getElem_mem hj, by simp [List.getD, hj]⟩
  rw [Bool.eq_iff_iff, e, decide_eq_true_iff]
  rcases h with ⟨rfl, h⟩ | ⟨i, rfl, h1, h2, -⟩
  · exact ⟨fun h => by omega, fun ⟨j, hj, e⟩ => absurd e (h j hj)⟩
  · exact ⟨fun _ => ⟨i, h1, h2⟩, fun _ => by omega⟩
end Go.Proofs.Ytcncaaeofcmefaa
