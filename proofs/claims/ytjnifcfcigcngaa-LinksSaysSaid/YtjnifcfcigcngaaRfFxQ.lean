/- The list of ways that the document's search lays: what lies where. -/
import Derived.Test.YtjnifcfcigcngaaRfEwQ
import Derived.Deep.AppendSrc
import Derived.Deep.DeepAppendWide
namespace Go.Proofs.Ytjnifcfcigcngaa
open Go.RowKit

theorem Try.infoRowX : (Try.prog.info? 43).map (fun i => (i.zero, i.size, i.bytes)) = some (some (.slice none 0 0), 1, 24) := by kernel_rfl
theorem Try.undRowsX : Try.prog.underlying 29 = some (.slice 43) := by kernel_rfl
theorem info_rowX : ∃ i0, Try.prog.info? 43 = some i0 ∧ i0.zero = some (.slice none 0 0) ∧ i0.size = 1 ∧ i0.bytes = 24 := by
  obtain ⟨i0, h0, hiz⟩ := Option.map_eq_some_iff.1 Try.infoRowX
  obtain ⟨h1, h2, h3⟩ : i0.zero = some (.slice none 0 0) ∧ i0.size = 1 ∧ i0.bytes = 24 := by simpa using hiz
  exact ⟨i0, h0, h1, h2, h3⟩
theorem add_plainX (b off i : Nat) : (⟨b, off, none⟩ : Addr).add i = ⟨b, off + i, none⟩ := by unfold Addr.add; split <;> simp_all
/-- append of one row to a list without room. -/
theorem step_appW {w : World} {ao : Option Addr} {k : Nat} {us : List Value} {u : Value} {ad : Addr} {ops : Array Oper} {o : Oper} {a : Act} {K : Act → World → Prop} {Q : Exit → Act → World → Prop} {E : Prop} (hg : o.guard = none) (s x : Operand)
    (ho : o.op = .call { callee := .builtin .append, args := #[s, x], argTypes := #[29, 29] }) (hs : a.eval s = .slice ao k k) (hx : a.eval x = .slice (some ad) 1 1) (hc : w.cell? ad = some u) (h1 : u.oneCell' = true) (hus : us.length = k)
    (hold : ∀ i v, us[i]? = some v → ∃ g, ao = some ⟨g, 0, none⟩ ∧ w.cell? ⟨g, i, none⟩ = some v) (hk : k ≤ 8)
    (hK : ∀ w' c', Below w.heap.size w w' → (∀ i v, (us ++ [u])[i]? = some v → w'.cell? ⟨w.heap.size, i, none⟩ = some v) → w.heap.size < w'.heap.size → k + 1 ≤ c' → K (a.put o.dst (.slice (some ⟨w.heap.size, 0, none⟩) (k + 1) c')) w') :
    if Region.wanted o (yielded ops a.tmps) = true then Oper.wp Try.prog o a w K Q else E := by
  obtain ⟨i0, hi, hz0, hz1, hz2⟩ := info_rowX
  have hw : Region.wanted o (yielded ops a.tmps) = true := by simp [Region.wanted, hg]
  rw [if_pos hw]
  have hfo : (Builtin.firstCells i0.size k (.slice ao k k)).run Try.prog w.drew = .ok us.toArray w.drew := by
    rw [hz1]
    rcases Nat.eq_zero_or_pos k with h0 | h0
    · subst h0
      have : us = [] := List.length_eq_zero_iff.1 hus
      subst this
      rcases ao with _ | b
      · exact run_firstCells_none w.drew 1 0 0 0
      · exact run_firstCells_some w.drew 1 0 b 0 0 [] (by simp) (by simp)
    · obtain ⟨g, e, -⟩ := hold 0 (us[0]'(by omega)) (List.getElem?_eq_getElem (by omega))
      subst e
      refine run_firstCells_some w.drew 1 k ⟨g, 0, none⟩ k k us (by omega) (fun j v hv => ?_)
      obtain ⟨g', e', h⟩ := hold j v hv
      obtain rfl : g = g' := by simpa using e'
      rw [add_plainX, Nat.zero_add]
      exact h
  have hsr : Src Try.prog i0.size 29 (.slice (some ad) 1 1) 1 [u] w := by
    rw [hz1]
    refine Src.ofSlice w Try.undRowsX ad 1 1 [u] rfl (fun j v hv => ?_) (fun v hv => ?_)
    · have hj : j < 1 := (List.getElem?_eq_some_iff.1 hv).1
      obtain rfl : j = 0 := by omega
      simp only [List.getElem?_cons_zero] at hv
      rw [← hv, ← hc]
      simp [Addr.add]
    · simp at hv; subst hv; exact h1
  have hrun := run_append_grow_src w 29 29 o.type 43 i0 (.slice none 0 0) Try.undRowsX hi hz0 ao k k us hfo (.slice (some ad) 1 1) 1 [u] hsr (by omega) (by omega) (growslice_fits_wide (by omega) (by rw [hz2]; omega))
  unfold Oper.wp
  simp [execOp, ho, resolve, invoke, builtin, hs, hx, hrun, Result.andThen]
  refine hK _ _ ((Below.refl _ w).drew.alloc (Nat.le_refl _) _) (fun i v hv => ?_) (by simp) (grownCap_ge w (k + 1) k 43)
  have hil : i < (us ++ [u]).length := (List.getElem?_eq_some_iff.1 hv).1
  rw [show w.heap.size = w.drew.heap.size from rfl, World.cell?_alloc_at _ _ _ _ rfl]
  simp only [Array.getElem?_append, List.size_toArray, hil, if_true, List.getElem?_toArray]
  exact hv
/-- The first ways lie in the box bo: L of them in all. -/
def OutL (D bo : Nat) (W : World) (L : Nat) (ws : List (List Nat)) : Prop := ∃ (a : Option Addr) (c : Nat) (us : List Value), W.heap[bo]? = some (.cells #[.slice a L c] 29 (0, 0)) ∧ ws.length ≤ c ∧ us.length = ws.length ∧ ∀ i, i < ws.length → ∃ (g : Nat) (u : Value), a = some ⟨g, 0, none⟩ ∧ D ≤ g ∧ g < W.heap.size ∧ us[i]? = some u ∧ W.cell? ⟨g, i, none⟩ = some u ∧ Own D W u (ws.getD i [])
theorem OutL.below {D bo L : Nat} {W W' : World} {ws : List (List Nat)} (h : OutL D bo W L ws) (hb : Below W.heap.size W W') : OutL D bo W' L ws := by
  obtain ⟨a, c, us, h1, h2, h3, h4⟩ := h
  refine ⟨a, c, us, (hb.block _ (Array.getElem?_eq_some_iff.1 h1).1).trans h1, h2, h3, fun i hi => ?_⟩
  obtain ⟨g, u, k1, k2, k3, k4, k5, k6⟩ := h4 i hi
  exact ⟨g, u, k1, k2, Nat.lt_of_lt_of_le k3 hb.size, k4, (hb.cell (p := ⟨g, i, none⟩) k3).trans k5, k6.below hb⟩
theorem OutL.less {D bo L : Nat} {W : World} {ws qs : List (List Nat)} (h : OutL D bo W L (ws ++ qs)) : OutL D bo W L ws := by
  obtain ⟨a, c, us, h1, h2, h3, h4⟩ := h
  rw [List.length_append] at h2 h3 h4
  refine ⟨a, c, us.take ws.length, h1, by omega, by rw [List.length_take]; omega, fun i hi => ?_⟩
  obtain ⟨g, u, k1, k2, k3, k4, k5, k6⟩ := h4 i (by omega)
  refine ⟨g, u, k1, k2, k3, by rw [List.getElem?_take, if_pos hi]; exact k4, k5, ?_⟩
  rw [List.getD_eq_getElem?_getD, List.getElem?_append_left hi, ← List.getD_eq_getElem?_getD] at k6
  exact k6
/-- A row more. -/
theorem OutL.put {D bo g c : Nat} {W W' : World} {us : List Value} {u : Value} {ws : List (List Nat)} {way : List Nat} {y : Value} (hD : bo < D) (hbo : W.heap[bo]? = some (.cells #[y] 29 (0, 0))) (hb : Below W.heap.size W W') (hus : us.length = ws.length) (hc : ws.length + 1 ≤ c)
    (hrow : ∀ i, i < ws.length → ∃ u, us[i]? = some u ∧ Own D W u (ws.getD i [])) (hu : Own D W u way) (hg : D ≤ g) (hgl : g < W'.heap.size) (hcell : ∀ i v, (us ++ [u])[i]? = some v → W'.cell? ⟨g, i, none⟩ = some v) :
    OutL D bo (W'.setCell ⟨bo, 0, none⟩ (.slice (some ⟨g, 0, none⟩) (ws.length + 1) c)) (ws ++ [way]).length (ws ++ [way]) := by
  have h1 : W'.heap[bo]? = some (.cells #[y] 29 (0, 0)) := (hb.block _ (Array.getElem?_eq_some_iff.1 hbo).1).trans hbo
  have hs : Save (fun k => k = bo) W' (W'.setCell ⟨bo, 0, none⟩ (.slice (some ⟨g, 0, none⟩) (ws.length + 1) c)) := Save.setCell (X := fun k => k = bo) (Save.refl _ W') (p := ⟨bo, 0, none⟩) (.inl rfl) _
  have hX : ∀ k, (fun k => k = bo) k → k < D := fun k e => by have : k = bo := e; omega
  have hlen : (ws ++ [way]).length = ws.length + 1 := by simp
  refine ⟨some ⟨g, 0, none⟩, c, us ++ [u], ?_, by rw [hlen]; omega, by rw [hlen]; simp [hus], fun i hi => ?_⟩
  · rw [hlen]
    unfold World.setCell
    dsimp only
    rw [Array.getElem?_modify, h1]
    simp
  · rw [hlen] at hi
    have cell : ∀ v, (us ++ [u])[i]? = some v → (W'.setCell ⟨bo, 0, none⟩ (.slice (some ⟨g, 0, none⟩) (ws.length + 1) c)).cell? ⟨g, i, none⟩ = some v := fun v hv => by
      rw [World.cell?_setCell_other _ _ _ _ (by first | (simp; omega) | simp)]
      exact hcell i v hv
    have hsz : g < (W'.setCell ⟨bo, 0, none⟩ (.slice (some ⟨g, 0, none⟩) (ws.length + 1) c)).heap.size := by simpa using hgl
    by_cases e : i < ws.length
    · obtain ⟨v, e1, e2⟩ := hrow i e
      have e3 : (us ++ [u])[i]? = some v := by rw [List.getElem?_append_left (by omega)]; exact e1
      refine ⟨g, v, rfl, hg, hsz, e3, cell v e3, ?_⟩
      rw [List.getD_eq_getElem?_getD, List.getElem?_append_left e, ← List.getD_eq_getElem?_getD]
      exact (e2.below hb).saveD hs hX
    · obtain rfl : i = ws.length := by omega
      have e3 : (us ++ [u])[ws.length]? = some u := by rw [List.getElem?_append_right (by omega), hus]; simp
      refine ⟨g, u, rfl, hg, hsz, e3, cell u e3, ?_⟩
      rw [List.getD_eq_getElem?_getD, List.getElem?_append_right (Nat.le_refl _)]
      simp
      exact (hu.below hb).saveD hs hX
end Go.Proofs.Ytjnifcfcigcngaa
