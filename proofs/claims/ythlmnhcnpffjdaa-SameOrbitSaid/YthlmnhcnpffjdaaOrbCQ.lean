/- The state of SameOrbit's search. -/
import Derived.Test.YthlmnhcnpffjdaaOrbBQ
import Derived.Test.YthlmnhcnpffjdaaPlainAll
namespace Go.Proofs.Ythlmnhcnpffjdaa
open Go.RowKit

/-- The function value that searches: c is the block of l, behind it all, p and itself. -/
def orbV (b c : Nat) : Value := .func (.func 28) #[] #[.pointer (some ⟨c + 2, 0, none⟩), .pointer (some ⟨b, 0, none⟩), .pointer (some ⟨c + 1, 0, none⟩), .pointer (some ⟨c, 0, none⟩), .pointer (some ⟨c + 3, 0, none⟩)]
structure OrbT (w W : World) (m : Nat) (v : Value) (c : Nat) (vP vL : Value) (p : List Nat) (Ls : List (List Nat)) (n : Nat) : Prop where
  lo : w.heap.size < c
  low : Below w.heap.size w W
  top : c + 4 ≤ W.heap.size
  mat : W.heap[w.heap.size]? = some (.cells #[.int .i64 m, v] 24 (0, 0))
  cnt : Boxed W (c + 1) 3 (.int .i64 n)
  fn : Boxed W (c + 3) 50 (orbV w.heap.size c)
  bp : Boxed W (c + 2) 22 vP
  op : Own (c + 4) W vP p
  bl : Boxed W c 49 vL
  ll : LL (c + 4) (fun g => vP.ownBlock = some g) W vL Ls
  lens : ∀ L ∈ Ls, L.length ≤ 256
  few : Ls.length ≤ n
variable {w W W' : World} {m : Nat} {v : Value} {c : Nat} {vP vL : Value} {p : List Nat} {Ls : List (List Nat)} {n : Nat}
theorem OrbT.below (h : OrbT w W m v c vP vL p Ls n) (hb : Below W.heap.size W W') : OrbT w W' m v c vP vL p Ls n := by
  have ht := h.top
  have hl := h.lo
  exact ⟨hl, h.low.trans (hb.mono h.low.size), Nat.le_trans ht hb.size, (hb.block _ (by omega)).trans h.mat, (hb.block _ (by omega)).trans h.cnt, (hb.block _ (by omega)).trans h.fn, (hb.block _ (by omega)).trans h.bp, h.op.below hb, (hb.block _ (by omega)).trans h.bl, h.ll.save (Y := fun _ => False) (Save.of_below hb) (fun _ e => e.elim), h.lens, h.few⟩
theorem setC_other (W : World) {b k : Nat} (x : Value) (h : k ≠ b) : (W.setCell ⟨b, 0, none⟩ x).heap[k]? = W.heap[k]? := Below.heap_setCell W ⟨b, 0, none⟩ x k h
theorem setC_size (W : World) (b : Nat) (x : Value) : (W.setCell ⟨b, 0, none⟩ x).heap.size = W.heap.size := by simp [World.setCell]
theorem save_one (W : World) (b : Nat) (x : Value) : Save (fun k => k = b) W (W.setCell ⟨b, 0, none⟩ x) := Save.setCell (X := fun k => k = b) (Save.refl _ W) (p := ⟨b, 0, none⟩) (.inl rfl) x
theorem OrbT.count (h : OrbT w W m v c vP vL p Ls n) (n' : Nat) (hn : n ≤ n') : OrbT w (W.setCell ⟨c + 1, 0, none⟩ (.int .i64 n')) m v c vP vL p Ls n' := by
  have ht := h.top
  have hl := h.lo
  have hs := save_one W (c + 1) (.int .i64 n')
  exact ⟨hl, h.low.setCell (p := ⟨c + 1, 0, none⟩) (by show _ ≤ c + 1; omega) _, by rw [setC_size]; exact ht, (setC_other W _ (by omega)).trans h.mat, Boxed.set _ h.cnt, (setC_other W _ (by omega)).trans h.fn, (setC_other W _ (by omega)).trans h.bp, h.op.saveV2 hs (fun g hg e => by have := (World.ownsRow.lt h.op g hg).1; omega), (setC_other W _ (by omega)).trans h.bl, h.ll.save hs (fun k e => .inr (by omega)), h.lens, Nat.le_trans h.few hn⟩
/-- p is another slice now. -/
theorem OrbT.turn (h : OrbT w W m v c vP vL p Ls n) {vP' : Value} {p' : List Nat} (hs : Save (fun g => vP.ownBlock = some g) W W') (ho : Own (c + 4) W' vP' p') (hb : vP'.ownBlock = vP.ownBlock ∨ ∃ g, vP'.ownBlock = some g ∧ W.heap.size ≤ g) : OrbT w (W'.setCell ⟨c + 2, 0, none⟩ vP') m v c vP' vL p' Ls n := by
  have ht := h.top
  have hl := h.lo
  have hge : ∀ g, vP.ownBlock = some g → c + 4 ≤ g := fun g hg => (World.ownsRow.lt h.op g hg).1
  have hs2 := save_one W' (c + 2) vP'
  have hk : ∀ k, k < c + 4 → W'.heap[k]? = W.heap[k]? := fun k hk => hs.block k (by omega) (fun e => by have := hge k e; omega)
  have hlow : Below w.heap.size w W' := hs.below h.low h.low.size (fun k e => by have := hge k e; omega)
  have hll2 : LL (c + 4) (fun g => vP'.ownBlock = some g) W' vL Ls := by
    have a1 : LL (c + 4) (fun g => vP.ownBlock = some g ∨ vP'.ownBlock = some g) W vL Ls := LL.other h.ll (fun k e => by
      rcases e with e | e
      · exact .inl e
      · rcases hb with hb | ⟨g, hb, hg⟩
        · exact .inl (by rw [← hb]; exact e)
        · rw [hb] at e; cases e; exact .inr hg)
    exact LL.other (LL.save a1 hs (fun k e => .inl (.inl e))) (fun k e => .inl (.inr e))
  exact ⟨hl, hlow.setCell (p := ⟨c + 2, 0, none⟩) (by show _ ≤ c + 2; omega) _, by rw [setC_size]; exact Nat.le_trans ht hs.size, (setC_other W' _ (by omega)).trans ((hk _ (by omega)).trans h.mat), (setC_other W' _ (by omega)).trans ((hk _ (by omega)).trans h.cnt), (setC_other W' _ (by omega)).trans ((hk _ (by omega)).trans h.fn), Boxed.set vP' ((hk _ (by omega)).trans h.bp), ho.saveV2 hs2 (fun g hg e => by have := (World.ownsRow.lt ho g hg).1; omega), (setC_other W' _ (by omega)).trans ((hk _ (by omega)).trans h.bl), hll2.save hs2 (fun k e => .inr (by omega)), h.lens, h.few⟩
/-- l is longer now. -/
theorem OrbT.push (h : OrbT w W m v c vP vL p Ls n) {vs : List Value} {r vL' : Value} {D : List Nat} (h1 : vs.length = Ls.length) (h4 : ∀ j, j < Ls.length → Own (c + 4) W (vs.getD j undef) (Ls.getD j []) ∧ (∀ g, (vs.getD j undef).ownBlock = some g → ¬ vP.ownBlock = some g ∧ vL.ownBlock ≠ some g))
    (hr : Own (c + 4) W r D) (hrb : ∀ g, r.ownBlock = some g → vP.ownBlock ≠ some g ∧ vL.ownBlock ≠ some g) (hD : D.length ≤ 256) (hfew : Ls.length + 1 ≤ n) (hs : Save (fun g => vL.ownBlock = some g) W W') (hrow : W'.ownsRow (c + 4) 22 1 vL' (vs.length + 1) (vs ++ [r])) (hb : vL'.ownBlock = vL.ownBlock ∨ ∃ g, vL'.ownBlock = some g ∧ W.heap.size ≤ g) :
    OrbT w (W'.setCell ⟨c, 0, none⟩ vL') m v c vP vL' p (Ls ++ [D]) n := by
  have ht := h.top
  have hl := h.lo
  obtain ⟨us, u1, u2, u3, u4⟩ := h.ll
  have hge : ∀ g, vL.ownBlock = some g → c + 4 ≤ g := fun g hg => (World.ownsRow.lt u2 g hg).1
  have hs2 := save_one W' c vL'
  have hk : ∀ k, k < c + 4 → W'.heap[k]? = W.heap[k]? := fun k hk => hs.block k (by omega) (fun e => by have := hge k e; omega)
  have hlow : Below w.heap.size w W' := hs.below h.low h.low.size (fun k e => by have := hge k e; omega)
  have hop : Own (c + 4) W' vP p := h.op.saveV2 hs (fun g hg e => u3 g e hg)
  have hne : ∀ (x : Value) (L : List Nat) (g : Nat), Own (c + 4) W x L → x.ownBlock = some g → vL.ownBlock ≠ some g → vL'.ownBlock ≠ some g := fun x L g hx hg hn e => by
    rcases hb with hb | ⟨g2, hb, hg2⟩
    · exact hn (by rw [← hb]; exact e)
    · rw [hb] at e
      cases e
      have := (World.ownsRow.lt hx g hg).2
      omega
  have hll : LL (c + 4) (fun g => vP.ownBlock = some g) W' vL' (Ls ++ [D]) := by
    refine ⟨vs ++ [r], by simp [h1], by simpa using hrow, fun g hg hx => ?_, fun j hj => ?_⟩
    · rcases hb with hb | ⟨g2, hb, hg2⟩
      · exact u3 g (by rw [← hb]; exact hg) hx
      · rw [hb] at hg
        cases hg
        have := (World.ownsRow.lt h.op g hx).2
        omega
    · rw [List.length_append, List.length_singleton] at hj
      by_cases hlt : j < Ls.length
      · have e1 : (vs ++ [r]).getD j undef = vs.getD j undef := by simp [List.getD, List.getElem?_append_left (show j < vs.length by omega)]
        have e2 : (Ls ++ [D]).getD j [] = Ls.getD j [] := by simp [List.getD, List.getElem?_append_left hlt]
        rw [e1, e2]
        obtain ⟨a1, a2⟩ := h4 j hlt
        exact ⟨a1.saveV2 hs (fun g hg e => (a2 g hg).2 e), fun g hg => ⟨(a2 g hg).1, hne _ _ g a1 hg (a2 g hg).2⟩⟩
      · obtain rfl : j = Ls.length := by omega
        have e1 : (vs ++ [r]).getD Ls.length undef = r := by rw [← h1]; simp [List.getD]
        have e2 : (Ls ++ [D]).getD Ls.length [] = D := by simp [List.getD]
        rw [e1, e2]
        exact ⟨hr.saveV2 hs (fun g hg e => (hrb g hg).2 e), fun g hg => ⟨(hrb g hg).1, hne _ _ g hr hg (hrb g hg).2⟩⟩
  refine ⟨hl, hlow.setCell (p := ⟨c, 0, none⟩) (by show _ ≤ c; omega) _, by rw [setC_size]; exact Nat.le_trans ht hs.size, (setC_other W' _ (by omega)).trans ((hk _ (by omega)).trans h.mat), (setC_other W' _ (by omega)).trans ((hk _ (by omega)).trans h.cnt), (setC_other W' _ (by omega)).trans ((hk _ (by omega)).trans h.fn), (setC_other W' _ (by omega)).trans ((hk _ (by omega)).trans h.bp), hop.saveV2 hs2 (fun g hg e => by have := (World.ownsRow.lt hop g hg).1; omega), Boxed.set vL' ((hk _ (by omega)).trans h.bl), hll.save hs2 (fun k e => .inr (by omega)), fun L hL => ?_, by rw [List.length_append]; exact hfew⟩
  rw [List.mem_append, List.mem_singleton] at hL
  rcases hL with hL | rfl
  · exact h.lens L hL
  · exact hD
theorem OrbT.facts (h : OrbT w W m v c vP vL p Ls n) : (W.cell? ⟨w.heap.size, 0, none⟩ = some (.int .i64 m) ∧ W.cell? ⟨w.heap.size, 1, none⟩ = some v) ∧ (W.cell? ⟨c + 1, 0, none⟩ = some (.int .i64 n) ∧ W.frozen? ⟨c + 1, 0, none⟩ = false) ∧ W.cell? ⟨c + 3, 0, none⟩ = some (orbV w.heap.size c) ∧ (W.cell? ⟨c + 2, 0, none⟩ = some vP ∧ W.frozen? ⟨c + 2, 0, none⟩ = false) ∧ (W.cell? ⟨c, 0, none⟩ = some vL ∧ W.frozen? ⟨c, 0, none⟩ = false) :=
  ⟨cells2 h.mat, ⟨h.cnt.cell, h.cnt.frozen⟩, h.fn.cell, ⟨h.bp.cell, h.bp.frozen⟩, ⟨h.bl.cell, h.bl.frozen⟩⟩
end Go.Proofs.Ythlmnhcnpffjdaa
