/- wide.divided. -/
import Derived.Test.YtelcpiekomhfbaaDoorWdAQ
import Derived.Test.YtelcpiekomhfbaaDoorEqQ
namespace Go.Proofs.YtelcpiekomhfbaaDoor
open Go.RowKit Go.Lib

theorem set_heap_other (W : World) (p : Addr) (x : Value) {k : Nat} (h : p.block ≠ k) : (W.setCell p x).heap[k]? = W.heap[k]? := by
  unfold World.setCell
  dsimp only
  rw [Array.getElem?_modify]
  simp [h]
theorem set_heap_0 {W : World} {b : Nat} {p q x : Value} {t : TypeId} (h : W.heap[b]? = some (.cells #[p, q] t (0, 0))) : (W.setCell ⟨b, 0, none⟩ x).heap[b]? = some (.cells #[x, q] t (0, 0)) := by
  unfold World.setCell
  dsimp only
  rw [Array.getElem?_modify, h]
  simp
theorem set_heap_1 {W : World} {b : Nat} {p q x : Value} {t : TypeId} (h : W.heap[b]? = some (.cells #[p, q] t (0, 0))) : (W.setCell ⟨b, 1, none⟩ x).heap[b]? = some (.cells #[p, x] t (0, 0)) := by
  unfold World.setCell
  dsimp only
  rw [Array.getElem?_modify, h]
  simp
/-- A number of 128 bits lies in block b. -/
def WAt (W : World) (b u : Nat) : Prop := ∃ h l : Nat, h < 18446744073709551616 ∧ l < 18446744073709551616 ∧ u = h * 18446744073709551616 + l ∧ W.heap[b]? = some (.cells #[.int .u64 (h : Nat), .int .u64 (l : Nat)] 50 (0, 0))
theorem WAt.below {W W' : World} {b u : Nat} (h : WAt W b u) (hb : Below W.heap.size W W') : WAt W' b u := by
  obtain ⟨x, y, h1, h2, h3, h4⟩ := h
  exact ⟨x, y, h1, h2, h3, (hb.block b (Array.getElem?_eq_some_iff.1 h4).1).trans h4⟩
theorem WAt.drew {W : World} {b u : Nat} (h : WAt W b u) : WAt W.drew b u := h
theorem WAt.lt {W : World} {b u : Nat} (h : WAt W b u) : u < 340282366920938463463374607431768211456 := by
  obtain ⟨x, y, h1, h2, h3, h4⟩ := h
  omega
theorem WAt.size {W : World} {b u : Nat} (h : WAt W b u) : b < W.heap.size := by
  obtain ⟨x, y, h1, h2, h3, h4⟩ := h
  exact (Array.getElem?_eq_some_iff.1 h4).1
/-- What is read. -/
theorem WAt.read {W : World} {b u : Nat} (h : WAt W b u) : ∃ x y : Nat, x < 18446744073709551616 ∧ y < 18446744073709551616 ∧ Hid (u = x * 18446744073709551616 + y) ∧ wv u = .agg #[.int .u64 (x : Nat), .int .u64 (y : Nat)] ∧ W.cell? ⟨b, 0, none⟩ = some (.int .u64 (x : Nat)) ∧ W.cell? ⟨b, 1, none⟩ = some (.int .u64 (y : Nat)) ∧ W.frozen? ⟨b, 0, none⟩ = false ∧ W.frozen? ⟨b, 1, none⟩ = false := by
  obtain ⟨x, y, h1, h2, h3, h4⟩ := h
  exact ⟨x, y, h1, h2, h3, (wv_shut h2 h3).symm, by simp [World.cell?, h4], by simp [World.cell?, h4], by simp [World.frozen?, h4], by simp [World.frozen?, h4]⟩
theorem WAt.put {W : World} {b u x y : Nat} (h : WAt W b u) (hx : x < 18446744073709551616) (hy : y < 18446744073709551616) {v : Nat} (e : v = x * 18446744073709551616 + y) : WAt ((W.setCell ⟨b, 0, none⟩ (.int .u64 (x : Nat))).setCell ⟨b, 1, none⟩ (.int .u64 (y : Nat))) b v := by
  obtain ⟨p, q, h1, h2, h3, h4⟩ := h
  exact ⟨x, y, hx, hy, e, set_heap_1 (set_heap_0 h4)⟩
theorem WAt.putO {W : World} {b u c : Nat} (h : WAt W b u) (x y : Value) (hc : c ≠ b) : WAt ((W.setCell ⟨c, 0, none⟩ x).setCell ⟨c, 1, none⟩ y) b u := by
  obtain ⟨p, q, h1, h2, h3, h4⟩ := h
  exact ⟨p, q, h1, h2, h3, (set_heap_other _ _ _ hc).trans ((set_heap_other _ _ _ hc).trans h4)⟩
theorem WAt.set1 {W : World} {b u : Nat} (h : WAt W b u) {x y z : Nat} (e : u = x * 18446744073709551616 + y) (hy : y < 18446744073709551616) (hz : z < 18446744073709551616) {v : Nat} (e' : v = x * 18446744073709551616 + z) : WAt (W.setCell ⟨b, 1, none⟩ (.int .u64 (z : Nat))) b v := by
  obtain ⟨p, q, h1, h2, h3, h4⟩ := h
  have : p = x := by omega
  subst this
  exact ⟨p, z, h1, hz, e', set_heap_1 h4⟩
theorem WAt.set1O {W : World} {b u c : Nat} (h : WAt W b u) (x : Value) (hc : c ≠ b) : WAt (W.setCell ⟨c, 1, none⟩ x) b u := by
  obtain ⟨p, q, h1, h2, h3, h4⟩ := h
  exact ⟨p, q, h1, h2, h3, (set_heap_other _ _ _ hc).trans h4⟩
end Go.Proofs.YtelcpiekomhfbaaDoor
