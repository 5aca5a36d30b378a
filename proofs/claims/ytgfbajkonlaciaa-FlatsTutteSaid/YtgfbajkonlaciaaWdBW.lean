/- slices.Equal; rotalaw.SameMatroid. -/
import Derived.Test.YtgfbajkonlaciaaFamsQ
import Derived.Test.YtgfbajkonlaciaaFlEW
import Derived.Test.YtgfbajkonlaciaaWdAQ
namespace Go.Proofs.Ytgfbajkonlaciaa
open Go.RowKit

/-- A matroid's block, and the result's. -/
def boxM (w : World) (n : Int) (v : Value) : World := (w.alloc (.cells #[.int .i64 n, v] 24)).alloc (.cells #[.int .i64 0, .slice none 0 0] 24)
theorem boxM_below (w : World) (n : Int) (v : Value) : Below w.heap.size w (boxM w n v) := ((Below.refl _ _).alloc (Nat.le_refl _) _).alloc (by simp) _
theorem boxM_size (w : World) (n : Int) (v : Value) : (boxM w n v).heap.size = w.heap.size + 2 := by unfold boxM; simp
theorem boxM_blocks {w w2 : World} {n : Int} {v : Value} (hb2 : Below (boxM w n v).heap.size (boxM w n v) w2) :
    w2.heap[w.heap.size]? = some (.cells #[.int .i64 n, v] 24 (0, 0)) ∧ w2.heap[w.heap.size + 1]? = some (.cells #[.int .i64 0, .slice none 0 0] 24 (0, 0)) := by
  have hs := boxM_size w n v
  refine ⟨(hb2.block _ (by omega)).trans ?_, (hb2.block _ (by omega)).trans ?_⟩
  · unfold boxM
    rw [Below.heap_alloc _ _ _ (by simp)]
    exact World.alloc_heap_new w _
  · unfold boxM
    have := World.alloc_heap_new (w.alloc (.cells #[.int .i64 n, v] 24)) (.cells #[.int .i64 0, .slice none 0 0] 24)
    rwa [World.size_alloc] at this
theorem two_cells {w : World} {b : Nat} {x y : Value} {t : TypeId} (h : w.heap[b]? = some (.cells #[x, y] t (0, 0))) : w.cell? ⟨b, 0, none⟩ = some x ∧ w.cell? ⟨b, 1, none⟩ = some y ∧ w.frozen? ⟨b, 0, none⟩ = false ∧ w.frozen? ⟨b, 1, none⟩ = false := by
  refine ⟨?_, ?_, ?_, ?_⟩ <;> simp [World.cell?, World.frozen?, h]
/-- What a function that hands back a matroid leaves in the result's block. -/
theorem set_two {w : World} {b : Nat} {p q x y : Value} {t : TypeId} (h : w.heap[b]? = some (.cells #[p, q] t (0, 0))) :
    ((w.setCell ⟨b, 0, none⟩ x).setCell ⟨b, 1, none⟩ y).cell? ⟨b, 0, none⟩ = some x ∧ ((w.setCell ⟨b, 0, none⟩ x).setCell ⟨b, 1, none⟩ y).cell? ⟨b, 1, none⟩ = some y := by
  obtain ⟨h0, h1, _, _⟩ := two_cells h
  constructor
  · refine (World.cell?_setCell_other _ _ _ _ (by simp)).trans ?_
    exact World.cell?_setCell_same' _ _ _ (by rw [h0]; rfl)
  · refine World.cell?_setCell_same' _ _ _ ?_
    have := (World.cell?_setCell_other w ⟨b, 0, none⟩ ⟨b, 1, none⟩ x (by simp)).trans h1
    rw [this]
    rfl
theorem below_two {B : Nat} {w w3 : World} {b : Nat} {x y : Value} (h : Below B w w3) (hb : B ≤ b) : Below B w ((w3.setCell ⟨b, 0, none⟩ x).setCell ⟨b, 1, none⟩ y) := (h.setCell (p := ⟨b, 0, none⟩) hb _).setCell (p := ⟨b, 1, none⟩) hb _
theorem Own.set {B : Nat} {w : World} {v : Value} {l : List Nat} (h : Own B w v l) {p : Addr} (hp : p.block < B) (x : Value) : Own B (w.setCell p x) v l := by
  obtain ⟨h0, h1⟩ := h
  refine ⟨h0, h1.imp_right ?_⟩
  rintro ⟨g, cap, cur, hv, hg, hheap, hr⟩
  exact ⟨g, cap, cur, hv, hg, (Below.heap_setCell _ _ _ g (by omega)).trans hheap, hr⟩
theorem Own.set2 {B : Nat} {w : World} {v : Value} {l : List Nat} (h : Own B w v l) {b : Nat} {x y : Value} (hp : b < B) : Own B ((w.setCell ⟨b, 0, none⟩ x).setCell ⟨b, 1, none⟩ y) v l := (h.set (p := ⟨b, 0, none⟩) hp x).set (p := ⟨b, 1, none⟩) hp y
theorem fil_len {n : Nat} (hn : n ≤ 8) (p : Nat → Bool) : ((List.range (2 ^ n)).filter p).length ≤ 256 := by
  have h1 := List.length_filter_le p (List.range (2 ^ n))
  have h2 := (pow_wrap n hn).2
  rw [List.length_range] at h1
  omega
theorem fam_len {n : Nat} (hn : n ≤ 8) {l : List Nat} (hf : Fam n l) : l.length ≤ 256 := by
  have e : l = (List.range (2 ^ n)).filter fun s => memB s l := by
    refine sorted_ext hf.up (Fam.range n _).up fun s => ?_
    rw [List.mem_filter, List.mem_range]
    unfold memB
    rw [decide_eq_true_eq]
    exact ⟨fun h => ⟨hf.lt s h, h⟩, fun h => h.2⟩
  rw [e]
  exact fil_len hn _
theorem ran_len {n : Nat} (hn : n ≤ 8) (p : Nat → Bool) : ((List.range (2 ^ n)).filter p).length ≤ 17592186044416 := Nat.le_trans (fil_len hn p) (by decide)
/-- A matroid came back, its list a new one. -/
def GivesO (w : World) (n : Int) (l : List Nat) (e : Ending) (w' : World) : Prop := ∃ r, e = .returned (.tuple #[.agg #[.int .i64 n, r], .int .i64 0]) ∧ Own w.heap.size w' r l ∧ Below w.heap.size w w'
theorem ownsRow_form' {B : Nat} {w : World} {v : Value} {l : List Nat} (h : Own B w v l) : ∃ a c, v = .slice a l.length c := by
  rcases Go.Joins.ownsRow_forms h with ⟨rfl, h0⟩ | ⟨g, cap, rfl⟩
  · exact ⟨_, _, by rw [h0]⟩
  · exact ⟨_, _, rfl⟩
/-- A matroid came back. -/
def GivesM (w : World) (n : Int) (l : List Nat) (e : Ending) (w' : World) : Prop := ∃ r, e = .returned (.tuple #[.agg #[.int .i64 n, r], .int .i64 0]) ∧ Ints w' r (N l) ∧ Below w.heap.size w w'


end Go.Proofs.Ytgfbajkonlaciaa

namespace Go.Proofs.Ytgfbajkonlaciaa
open Go.RowKit Go.Lib

theorem set_heap_other (W : World) (p : Addr) (x : Value) {k : Nat} (h : p.block ≠ k) : (W.setCell p x).heap[k]? = W.heap[k]? := by
  unfold World.setCell
  dsimp only
  rw [Array.getElem?_modify]
  simp [h]
theorem set_heap_0 {W : World} {b : Nat} {p q x : Value} {t : TypeId} (h : W.heap[b]? = some (.cells #[p, q] t (0, 0))) : (W.setCell ⟨b, 0, none⟩ x).heap[b]? = some (.cells #[x, q] t (0, 0)) := by
  unfold World.setCell
  dsimp only
  rw [Array.getElem?_modify, h]
  simp
theorem set_heap_1 {W : World} {b : Nat} {p q x : Value} {t : TypeId} (h : W.heap[b]? = some (.cells #[p, q] t (0, 0))) : (W.setCell ⟨b, 1, none⟩ x).heap[b]? = some (.cells #[p, x] t (0, 0)) := by
  unfold World.setCell
  dsimp only
  rw [Array.getElem?_modify, h]
  simp
/-- A number of 128 bits lies in block b. -/
def WAt (W : World) (b u : Nat) : Prop := ∃ h l : Nat, h < 18446744073709551616 ∧ l < 18446744073709551616 ∧ u = h * 18446744073709551616 + l ∧ W.heap[b]? = some (.cells #[.int .u64 (h : Nat), .int .u64 (l : Nat)] 45 (0, 0))
theorem WAt.below {W W' : World} {b u : Nat} (h : WAt W b u) (hb : Below W.heap.size W W') : WAt W' b u := by
  obtain ⟨x, y, h1, h2, h3, h4⟩ := h
  exact ⟨x, y, h1, h2, h3, (hb.block b (Array.getElem?_eq_some_iff.1 h4).1).trans h4⟩
theorem WAt.drew {W : World} {b u : Nat} (h : WAt W b u) : WAt W.drew b u := h
theorem WAt.lt {W : World} {b u : Nat} (h : WAt W b u) : u < 340282366920938463463374607431768211456 := by
  obtain ⟨x, y, h1, h2, h3, h4⟩ := h
  omega
theorem WAt.size {W : World} {b u : Nat} (h : WAt W b u) : b < W.heap.size := by
  obtain ⟨x, y, h1, h2, h3, h4⟩ := h
  exact (Array.getElem?_eq_some_iff.1 h4).1
/-- What is read. -/
theorem WAt.read {W : World} {b u : Nat} (h : WAt W b u) : ∃ x y : Nat, x < 18446744073709551616 ∧ y < 18446744073709551616 ∧ Hid (u = x * 18446744073709551616 + y) ∧ wv u = .agg #[.int .u64 (x : Nat), .int .u64 (y : Nat)] ∧ W.cell? ⟨b, 0, none⟩ = some (.int .u64 (x : Nat)) ∧ W.cell? ⟨b, 1, none⟩ = some (.int .u64 (y : Nat)) ∧ W.frozen? ⟨b, 0, none⟩ = false ∧ W.frozen? ⟨b, 1, none⟩ = false := by
  obtain ⟨x, y, h1, h2, h3, h4⟩ := h
  exact ⟨x, y, h1, h2, h3, (wv_shut h2 h3).symm, by simp [World.cell?, h4], by simp [World.cell?, h4], by simp [World.frozen?, h4], by simp [World.frozen?, h4]⟩
theorem WAt.put {W : World} {b u x y : Nat} (h : WAt W b u) (hx : x < 18446744073709551616) (hy : y < 18446744073709551616) {v : Nat} (e : v = x * 18446744073709551616 + y) : WAt ((W.setCell ⟨b, 0, none⟩ (.int .u64 (x : Nat))).setCell ⟨b, 1, none⟩ (.int .u64 (y : Nat))) b v := by
  obtain ⟨p, q, h1, h2, h3, h4⟩ := h
  exact ⟨x, y, hx, hy, e, set_heap_1 (set_heap_0 h4)⟩
theorem WAt.putO {W : World} {b u c : Nat} (h : WAt W b u) (x y : Value) (hc : c ≠ b) : WAt ((W.setCell ⟨c, 0, none⟩ x).setCell ⟨c, 1, none⟩ y) b u := by
  obtain ⟨p, q, h1, h2, h3, h4⟩ := h
  exact ⟨p, q, h1, h2, h3, (set_heap_other _ _ _ hc).trans ((set_heap_other _ _ _ hc).trans h4)⟩
theorem WAt.set1 {W : World} {b u : Nat} (h : WAt W b u) {x y z : Nat} (e : u = x * 18446744073709551616 + y) (hy : y < 18446744073709551616) (hz : z < 18446744073709551616) {v : Nat} (e' : v = x * 18446744073709551616 + z) : WAt (W.setCell ⟨b, 1, none⟩ (.int .u64 (z : Nat))) b v := by
  obtain ⟨p, q, h1, h2, h3, h4⟩ := h
  have : p = x := by omega
  subst this
  exact ⟨p, z, h1, hz, e', set_heap_1 h4⟩
theorem WAt.set1O {W : World} {b u c : Nat} (h : WAt W b u) (x : Value) (hc : c ≠ b) : WAt (W.setCell ⟨c, 1, none⟩ x) b u := by
  obtain ⟨p, q, h1, h2, h3, h4⟩ := h
  exact ⟨p, q, h1, h2, h3, (set_heap_other _ _ _ hc).trans h4⟩
end Go.Proofs.Ytgfbajkonlaciaa
