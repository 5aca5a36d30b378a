/- slices.Equal; rotalaw.SameMatroid. -/
import Derived.Test.YtjnifcfcigcngaaAxW
import Derived.Test.YtjnifcfcigcngaaRefQ
namespace Go.Proofs.Ytjnifcfcigcngaa
open Go.RowKit

theorem two_cells {w : World} {b : Nat} {x y : Value} {t : TypeId} (h : w.heap[b]? = some (.cells #[x, y] t (0, 0))) : w.cell? ⟨b, 0, none⟩ = some x ∧ w.cell? ⟨b, 1, none⟩ = some y ∧ w.frozen? ⟨b, 0, none⟩ = false ∧ w.frozen? ⟨b, 1, none⟩ = false := by
  refine ⟨?_, ?_, ?_, ?_⟩ <;> simp [World.cell?, World.frozen?, h]
/-- What a function that hands back a matroid leaves in the result's block. -/
theorem set_two {w : World} {b : Nat} {p q x y : Value} {t : TypeId} (h : w.heap[b]? = some (.cells #[p, q] t (0, 0))) :
    ((w.setCell ⟨b, 0, none⟩ x).setCell ⟨b, 1, none⟩ y).cell? ⟨b, 0, none⟩ = some x ∧ ((w.setCell ⟨b, 0, none⟩ x).setCell ⟨b, 1, none⟩ y).cell? ⟨b, 1, none⟩ = some y := by
  obtain ⟨h0, h1, _, _⟩ := two_cells h
  constructor
  · refine (World.cell?_setCell_other _ _ _ _ (by simp)).trans ?_
    exact World.cell?_setCell_same' _ _ _ (by rw [h0]; rfl)
  · refine World.cell?_setCell_same' _ _ _ ?_
    have := (World.cell?_setCell_other w ⟨b, 0, none⟩ ⟨b, 1, none⟩ x (by simp)).trans h1
    rw [this]
    rfl
theorem below_two {B : Nat} {w w3 : World} {b : Nat} {x y : Value} (h : Below B w w3) (hb : B ≤ b) : Below B w ((w3.setCell ⟨b, 0, none⟩ x).setCell ⟨b, 1, none⟩ y) := (h.setCell (p := ⟨b, 0, none⟩) hb _).setCell (p := ⟨b, 1, none⟩) hb _
theorem Own.set {B : Nat} {w : World} {v : Value} {l : List Nat} (h : Own B w v l) {p : Addr} (hp : p.block < B) (x : Value) : Own B (w.setCell p x) v l := by
  obtain ⟨h0, h1⟩ := h
  refine ⟨h0, h1.imp_right ?_⟩
  rintro ⟨g, cap, cur, hv, hg, hheap, hr⟩
  exact ⟨g, cap, cur, hv, hg, (Below.heap_setCell _ _ _ g (by omega)).trans hheap, hr⟩
theorem Own.set2 {B : Nat} {w : World} {v : Value} {l : List Nat} (h : Own B w v l) {b : Nat} {x y : Value} (hp : b < B) : Own B ((w.setCell ⟨b, 0, none⟩ x).setCell ⟨b, 1, none⟩ y) v l := (h.set (p := ⟨b, 0, none⟩) hp x).set (p := ⟨b, 1, none⟩) hp y
theorem fil_len {n : Nat} (hn : n ≤ 8) (p : Nat → Bool) : ((List.range (2 ^ n)).filter p).length ≤ 256 := by
  have h1 := List.length_filter_le p (List.range (2 ^ n))
  have h2 := (pow_wrap n hn).2
  rw [List.length_range] at h1
  omega
theorem fam_len {n : Nat} (hn : n ≤ 8) {l : List Nat} (hf : Fam n l) : l.length ≤ 256 := by
  have e : l = (List.range (2 ^ n)).filter fun s => memB s l := by
    refine sorted_ext hf.up (Fam.range n _).up fun s => ?_
    rw [List.mem_filter, List.mem_range]
    unfold memB
    rw [decide_eq_true_eq]
    exact ⟨fun h => ⟨hf.lt s h, h⟩, fun h => h.2⟩
  rw [e]
  exact fil_len hn _
theorem ran_len {n : Nat} (hn : n ≤ 8) (p : Nat → Bool) : ((List.range (2 ^ n)).filter p).length ≤ 17592186044416 := Nat.le_trans (fil_len hn p) (by decide)
/-- A matroid came back, its list a new one. -/
def GivesO (w : World) (n : Int) (l : List Nat) (e : Ending) (w' : World) : Prop := ∃ r, e = .returned (.tuple #[.agg #[.int .i64 n, r], .int .i64 0]) ∧ Own w.heap.size w' r l ∧ Below w.heap.size w w'
theorem ownsRow_form' {B : Nat} {w : World} {v : Value} {l : List Nat} (h : Own B w v l) : ∃ a c, v = .slice a l.length c := by
  rcases Go.Joins.ownsRow_forms h with ⟨rfl, h0⟩ | ⟨g, cap, rfl⟩
  · exact ⟨_, _, by rw [h0]⟩
  · exact ⟨_, _, rfl⟩
/-- A matroid came back. -/
def GivesM (w : World) (n : Int) (l : List Nat) (e : Ending) (w' : World) : Prop := ∃ r, e = .returned (.tuple #[.agg #[.int .i64 n, r], .int .i64 0]) ∧ Ints w' r (N l) ∧ Below w.heap.size w w'


end Go.Proofs.Ytjnifcfcigcngaa
