/- slices.Equal; rotalaw.SameMatroid. -/
import Derived.Test.YtgkkemlemnlchaaFamsQ
import Derived.Test.YtgkkemlemnlchaaRefQ
namespace Go.Proofs.Ytgkkemlemnlchaa
open Go.RowKit

/-- A matroid's block, and the result's. -/
def boxM (w : World) (n : Int) (v : Value) : World := (w.alloc (.cells #[.int .i64 n, v] 33)).alloc (.cells #[.int .i64 0, .slice none 0 0] 33)
theorem boxM_below (w : World) (n : Int) (v : Value) : Below w.heap.size w (boxM w n v) := ((Below.refl _ _).alloc (Nat.le_refl _) _).alloc (by simp) _
theorem boxM_size (w : World) (n : Int) (v : Value) : (boxM w n v).heap.size = w.heap.size + 2 := by unfold boxM; simp
theorem boxM_blocks {w w2 : World} {n : Int} {v : Value} (hb2 : Below (boxM w n v).heap.size (boxM w n v) w2) :
    w2.heap[w.heap.size]? = some (.cells #[.int .i64 n, v] 33 (0, 0)) ∧ w2.heap[w.heap.size + 1]? = some (.cells #[.int .i64 0, .slice none 0 0] 33 (0, 0)) := by
  have hs := boxM_size w n v
  refine ⟨(hb2.block _ (by omega)).trans ?_, (hb2.block _ (by omega)).trans ?_⟩
  · unfold boxM
    rw [Below.heap_alloc _ _ _ (by simp)]
    exact World.alloc_heap_new w _
  · unfold boxM
    have := World.alloc_heap_new (w.alloc (.cells #[.int .i64 n, v] 33)) (.cells #[.int .i64 0, .slice none 0 0] 33)
    rwa [World.size_alloc] at this
theorem two_cells {w : World} {b : Nat} {x y : Value} {t : TypeId} (h : w.heap[b]? = some (.cells #[x, y] t (0, 0))) : w.cell? ⟨b, 0, none⟩ = some x ∧ w.cell? ⟨b, 1, none⟩ = some y ∧ w.frozen? ⟨b, 0, none⟩ = false ∧ w.frozen? ⟨b, 1, none⟩ = false := by
  refine ⟨?_, ?_, ?_, ?_⟩ <;> simp [World.cell?, World.frozen?, h]
/-- What a function that hands back a matroid leaves in the result's block. -/
theorem set_two {w : World} {b : Nat} {p q x y : Value} {t : TypeId} (h : w.heap[b]? = some (.cells #[p, q] t (0, 0))) :
    ((w.setCell ⟨b, 0, none⟩ x).setCell ⟨b, 1, none⟩ y).cell? ⟨b, 0, none⟩ = some x ∧ ((w.setCell ⟨b, 0, none⟩ x).setCell ⟨b, 1, none⟩ y).cell? ⟨b, 1, none⟩ = some y := by
  obtain ⟨h0, h1, _, _⟩ := two_cells h
  constructor
  · refine (World.cell?_setCell_other _ _ _ _ (by simp)).trans ?_
    exact World.cell?_setCell_same' _ _ _ (by rw [h0]; rfl)
  · refine World.cell?_setCell_same' _ _ _ ?_
    have := (World.cell?_setCell_other w ⟨b, 0, none⟩ ⟨b, 1, none⟩ x (by simp)).trans h1
    rw [this]
    rfl
theorem below_two {B : Nat} {w w3 : World} {b : Nat} {x y : Value} (h : Below B w w3) (hb : B ≤ b) : Below B w ((w3.setCell ⟨b, 0, none⟩ x).setCell ⟨b, 1, none⟩ y) := (h.setCell (p := ⟨b, 0, none⟩) hb _).setCell (p := ⟨b, 1, none⟩) hb _
theorem Own.set {B : Nat} {w : World} {v : Value} {l : List Nat} (h : Own B w v l) {p : Addr} (hp : p.block < B) (x : Value) : Own B (w.setCell p x) v l := by
  obtain ⟨h0, h1⟩ := h
  refine ⟨h0, h1.imp_right ?_⟩
  rintro ⟨g, cap, cur, hv, hg, hheap, hr⟩
  exact ⟨g, cap, cur, hv, hg, (Below.heap_setCell _ _ _ g (by omega)).trans hheap, hr⟩
theorem Own.set2 {B : Nat} {w : World} {v : Value} {l : List Nat} (h : Own B w v l) {b : Nat} {x y : Value} (hp : b < B) : Own B ((w.setCell ⟨b, 0, none⟩ x).setCell ⟨b, 1, none⟩ y) v l := (h.set (p := ⟨b, 0, none⟩) hp x).set (p := ⟨b, 1, none⟩) hp y
theorem fil_len {n : Nat} (hn : n ≤ 8) (p : Nat → Bool) : ((List.range (2 ^ n)).filter p).length ≤ 256 := by
  have h1 := List.length_filter_le p (List.range (2 ^ n))
  have h2 := (pow_wrap n hn).2
  rw [List.length_range] at h1
  omega
theorem fam_len {n : Nat} (hn : n ≤ 8) {l : List Nat} (hf : Fam n l) : l.length ≤ 256 := by
  have e : l = (List.range (2 ^ n)).filter fun s => memB s l := by
    refine sorted_ext hf.up (Fam.range n _).up fun s => ?_
    rw [List.mem_filter, List.mem_range]
    unfold memB
    rw [decide_eq_true_eq]
    exact ⟨fun h => ⟨hf.lt s h, h⟩, fun h => h.2⟩
  rw [e]
  exact fil_len hn _
theorem ran_len {n : Nat} (hn : n ≤ 8) (p : Nat → Bool) : ((List.range (2 ^ n)).filter p).length ≤ 17592186044416 := Nat.le_trans (fil_len hn p) (by decide)
/-- A matroid came back, its list a new one. -/
def GivesO (w : World) (n : Int) (l : List Nat) (e : Ending) (w' : World) : Prop := ∃ r, e = .returned (.tuple #[.agg #[.int .i64 n, r], .int .i64 0]) ∧ Own w.heap.size w' r l ∧ Below w.heap.size w w'
theorem ownsRow_form' {B : Nat} {w : World} {v : Value} {l : List Nat} (h : Own B w v l) : ∃ a c, v = .slice a l.length c := by
  rcases Go.Joins.ownsRow_forms h with ⟨rfl, h0⟩ | ⟨g, cap, rfl⟩
  · exact ⟨_, _, by rw [h0]⟩
  · exact ⟨_, _, rfl⟩
/-- A matroid came back. -/
def GivesM (w : World) (n : Int) (l : List Nat) (e : Ending) (w' : World) : Prop := ∃ r, e = .returned (.tuple #[.agg #[.int .i64 n, r], .int .i64 0]) ∧ Ints w' r (N l) ∧ Below w.heap.size w w'

/-- Two matroids: the same? -/
theorem SameMatroid_any (n m : Int) (u v : Value) (zs ys : List Int) (w : World) (h1 : Ints w u zs) (h2 : Ints w v ys) :
    Calls Try.prog 9 #[.agg #[.int .i64 n, u], .agg #[.int .i64 m, v]] w fun e w' => e = .returned (.bool (decide (n = m) && decide (zs = ys))) ∧ Below w.heap.size w w' := by
  have hB0 : Below w.heap.size w ((w.alloc (.cells #[.int .i64 n, u] 33)).alloc (.cells #[.int .i64 m, v] 33)) := ((Below.refl _ _).alloc (Nat.le_refl _) _).alloc (by simp) _
  have HC := hid (Same_any u v zs ys _ (h1.below hB0) (h2.below hB0))
  have HB0 := hid hB0
  obtain ⟨a, cap, rfl, _, _⟩ := h1
  obtain ⟨a2, cap2, rfl, _, _⟩ := h2
  clear hB0
  generalize decide (zs = ys) = q at *
  by_cases hnm : n = m
  · have hnm' : (n == m) = true := by rw [hnm]; simp
    have HN : Hid (decide (n = m) = true) := decide_eq_true hnm
    clear hnm
    go_enter Try.func9, Try.ntmps9
    go_wp2_with fail
    refine HC.out.mono ?_
    rintro e w2 ⟨rfl, hb2⟩
    have HB := hid (HB0.out.trans (hb2.mono HB0.out.size))
    clear hb2
    go_wp2_with fail
    go_ret
    exact ⟨ret_bool (by rw [HN.out]; simp), HB.out⟩
  · have hnm' : (n == m) = false := by rw [beq_eq_false_iff_ne]; exact hnm
    have HN : Hid (decide (n = m) = false) := decide_eq_false hnm
    clear hnm
    go_enter Try.func9, Try.ntmps9
    go_wp2_with fail
    go_ret
    exact ⟨ret_bool (by rw [HN.out]; simp), HB0.out⟩

end Go.Proofs.Ytgkkemlemnlchaa
