/- slices.Equal; rotalaw.SameMatroid. -/
import Derived.Test.YthbldeloocmakaaFamsQ
import Derived.Test.YthbldeloocmakaaRefQ
namespace Go.Proofs.Ythbldeloocmakaa
open Go.RowKit

/-- A matroid's block, and the result's. -/
def boxM (w : World) (n : Int) (v : Value) : World := (w.alloc (.cells #[.int .i64 n, v] 24)).alloc (.cells #[.int .i64 0, .slice none 0 0] 24)
theorem boxM_below (w : World) (n : Int) (v : Value) : Below w.heap.size w (boxM w n v) := ((Below.refl _ _).alloc (Nat.le_refl _) _).alloc (by simp) _
theorem boxM_size (w : World) (n : Int) (v : Value) : (boxM w n v).heap.size = w.heap.size + 2 := by unfold boxM; simp
theorem boxM_blocks {w w2 : World} {n : Int} {v : Value} (hb2 : Below (boxM w n v).heap.size (boxM w n v) w2) :
    w2.heap[w.heap.size]? = some (.cells #[.int .i64 n, v] 24 (0, 0)) ∧ w2.heap[w.heap.size + 1]? = some (.cells #[.int .i64 0, .slice none 0 0] 24 (0, 0)) := by
  have hs := boxM_size w n v
  refine ⟨(hb2.block _ (by omega)).trans ?_, (hb2.block _ (by omega)).trans ?_⟩
  · unfold boxM
    rw [Below.heap_alloc _ _ _ (by simp)]
    exact World.alloc_heap_new w _
  · unfold boxM
    have := World.alloc_heap_new (w.alloc (.cells #[.int .i64 n, v] 24)) (.cells #[.int .i64 0, .slice none 0 0] 24)
    rwa [World.size_alloc] at this
theorem two_cells {w : World} {b : Nat} {x y : Value} {t : TypeId} (h : w.heap[b]? = some (.cells #[x, y] t (0, 0))) : w.cell? ⟨b, 0, none⟩ = some x ∧ w.cell? ⟨b, 1, none⟩ = some y ∧ w.frozen? ⟨b, 0, none⟩ = false ∧ w.frozen? ⟨b, 1, none⟩ = false := by
  refine ⟨?_, ?_, ?_, ?_⟩ <;> simp [World.cell?, World.frozen?, h]
/-- What a function that hands back a matroid leaves in the result's block. -/
theorem set_two {w : World} {b : Nat} {p q x y : Value} {t : TypeId} (h : w.heap[b]? = some (.cells #[p, q] t (0, 0))) :
    ((w.setCell ⟨b, 0, none⟩ x).setCell ⟨b, 1, none⟩ y).cell? ⟨b, 0, none⟩ = some x ∧ ((w.setCell ⟨b, 0, none⟩ x).setCell ⟨b, 1, none⟩ y).cell? ⟨b, 1, none⟩ = some y := by
  obtain ⟨h0, h1, _, _⟩ := two_cells h
  constructor
  · refine (World.cell?_setCell_other _ _ _ _ (by simp)).trans ?_
    exact World.cell?_setCell_same' _ _ _ (by rw [h0]; rfl)
  · refine World.cell?_setCell_same' _ _ _ ?_
    have := (World.cell?_setCell_other w ⟨b, 0, none⟩ ⟨b, 1, none⟩ x (by simp)).trans h1
    rw [this]
    rfl
theorem below_two {B : Nat} {w w3 : World} {b : Nat} {x y : Value} (h : Below B w w3) (hb : B ≤ b) : Below B w ((w3.setCell ⟨b, 0, none⟩ x).setCell ⟨b, 1, none⟩ y) := (h.setCell (p := ⟨b, 0, none⟩) hb _).setCell (p := ⟨b, 1, none⟩) hb _
theorem Own.set {B : Nat} {w : World} {v : Value} {l : List Nat} (h : Own B w v l) {p : Addr} (hp : p.block < B) (x : Value) : Own B (w.setCell p x) v l := by
  obtain ⟨h0, h1⟩ := h
  refine ⟨h0, h1.imp_right ?_⟩
  rintro ⟨g, cap, cur, hv, hg, hheap, hr⟩
  exact ⟨g, cap, cur, hv, hg, (Below.heap_setCell _ _ _ g (by omega)).trans hheap, hr⟩
theorem Own.set2 {B : Nat} {w : World} {v : Value} {l : List Nat} (h : Own B w v l) {b : Nat} {x y : Value} (hp : b < B) : Own B ((w.setCell ⟨b, 0, none⟩ x).setCell ⟨b, 1, none⟩ y) v l := (h.set (p := ⟨b, 0, none⟩) hp x).set (p := ⟨b, 1, none⟩) hp y
theorem fil_len {n : Nat} (hn : n ≤ 8) (p : Nat → Bool) : ((List.range (2 ^ n)).filter p).length ≤ 256 := by
  have h1 := List.length_filter_le p (List.range (2 ^ n))
  have h2 := (pow_wrap n hn).2
  rw [List.length_range] at h1
  omega
theorem fam_len {n : Nat} (hn : n ≤ 8) {l : List Nat} (hf : Fam n l) : l.length ≤ 256 := by
  have e : l = (List.range (2 ^ n)).filter fun s => memB s l := by
    refine sorted_ext hf.up (Fam.range n _).up fun s => ?_
    rw [List.mem_filter, List.mem_range]
    unfold memB
    rw [decide_eq_true_eq]
    exact ⟨fun h => ⟨hf.lt s h, h⟩, fun h => h.2⟩
  rw [e]
  exact fil_len hn _
theorem ran_len {n : Nat} (hn : n ≤ 8) (p : Nat → Bool) : ((List.range (2 ^ n)).filter p).length ≤ 17592186044416 := Nat.le_trans (fil_len hn p) (by decide)
/-- A matroid came back, its list a new one. -/
def GivesO (w : World) (n : Int) (l : List Nat) (e : Ending) (w' : World) : Prop := ∃ r, e = .returned (.tuple #[.agg #[.int .i64 n, r], .int .i64 0]) ∧ Own w.heap.size w' r l ∧ Below w.heap.size w w'
theorem ownsRow_form' {B : Nat} {w : World} {v : Value} {l : List Nat} (h : Own B w v l) : ∃ a c, v = .slice a l.length c := by
  rcases Go.Joins.ownsRow_forms h with ⟨rfl, h0⟩ | ⟨g, cap, rfl⟩
  · exact ⟨_, _, by rw [h0]⟩
  · exact ⟨_, _, rfl⟩
/-- A matroid came back. -/
def GivesM (w : World) (n : Int) (l : List Nat) (e : Ending) (w' : World) : Prop := ∃ r, e = .returned (.tuple #[.agg #[.int .i64 n, r], .int .i64 0]) ∧ Ints w' r (N l) ∧ Below w.heap.size w w'

set_option maxHeartbeats 800000 in
theorem Equal_any (u v : Value) (zs ys : List Int) (w : World) (h1 : Ints w u zs) (h2 : Ints w v ys) :
    Calls Try.prog 100 #[u, v] w fun e w' => e = .returned (.bool (decide (zs = ys))) ∧ Below w.heap.size w w' := by
  obtain ⟨a, cap, rfl, hl, hc⟩ := h1
  obtain ⟨a2, cap2, rfl, hl2, hc2⟩ := h2
  by_cases hlen : zs.length = ys.length
  · have hne : ((zs.length : Int) != (ys.length : Int)) = false := by rw [hlen]; simp
    have HL := hid hlen
    rw [← hlen] at hl2 hc2 hne ⊢
    clear hlen
    go_enter Try.func100, Try.ntmps100
    go_wp2_with fail
    go_loopw [13] (fun i wr => ∃ k : Nat, k ≤ zs.length ∧ i = .int .i64 k ∧ Below w.heap.size w wr ∧ Hid (decide (zs = ys) = decide (zs.drop k = ys.drop k))) (fun i _ => zs.length - (intOf i).toNat)
    case atStart => exact ⟨0, Nat.zero_le _, rfl, Below.refl _ _, rfl⟩
    case round =>
      obtain ⟨k, hk, rfl, hnx, R⟩ := hrel
      by_cases hlt : k < zs.length
      · obtain ⟨b, off, rfl, hb, hcell⟩ := hc (by omega)
        obtain ⟨b2, off2, rfl, hb2, hcell2⟩ := hc2 (by omega)
        have hck : wr.cell? ⟨b, off + k, none⟩ = some (.int .i64 (zs.getD k 0)) := (hnx.cell (p := ⟨b, off + k, none⟩) hb).trans (hcell k hlt)
        have hck2 : wr.cell? ⟨b2, off2 + k, none⟩ = some (.int .i64 (ys.getD k 0)) := (hnx.cell (p := ⟨b2, off2 + k, none⟩) hb2).trans (hcell2 k hlt)
        have D := hid (same_step HL.out hlt)
        have hki : (k : Int) < (zs.length : Int) := by omega
        clear hcell hcell2 hc hc2
        generalize zs.getD k 0 = x at *
        generalize ys.getD k 0 = y at *
        by_cases hxy : x = y
        · have hxy' : (x != y) = false := by rw [hxy]; simp
          have HX := hid hxy
          clear hxy
          go_wp2_with fail
          go_quiet (fail)
          go_wp2_with fail
          go_roundw
          case rel => exact ⟨k + 1, by omega, by go_num, below_drewN hnx _, by show decide (zs = ys) = _; rw [R.out, D.out, HX.out]; simp⟩
          case measure => simp [intOf]; omega
        · have hxy' : (x != y) = true := by rw [bne_iff_ne]; exact hxy
          go_wp2_with fail
          go_quiet (fail)
          go_wp2_with fail
          go_ret
          exact ⟨ret_bool (by rw [R.out, D.out]; simp [hxy]), below_drewN hnx _⟩
      · have hz : zs.drop k = [] := List.drop_of_length_le (by omega)
        have hy : ys.drop k = [] := List.drop_of_length_le (by have := HL.out; omega)
        have F : Hid (decide (zs = ys) = true) := by show decide (zs = ys) = true; rw [R.out, hz, hy]; rfl
        clear hz hy
        go_wp2_with fail
        go_ret
        exact ⟨ret_bool F.out.symm, hnx⟩
  · have hne : ((zs.length : Int) != (ys.length : Int)) = true := by rw [bne_iff_ne]; omega
    have F : Hid (decide (zs = ys) = false) := by show decide (zs = ys) = false; simp; intro h; exact hlen (by rw [h])
    go_enter Try.func100, Try.ntmps100
    go_wp2_with fail
    go_ret
    exact ⟨ret_bool F.out.symm, Below.refl _ _⟩
/-- Two matroids: the same? -/
theorem SameMatroid_any (n m : Int) (u v : Value) (zs ys : List Int) (w : World) (h1 : Ints w u zs) (h2 : Ints w v ys) :
    Calls Try.prog 41 #[.agg #[.int .i64 n, u], .agg #[.int .i64 m, v]] w fun e w' => e = .returned (.bool (decide (n = m) && decide (zs = ys))) ∧ Below w.heap.size w w' := by
  have hB0 : Below w.heap.size w ((w.alloc (.cells #[.int .i64 n, u] 24)).alloc (.cells #[.int .i64 m, v] 24)) := ((Below.refl _ _).alloc (Nat.le_refl _) _).alloc (by simp) _
  have HC := hid (Same_any u v zs ys _ (h1.below hB0) (h2.below hB0))
  have HB0 := hid hB0
  obtain ⟨a, cap, rfl, _, _⟩ := h1
  obtain ⟨a2, cap2, rfl, _, _⟩ := h2
  clear hB0
  generalize decide (zs = ys) = q at *
  by_cases hnm : n = m
  · have hnm' : (n == m) = true := by rw [hnm]; simp
    have HN : Hid (decide (n = m) = true) := decide_eq_true hnm
    clear hnm
    go_enter Try.func41, Try.ntmps41
    go_wp2_with fail
    refine HC.out.mono ?_
    rintro e w2 ⟨rfl, hb2⟩
    have HB := hid (HB0.out.trans (hb2.mono HB0.out.size))
    clear hb2
    go_wp2_with fail
    go_ret
    exact ⟨ret_bool (by rw [HN.out]; simp), HB.out⟩
  · have hnm' : (n == m) = false := by rw [beq_eq_false_iff_ne]; exact hnm
    have HN : Hid (decide (n = m) = false) := decide_eq_false hnm
    clear hnm
    go_enter Try.func41, Try.ntmps41
    go_wp2_with fail
    go_ret
    exact ⟨ret_bool (by rw [HN.out]; simp), HB0.out⟩

set_option maxHeartbeats 800000 in
theorem madeOf_ok (g : Nat) (n : Int) (v u : Value) (mz zs ys : List Int) (w : World) (hv : Ints w v mz) (hu : Ints w u ys) (eg : Enters g)
    (hg : ∀ w1, Below w.heap.size w w1 → Calls Try.prog g #[.agg #[.int .i64 n, v]] w1 fun e w' => ∃ r, e = .returned (.tuple #[r, .int .i64 0]) ∧ Ints w' r zs ∧ Below w1.heap.size w1 w') :
    Calls Try.prog 73 #[.agg #[.int .i64 n, v], .func (.func g) #[] #[], u] w fun e w' => e = .returned (if decide (zs = ys) = true then .tuple #[.agg #[.int .i64 n, v], .int .i64 0] else .tuple #[.agg #[.int .i64 0, .slice none 0 0], .int .i64 3]) ∧ Below w.heap.size w w' := by
  have HU := hid hu
  have HG := hid hg
  clear hg
  obtain ⟨a, cap, rfl, _, _⟩ := hv
  obtain ⟨a2, cap2, rfl, _, _⟩ := hu
  unfold Enters at eg
  have HB0 := hid (boxM_below w n (.slice a mz.length cap))
  have HC := hid (HG.out _ HB0.out)
  have HX : Hid (∀ w2, Below (boxM w n (.slice a mz.length cap)).heap.size (boxM w n (.slice a mz.length cap)) w2 → _) := fun w2 h => boxM_blocks h
  have HS := hid (boxM_size w n (.slice a mz.length cap))
  obtain ⟨q, HQ⟩ : ∃ q : Bool, Hid (decide (zs = ys) = q) := ⟨_, rfl⟩
  rw [HQ.out]
  go_enter Try.func73, Try.ntmps73
  go_wp2_with fail
  refine HC.out.mono ?_
  rintro e w2 ⟨r, rfl, hr, hb2⟩
  obtain ⟨hx0, hx1⟩ := HX.out w2 hb2
  obtain ⟨x0, x1, _, _⟩ := two_cells hx0
  obtain ⟨x2, x3, f2, f3⟩ := two_cells hx1
  have HB := hid (HB0.out.trans (hb2.mono HB0.out.size))
  have EQ := hid (Equal_any r _ zs ys w2 hr (HU.out.below HB.out))
  rw [HQ.out] at EQ
  obtain ⟨a3, cap3, rfl, _, _⟩ := hr
  have hlt : w.heap.size + 1 < w2.heap.size := by have := hb2.size; have := HS.out; omega
  have H0 := hid hx0
  have H1 := hid hx1
  clear hb2 hx0 hx1
  cases q with
  | true =>
    go_wp2_with fail
    refine EQ.out.mono ?_
    rintro e w3 ⟨rfl, hb3⟩
    obtain ⟨y0, y1, _, _⟩ := two_cells ((hb3.block _ (by omega)).trans H0.out)
    obtain ⟨y2, y3, g2, g3⟩ := two_cells ((hb3.block _ hlt).trans H1.out)
    have HB3 := hid (HB.out.trans (hb3.mono HB.out.size))
    have HC := hid (set_two (x := .int .i64 n) (y := .slice a mz.length cap) ((hb3.block _ hlt).trans H1.out))
    have HD := hid (below_two (b := w.heap.size + 1) (x := .int .i64 n) (y := .slice a mz.length cap) HB3.out (by omega))
    clear hb3
    go_wp2_with fail
    obtain ⟨c0, c1⟩ := HC.out
    refine bodyPost_ret (v := .tuple #[.agg #[.int .i64 n, .slice a mz.length cap], .int .i64 0]) ?_ rfl ⟨rfl, HD.out⟩
    simp [results, Try.f73, go_sem, c0, c1]
  | false =>
    go_wp2_with fail
    refine EQ.out.mono ?_
    rintro e w3 ⟨rfl, hb3⟩
    obtain ⟨y2, y3, g2, g3⟩ := two_cells ((hb3.block _ hlt).trans H1.out)
    have HB3 := hid (HB.out.trans (hb3.mono HB.out.size))
    have HC := hid (set_two (x := .int .i64 0) (y := .slice none 0 0) ((hb3.block _ hlt).trans H1.out))
    have HD := hid (below_two (b := w.heap.size + 1) (x := .int .i64 0) (y := .slice none 0 0) HB3.out (by omega))
    clear hb3
    go_wp2_with fail
    obtain ⟨c0, c1⟩ := HC.out
    refine bodyPost_ret (v := .tuple #[.agg #[.int .i64 0, .slice none 0 0], .int .i64 3]) ?_ rfl ⟨rfl, HD.out⟩
    simp [results, Try.f73, go_sem, c0, c1]
end Go.Proofs.Ythbldeloocmakaa
