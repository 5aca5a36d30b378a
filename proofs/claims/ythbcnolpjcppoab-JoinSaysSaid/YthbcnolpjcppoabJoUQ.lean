/- join.Union. -/
import Derived.Test.YthbcnolpjcppoabAlkQ
import Derived.Test.YthbcnolpjcppoabShrW
import Derived.Test.YthbcnolpjcppoabWithIndQ
namespace Go.Proofs.Ythbcnolpjcppoab
open Go.RowKit

def BadU (w : World) (q : Int) (e : Ending) (w' : World) : Prop := e = .returned (.tuple #[.agg #[.int .i64 0, .slice none 0 0], .int .i64 q]) ∧ Below w.heap.size w w'
def box3 (w : World) (n : Int) (v : Value) (k : Int) (u : Value) : World := (box2 w n v k u).alloc (.cells #[.int .i64 0, .slice none 0 0] 24)
theorem box3_below (w : World) (n : Int) (v : Value) (k : Int) (u : Value) : Below w.heap.size w (box3 w n v k u) := (box2_below w n v k u).alloc (by rw [box2_size]; omega) _
theorem box3_size (w : World) (n : Int) (v : Value) (k : Int) (u : Value) : (box3 w n v k u).heap.size = w.heap.size + 3 := by unfold box3; simp [box2_size]
theorem box3_blocks {w w2 : World} {n : Int} {v : Value} {k : Int} {u : Value} (hb2 : Below (box3 w n v k u).heap.size (box3 w n v k u) w2) :
    w2.heap[w.heap.size]? = some (.cells #[.int .i64 n, v] 24 (0, 0)) ∧ w2.heap[w.heap.size + 1]? = some (.cells #[.int .i64 k, u] 24 (0, 0)) ∧ w2.heap[w.heap.size + 1 + 1]? = some (.cells #[.int .i64 0, .slice none 0 0] 24 (0, 0)) := by
  have hs := box3_size w n v k u
  have hs2 := box2_size w n v k u
  have h3 : Below (box2 w n v k u).heap.size (box2 w n v k u) (box3 w n v k u) := (Below.refl _ _).alloc (Nat.le_refl _) _
  obtain ⟨c0, c1⟩ := box2_blocks h3
  refine ⟨(hb2.block _ (by omega)).trans c0, (hb2.block _ (by omega)).trans c1, (hb2.block _ (by omega)).trans ?_⟩
  have := World.alloc_heap_new (box2 w n v k u) (.cells #[.int .i64 0, .slice none 0 0] 24)
  rw [hs2] at this
  exact this
theorem UniQ_ok (s p1 p2 T : Nat) (va vb : Value) (r q : Nat → Nat) (w : World) (hT : T ≤ 256) (hs : s < T)
    (h1 : w.cell? ⟨p1, 0, none⟩ = some va) (h2 : w.cell? ⟨p2, 0, none⟩ = some vb) (hA : RkAt w va T r) (hB : RkAt w vb T q) :
    Calls Try.prog 83 #[.int .i64 s, .pointer (some ⟨p1, 0, none⟩), .pointer (some ⟨p2, 0, none⟩)] w fun e w' => e = .returned (.bool (shareB r q s)) ∧ Below w.heap.size w w' := by
  have HS := hid (share_any va vb T r q s w hT hs hA hB)
  obtain ⟨rb, roff, rcap, rfl, -, -⟩ := hA
  obtain ⟨rb', roff', rcap', rfl, -, -⟩ := hB
  generalize shareB r q s = Q at *
  go_enter Try.func83, Try.ntmps83
  go_wp2_with fail
  refine HS.out.mono ?_
  rintro e w1 ⟨rfl, hb1⟩
  have HB1 := hid hb1
  clear hb1
  go_wp2_with fail
  go_ret
  exact ⟨rfl, HB1.out⟩
/-- Two boxes more. -/
theorem boxes_below (w : World) (x y : Value) : Below w.heap.size w ((w.alloc (.cells #[x] 22)).alloc (.cells #[y] 22)) := ((Below.refl _ _).alloc (Nat.le_refl _) _).alloc (by simp) _
theorem boxes_size (w : World) (x y : Value) : ((w.alloc (.cells #[x] 22)).alloc (.cells #[y] 22)).heap.size = w.heap.size + 2 := by simp
theorem boxes_cells (w : World) (x y : Value) : ((w.alloc (.cells #[x] 22)).alloc (.cells #[y] 22)).cell? ⟨w.heap.size, 0, none⟩ = some x ∧ ((w.alloc (.cells #[x] 22)).alloc (.cells #[y] 22)).cell? ⟨w.heap.size + 1, 0, none⟩ = some y := by
  have b1 := ((Boxed.new w 22 x).alloc (.cells #[y] 22)).cell
  have b2 := (Boxed.new (w.alloc (.cells #[x] 22)) 22 y).cell
  rw [World.size_alloc] at b2
  exact ⟨b1, b2⟩
set_option maxHeartbeats 1600000 in
theorem uni_none (n k : Int) (v u : Value) (zs ys : List Int) (w : World) (h : Ints w v zs) (h' : Ints w u ys) (hc : uniQ n zs k ys ≠ 0) :
    Calls Try.prog 36 #[.agg #[.int .i64 n, v], .agg #[.int .i64 k, u]] w (BadU w (uniQ n zs k ys)) := by
  have HI := hid h
  have HI' := hid h'
  obtain ⟨a, cap, rfl, -, -⟩ := h
  obtain ⟨a', cap', rfl, -, -⟩ := h'
  have HB0 := hid (box3_below w n (.slice a zs.length cap) k (.slice a' ys.length cap'))
  have HX : Hid (∀ w2, Below (box3 w n (.slice a zs.length cap) k (.slice a' ys.length cap')).heap.size (box3 w n (.slice a zs.length cap) k (.slice a' ys.length cap')) w2 → _) := fun w2 h => box3_blocks h
  have HSZ := hid (box3_size w n (.slice a zs.length cap) k (.slice a' ys.length cap'))
  have R1 := hid (alike_none n k _ _ zs ys _ (HI.out.below HB0.out) (HI'.out.below HB0.out) hc)
  generalize uniQ n zs k ys = q at *
  have hc' : (q == 0) = false := by rw [beq_eq_false_iff_ne]; exact hc
  go_enter Try.func36, Try.ntmps36
  go_wp2_with fail
  refine R1.out.mono ?_
  rintro e w1 ⟨rfl, hb1⟩
  obtain ⟨hx0, hx1, hx2⟩ := HX.out w1 hb1
  have HB1 := hid (HB0.out.trans (hb1.mono HB0.out.size))
  have hsz1 : w.heap.size + 3 ≤ w1.heap.size := by have := hb1.size; have := HSZ.out; omega
  have hbb := boxes_below w1 (.slice none 0 0) (.slice none 0 0)
  have hxx := (hbb.block (w.heap.size + 1 + 1) (by omega)).trans hx2
  have HW := hid (HB1.out.trans (hbb.mono HB1.out.size))
  obtain ⟨y2, y3, g2, g3⟩ := two_cells hxx
  have HC := hid (set_two (x := .int .i64 0) (y := .slice none 0 0) hxx)
  have HD := hid (below_two (b := w.heap.size + 1 + 1) (x := .int .i64 0) (y := .slice none 0 0) HW.out (by omega))
  clear hb1 HX HSZ R1 hx0 hx1 hbb hxx hx2
  go_wp2_with fail
  obtain ⟨c0, c1⟩ := HC.out
  refine bodyPost_ret (v := .tuple #[.agg #[.int .i64 0, .slice none 0 0], .int .i64 q]) ?_ rfl ⟨rfl, HD.out⟩
  simp [results, Try.f36, go_sem, c0, c1]

set_option maxHeartbeats 1600000 in
theorem Union_ok (m : Nat) (v u : Value) (l l' : List Nat) (w : World) (hm : m ≤ 8) (hf : Fam m l) (hb : Bas l) (h : Ints w v (N l)) (hf' : Fam m l') (hb' : Bas l') (h' : Ints w u (N l')) :
    Calls Try.prog 36 #[.agg #[.int .i64 m, v], .agg #[.int .i64 m, u]] w (GivesO w m (uniN m l l')) := by
  have HI := hid h
  have HI' := hid h'
  obtain ⟨a, cap, hv, -, -⟩ := h.nats
  subst hv
  obtain ⟨a', cap', hv, -, -⟩ := h'.nats
  subst hv
  have HB0 := hid (box3_below w m (.slice a l.length cap) m (.slice a' l'.length cap'))
  have HX : Hid (∀ w2, Below (box3 w m (.slice a l.length cap) m (.slice a' l'.length cap')).heap.size (box3 w m (.slice a l.length cap) m (.slice a' l'.length cap')) w2 → _) := fun w2 h => box3_blocks h
  have HSZ := hid (box3_size w m (.slice a l.length cap) m (.slice a' l'.length cap'))
  have R1 := hid (alike_ok m _ _ l l' _ hm hf hb (HI.out.below HB0.out) hf' hb' (HI'.out.below HB0.out))
  obtain ⟨acc, HACC⟩ : ∃ acc : List Nat, Hid (uniN m l l' = acc) := ⟨_, rfl⟩
  rw [HACC.out]
  go_enter Try.func36, Try.ntmps36
  go_wp2_with fail
  refine R1.out.mono ?_
  rintro e w1 ⟨r, r', rfl, hr, hr', hb1⟩
  obtain ⟨hx0, hx1, hx2⟩ := HX.out w1 hb1
  have HB1 := hid (HB0.out.trans (hb1.mono HB0.out.size))
  have hsz1 : w.heap.size + 3 ≤ w1.heap.size := by have := hb1.size; have := HSZ.out; omega
  have HR1 := hid hr
  have HR2 := hid hr'
  obtain ⟨rb, roff, rcap, rfl, -, -⟩ := hr
  obtain ⟨rb', roff', rcap', rfl, -, -⟩ := hr'
  have hbb := boxes_below w1 (.slice (some ⟨rb, roff, none⟩) (2 ^ m) rcap) (.slice (some ⟨rb', roff', none⟩) (2 ^ m) rcap')
  obtain ⟨q1, q2⟩ := boxes_cells w1 (.slice (some ⟨rb, roff, none⟩) (2 ^ m) rcap) (.slice (some ⟨rb', roff', none⟩) (2 ^ m) rcap')
  have hsz2 := boxes_size w1 (.slice (some ⟨rb, roff, none⟩) (2 ^ m) rcap) (.slice (some ⟨rb', roff', none⟩) (2 ^ m) rcap')
  have hxx := hid ((hbb.block (w.heap.size + 1 + 1) (by omega)).trans hx2)
  obtain ⟨z0, _, _, _⟩ := two_cells ((hbb.block (w.heap.size) (by omega)).trans hx0)
  obtain ⟨z1, _, _, _⟩ := two_cells ((hbb.block (w.heap.size + 1) (by omega)).trans hx1)
  have HW := hid (HB1.out.trans (hbb.mono HB1.out.size))
  have HRA := hid (HR1.out.below hbb)
  have HRB := hid (HR2.out.below hbb)
  have OI := hid (ofInd_any m 83 #[.pointer (some ⟨w1.heap.size, 0, none⟩), .pointer (some ⟨w1.heap.size + 1, 0, none⟩)] (shareB (rk l) (rk l')) ((w1.alloc (.cells #[.slice (some ⟨rb, roff, none⟩) (2 ^ m) rcap] 22)).alloc (.cells #[.slice (some ⟨rb', roff', none⟩) (2 ^ m) rcap'] 22)) hm (fun args w => enters_of Try.func83 (by kernel_rfl) rfl args w)
    (fun x hx w3 hb3 _ => by
      exact UniQ_ok x w1.heap.size (w1.heap.size + 1) (2 ^ m) _ _ (rk l) (rk l') w3 (pow_wrap m hm).2 hx ((hb3.cell (p := ⟨w1.heap.size, 0, none⟩) (by show w1.heap.size < _; omega)).trans q1) ((hb3.cell (p := ⟨w1.heap.size + 1, 0, none⟩) (by show w1.heap.size + 1 < _; omega)).trans q2) (HRA.out.below hb3) (HRB.out.below hb3)))
  rw [ofInd_eq (r := uniR l l') hm (uni_rkOn m hb hb') (fun s hs => uni_ind hm hb hb' hs), show basR m (uniR l l') = acc from HACC.out] at OI
  clear hb1 HX HSZ R1 hx0 hx1 hbb hx2 q1 q2 HR1 HR2 HRA HRB
  generalize 2 ^ m = T at *
  go_wp2_with fail
  refine OI.out.mono ?_
  rintro e w4 ⟨r4, rfl, hr4, hb4⟩
  obtain ⟨ra, rc, hr⟩ := ownsRow_form' hr4
  subst hr
  have hx4 := (hb4.block (w.heap.size + 1 + 1) (by omega)).trans hxx.out
  obtain ⟨y2, y3, g2, g3⟩ := two_cells hx4
  have HC := hid (set_two (x := .int .i64 m) (y := .slice ra acc.length rc) hx4)
  have HD := hid (below_two (b := w.heap.size + 1 + 1) (x := .int .i64 m) (y := .slice ra acc.length rc) (HW.out.trans (hb4.mono HW.out.size)) (by omega))
  have HII := hid ((hr4.set2 (b := w.heap.size + 1 + 1) (x := .int .i64 m) (y := .slice ra acc.length rc) (by omega)).mono (by omega : w.heap.size ≤ _))
  clear hb4 hr4 hx4 hxx
  go_wp2_with fail
  obtain ⟨c0, c1⟩ := HC.out
  refine bodyPost_ret (v := .tuple #[.agg #[.int .i64 m, .slice ra _ rc], .int .i64 0]) ?_ rfl ⟨_, rfl, HII.out, HD.out⟩
  simp [results, Try.f36, go_sem, c0, c1]
end Go.Proofs.Ythbcnolpjcppoab
