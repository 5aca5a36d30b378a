/- minors.Dual. -/
import Derived.Test.YtgdcfogikchjeaaEqW
import Derived.Test.YtgdcfogikchjeaaCplQ
import Derived.Test.YtgdcfogikchjeaaAxW
import Derived.Test.YtgdcfogikchjeaaWithoutQ
import Derived.Deep.RegionHeld3
import Derived.Test.YtgdcfogikchjeaaThoseW
import Derived.Test.YtgdcfogikchjeaaKNamedQ
import Derived.Test.YtgdcfogikchjeaaPlainAll
namespace Go.Proofs.Ytgdcfogikchjeaa
open Go.RowKit

set_option maxHeartbeats 800000 in
theorem Dual_ok (m : Nat) (v : Value) (l : List Nat) (w : World) (hm : m ≤ 8) (hf : Fam m l) (hb : Bas l) (h : Ints w v (N l)) :
    Calls Try.prog 7 #[.agg #[.int .i64 m, v]] w (GivesO w m (cmp m l)) := by
  have HI := hid h
  obtain ⟨a, cap, hv, _, _⟩ := h.nats
  subst hv
  have HB0 := hid (boxM_below w m (.slice a l.length cap))
  have HC := hid (check_any m _ (N l) _ (HI.out.below HB0.out))
  rw [chk_mk hm hf hb] at HC
  have HX : Hid (∀ w2, Below (boxM w m (.slice a l.length cap)).heap.size (boxM w m (.slice a l.length cap)) w2 → _) := fun w2 h => boxM_blocks h
  have HS := hid (boxM_size w m (.slice a l.length cap))
  have HCP := hid (fun w' (hb' : Below w.heap.size w w') => Cpl_any m _ l w' hm hf (fam_len hm hf) (HI.out.below hb'))
  have HLL := hid (cmp_len m l)
  generalize cmp m l = acc at *
  go_enter Try.func7, Try.ntmps7
  go_wp2_with fail
  refine HC.out.mono ?_
  rintro e w2 ⟨rfl, hb2⟩
  obtain ⟨hx0, hx1⟩ := HX.out w2 hb2
  obtain ⟨x0, x1, _, _⟩ := two_cells hx0
  have HB2 := hid (HB0.out.trans (hb2.mono HB0.out.size))
  have hs2 : w.heap.size + 2 ≤ w2.heap.size := by have := hb2.size; have := HS.out; omega
  have HY := hid hx1
  clear hb2 hx0 hx1
  go_wp2_with fail
  have HB2d : Hid (Below w.heap.size w w2.drew) := HB2.out.drew
  have hsd : w2.drew.heap.size = w2.heap.size := rfl
  go_region_held3 (fun w' => w'.cell? ⟨w.heap.size, 0, none⟩ = some (.int .i64 m) ∧ w'.cell? ⟨w.heap.size, 1, none⟩ = some (.slice a l.length cap)) (go_keep)
   (first
    | (go_at_call 18; refine (HCP.out _ HB2d.out).mono ?_; rintro e w4 ⟨r4, rfl, hr4, hb4⟩; obtain ⟨q0, q1⟩ := (show w4.cell? ⟨w.heap.size, 0, none⟩ = some (.int .i64 m) ∧ w4.cell? ⟨w.heap.size, 1, none⟩ = some (.slice a l.length cap) from ⟨(hb4.cell (p := ⟨w.heap.size, 0, none⟩) (by show w.heap.size < _; omega)).trans x0, (hb4.cell (p := ⟨w.heap.size, 1, none⟩) (by show w.heap.size < _; omega)).trans x1⟩); obtain ⟨ra, rc, hr⟩ := ownsRow_form' hr4; subst hr; have hx1 := (hb4.block (w.heap.size + 1) (by omega)).trans (show w2.drew.heap[w.heap.size + 1]? = _ from HY.out); obtain ⟨y2, y3, g2, g3⟩ := two_cells hx1; have HC := hid (set_two (x := .int .i64 m) (y := .slice ra acc.length rc) hx1); have HB4 := hid (HB2d.out.trans (hb4.mono HB2d.out.size)); have HD := hid (below_two (b := w.heap.size + 1) (x := .int .i64 m) (y := .slice ra acc.length rc) HB4.out (by omega)); have HII := hid ((hr4.set2 (b := w.heap.size + 1) (x := .int .i64 m) (y := .slice ra acc.length rc) (by omega)).mono (by omega : w.heap.size ≤ _)); clear hb4 hr4 hx1))
  go_wp2_with fail
  obtain ⟨c0, c1⟩ := HC.out
  refine bodyPost_ret (v := .tuple #[.agg #[.int .i64 m, .slice ra _ rc], .int .i64 0]) ?_ rfl ⟨_, rfl, HII.out, HD.out⟩
  simp [results, Try.f7, go_sem, c0, c1]
set_option maxHeartbeats 800000 in
theorem Dual_bad (n : Int) (v : Value) (zs : List Int) (w : World) (h : Ints w v zs) (hc : chkR n zs ≠ 0) :
    Calls Try.prog 7 #[.agg #[.int .i64 n, v]] w (BadM w (chkR n zs)) := by
  have HI := hid h
  obtain ⟨a, cap, rfl, _, _⟩ := h
  have HB0 := hid (boxM_below w n (.slice a zs.length cap))
  have HC := hid (check_any n _ zs _ (HI.out.below HB0.out))
  have HX : Hid (∀ w2, Below (boxM w n (.slice a zs.length cap)).heap.size (boxM w n (.slice a zs.length cap)) w2 → _) := fun w2 h => boxM_blocks h
  generalize chkR n zs = q at *
  have hc' : (q == 0) = false := by rw [beq_eq_false_iff_ne]; exact hc
  go_enter Try.func7, Try.ntmps7
  go_wp2_with fail
  refine HC.out.mono ?_
  rintro e w4 ⟨rfl, hb4⟩
  obtain ⟨_, hx1⟩ := HX.out w4 hb4
  have HB4 := hid (HB0.out.trans (hb4.mono HB0.out.size))
  have HC := hid (set_two (x := .int .i64 0) (y := .slice none 0 0) hx1)
  have HD := hid (below_two (b := w.heap.size + 1) (x := .int .i64 0) (y := .slice none 0 0) HB4.out (by omega))
  obtain ⟨y2, y3, g2, g3⟩ := two_cells hx1
  clear hb4 hx1
  go_wp2_with fail
  obtain ⟨c0, c1⟩ := HC.out
  refine bodyPost_ret (v := .tuple #[.agg #[.int .i64 0, .slice none 0 0], .int .i64 q]) ?_ rfl ⟨rfl, HD.out⟩
  simp [results, Try.f7, go_sem, c0, c1]
end Go.Proofs.Ytgdcfogikchjeaa

namespace Go.Proofs.Ytgdcfogikchjeaa
open Go.RowKit

/-- What hands back a matroid alone. -/
def GivesR (w : World) (n : Int) (l : List Nat) (e : Ending) (w' : World) : Prop := ∃ a cap, e = .returned (.agg #[.int .i64 n, .slice a l.length cap]) ∧ Ints w' (.slice a l.length cap) (N l) ∧ Below w.heap.size w w'
theorem end_r {w w1 : World} {b0 : Nat} {n : Int} {l : List Nat} {a : Option Addr} {cap : Nat} {o : Obj} (hb : Below w.heap.size w w1) (h0 : w.heap.size ≤ b0) (hx : w1.heap[b0]? = some (.cells #[.int .i64 0, .slice none 0 0] 33 (0, 0))) (ho : Own (b0 + 1) w1 (.slice a l.length cap) l) (hl : l.length ≤ 256) :
    ∃ W, W = ((w1.alloc o).setCell ⟨b0, 0, none⟩ (.int .i64 n)).setCell ⟨b0, 1, none⟩ (.slice a l.length cap) ∧ (W.cell? ⟨b0, 0, none⟩ = some (.int .i64 n) ∧ W.cell? ⟨b0, 1, none⟩ = some (.slice a l.length cap)) ∧ Ints W (.slice a l.length cap) (N l) ∧ Below w.heap.size w W := by
  have hk := (Below.refl _ w1).alloc (Nat.le_refl _) o
  have hx2 := (hk.block b0 (Array.getElem?_eq_some_iff.1 hx).1).trans hx
  have ho1 := ho.below hk
  have hb1 := hb.trans (hk.mono hb.size)
  generalize w1.alloc o = W1 at *
  exact ⟨_, rfl, set_two hx2, (ho1.set2 (b := b0) (by omega)).ints (Nat.le_trans hl (by decide)), below_two hb1 h0⟩
set_option maxRecDepth 20000 in
set_option maxHeartbeats 1600000 in
theorem runiform_ok (n k : Nat) (w : World) (hn : n ≤ 8) (hk : k ≤ n) (hl : (uniL n k).length ≤ 256) :
    Calls Try.prog 20 #[.int .i64 k, .int .i64 n] w (GivesR w n (uniL n k)) := by
  have HB0 := hid (below_boxR w #[.int .i64 0, .slice none 0 0])
  have HX0 := hid (World.alloc_heap_new w (.cells #[.int .i64 0, .slice none 0 0] 33))
  have UN := hid (Uniform_ok n k (w.alloc (.cells #[.int .i64 0, .slice none 0 0] 33)) hn hk)
  have hs := World.size_alloc w (.cells #[.int .i64 0, .slice none 0 0] 33)
  generalize uniL n k = L at *
  go_enter Try.func20, Try.ntmps20
  go_wp2_with fail
  refine UN.out.mono ?_
  rintro e w1 ⟨r, rfl, ho, hb1⟩
  obtain ⟨ra, rc, hr⟩ := ownsRow_form' ho
  subst hr
  rw [hs] at ho
  have hxx := (hb1.block _ (by omega)).trans HX0.out
  have hk1 := (Below.refl _ w1).alloc (Nat.le_refl _) (.cells #[.int .i64 n, .slice ra L.length rc] 33)
  obtain ⟨y2, y3, g2, g3⟩ := two_cells ((hk1.block _ (Array.getElem?_eq_some_iff.1 hxx).1).trans hxx)
  have NE := hid (end_r (n := n) (o := .cells #[.int .i64 n, .slice ra L.length rc] 33) (HB0.out.trans (hb1.mono HB0.out.size)) (Nat.le_refl _) hxx ho hl)
  clear hb1 ho hxx UN HX0 HB0 hk1
  go_wp2_with fail
  obtain ⟨W, hW, ⟨c0, c1⟩, hI, hD⟩ := NE.out
  rw [← hW]
  refine bodyPost_ret (v := .agg #[.int .i64 n, .slice ra L.length rc]) ?_ rfl ⟨ra, rc, rfl, hI, hD⟩
  simp [results, Try.f20, go_sem, c0, c1]
theorem fano_lit : namL bFano = fanoB := by decide +kernel
set_option maxRecDepth 20000 in
set_option maxHeartbeats 1600000 in
theorem rfano_ok (w : World) : Calls Try.prog 21 #[] w (GivesR w 7 fanoB) := by
  have HB0 := hid (below_boxR w #[.int .i64 0, .slice none 0 0])
  have HX0 := hid (World.alloc_heap_new w (.cells #[.int .i64 0, .slice none 0 0] 33))
  have UN : Hid (Calls Try.prog 37 #[.string { data := #[102, 97, 110, 111] }] (w.alloc (.cells #[.int .i64 0, .slice none 0 0] 33)) (GivesO (w.alloc (.cells #[.int .i64 0, .slice none 0 0] 33)) 7 fanoB)) := (Named_any bFano _).mono fun e w' h9 => by
    have := h9.1 rfl
    rw [fano_lit] at this
    exact this
  have hs := World.size_alloc w (.cells #[.int .i64 0, .slice none 0 0] 33)
  have hl : fanoB.length ≤ 256 := by decide
  generalize fanoB = L at *
  go_enter Try.func21, Try.ntmps21
  go_wp2_with fail
  refine UN.out.mono ?_
  rintro e w1 ⟨r, rfl, ho, hb1⟩
  obtain ⟨ra, rc, hr⟩ := ownsRow_form' ho
  subst hr
  rw [hs] at ho
  have hxx := (hb1.block _ (by omega)).trans HX0.out
  have hk1 := (Below.refl _ w1).alloc (Nat.le_refl _) (.cells #[.int .i64 7, .slice ra L.length rc] 33)
  obtain ⟨y2, y3, g2, g3⟩ := two_cells ((hk1.block _ (Array.getElem?_eq_some_iff.1 hxx).1).trans hxx)
  have NE := hid (end_r (n := 7) (o := .cells #[.int .i64 7, .slice ra L.length rc] 33) (HB0.out.trans (hb1.mono HB0.out.size)) (Nat.le_refl _) hxx ho hl)
  clear hb1 ho hxx UN HX0 HB0 hk1
  go_wp2_with fail
  obtain ⟨W, hW, ⟨c0, c1⟩, hI, hD⟩ := NE.out
  rw [← hW]
  refine bodyPost_ret (v := .agg #[.int .i64 7, .slice ra L.length rc]) ?_ rfl ⟨ra, rc, rfl, hI, hD⟩
  simp [results, Try.f21, go_sem, c0, c1]
set_option maxRecDepth 20000 in
set_option maxHeartbeats 1600000 in
theorem rdual_ok (m : Nat) (a : Option Addr) (cap : Nat) (l : List Nat) (w : World) (hm : m ≤ 8) (hf : Fam m l) (hb : Bas l) (h : Ints w (.slice a l.length cap) (N l)) :
    Calls Try.prog 22 #[.agg #[.int .i64 m, .slice a l.length cap]] w (GivesR w m (cmp m l)) := by
  have b1 := below_boxR w #[.int .i64 m, .slice a l.length cap]
  have s1 := World.size_alloc w (.cells #[.int .i64 m, .slice a l.length cap] 33)
  have x1 := World.alloc_heap_new w (.cells #[.int .i64 m, .slice a l.length cap] 33)
  obtain ⟨W1, hW1⟩ : ∃ W1, w.alloc (.cells #[.int .i64 m, .slice a l.length cap] 33) = W1 := ⟨_, rfl⟩
  rw [hW1] at b1 s1 x1
  have b2 := below_boxR W1 #[.int .i64 0, .slice none 0 0]
  have x2 := World.alloc_heap_new W1 (.cells #[.int .i64 0, .slice none 0 0] 33)
  have s2 := World.size_alloc W1 (.cells #[.int .i64 0, .slice none 0 0] 33)
  rw [s1] at x2 s2
  have hk1 := (b2.block _ (by omega)).trans x1
  obtain ⟨k0, k1, -, -⟩ := two_cells hk1
  have HB0 := hid (b1.trans (b2.mono b1.size))
  have HX0 := hid x2
  have UN := hid (Dual_ok m _ l (W1.alloc (.cells #[.int .i64 0, .slice none 0 0] 33)) hm hf hb (h.below HB0.out))
  have hl : (cmp m l).length ≤ 256 := by rw [cmp_len]; exact fam_lenT hm hf
  subst hW1
  generalize cmp m l = L at *
  clear b1 x1 b2 x2 hk1 h hf hb
  go_enter Try.func22, Try.ntmps22
  go_wp2_with fail
  refine UN.out.mono ?_
  rintro e w1 ⟨r, rfl, ho, hb1⟩
  obtain ⟨ra, rc, hr⟩ := ownsRow_form' ho
  subst hr
  rw [s2] at ho
  have hxx := (hb1.block _ (by omega)).trans HX0.out
  have hk1 := (Below.refl _ w1).alloc (Nat.le_refl _) (.cells #[.int .i64 m, .slice ra L.length rc] 33)
  obtain ⟨y2, y3, g2, g3⟩ := two_cells ((hk1.block _ (Array.getElem?_eq_some_iff.1 hxx).1).trans hxx)
  have NE := hid (end_r (n := m) (o := .cells #[.int .i64 m, .slice ra L.length rc] 33) (HB0.out.trans (hb1.mono HB0.out.size)) (Nat.le_succ _) hxx ho hl)
  clear hb1 ho hxx UN HX0 HB0 hk1 k0 k1
  go_wp2_with fail
  obtain ⟨W, hW, ⟨c0, c1⟩, hI, hD⟩ := NE.out
  rw [← hW]
  refine bodyPost_ret (v := .agg #[.int .i64 m, .slice ra L.length rc]) ?_ rfl ⟨ra, rc, rfl, hI, hD⟩
  simp [results, Try.f22, go_sem, c0, c1]
end Go.Proofs.Ytgdcfogikchjeaa
