/- minors.Dual. -/
import Derived.Test.YtkmpnaohdijpnaaGreatDoorEqQ
import Derived.Test.YtkmpnaohdijpnaaGreatDoorCplQ
import Derived.Test.YtkmpnaohdijpnaaGreatDoorKGraph2W
import Derived.Deep.RegionHeld3
import Derived.Test.YtkmpnaohdijpnaaGreatDoorFamsW
import Derived.Test.YtkmpnaohdijpnaaGreatDoorGiveW
namespace Go.Proofs.YtkmpnaohdijpnaaGreatDoor
open Go.RowKit

set_option maxHeartbeats 800000 in
theorem Dual_ok (m : Nat) (v : Value) (l : List Nat) (w : World) (hm : m ≤ 8) (hf : Fam m l) (hb : Bas l) (h : Ints w v (N l)) :
    Calls Tryz.prog 10 #[.agg #[.int .i64 m, v]] w (GivesO w m (cmp m l)) := by
  have HI := hid h
  obtain ⟨a, cap, hv, _, _⟩ := h.nats
  subst hv
  have HB0 := hid (boxM_below w m (.slice a l.length cap))
  have HC := hid (check_any m _ (N l) _ (HI.out.below HB0.out))
  rw [chk_mk hm hf hb] at HC
  have HX : Hid (∀ w2, Below (boxM w m (.slice a l.length cap)).heap.size (boxM w m (.slice a l.length cap)) w2 → _) := fun w2 h => boxM_blocks h
  have HS := hid (boxM_size w m (.slice a l.length cap))
  have HCP := hid (fun w' (hb' : Below w.heap.size w w') => Cpl_any m _ l w' hm hf (fam_len hm hf) (HI.out.below hb'))
  have HLL := hid (cmp_len m l)
  generalize cmp m l = acc at *
  go_enter Tryz.func10, Tryz.ntmps10
  go_wp2_with fail
  refine HC.out.mono ?_
  rintro e w2 ⟨rfl, hb2⟩
  obtain ⟨hx0, hx1⟩ := HX.out w2 hb2
  obtain ⟨x0, x1, _, _⟩ := two_cells hx0
  have HB2 := hid (HB0.out.trans (hb2.mono HB0.out.size))
  have hs2 : w.heap.size + 2 ≤ w2.heap.size := by have := hb2.size; have := HS.out; omega
  have HY := hid hx1
  clear hb2 hx0 hx1
  go_wp2_with fail
  have HB2d : Hid (Below w.heap.size w w2.drew) := HB2.out.drew
  have hsd : w2.drew.heap.size = w2.heap.size := rfl
  go_region_held3 (fun w' => w'.cell? ⟨w.heap.size, 0, none⟩ = some (.int .i64 m) ∧ w'.cell? ⟨w.heap.size, 1, none⟩ = some (.slice a l.length cap)) (go_keep)
   (first
    | (go_at_call 26; refine (HCP.out _ HB2d.out).mono ?_; rintro e w4 ⟨r4, rfl, hr4, hb4⟩; obtain ⟨q0, q1⟩ := (show w4.cell? ⟨w.heap.size, 0, none⟩ = some (.int .i64 m) ∧ w4.cell? ⟨w.heap.size, 1, none⟩ = some (.slice a l.length cap) from ⟨(hb4.cell (p := ⟨w.heap.size, 0, none⟩) (by show w.heap.size < _; omega)).trans x0, (hb4.cell (p := ⟨w.heap.size, 1, none⟩) (by show w.heap.size < _; omega)).trans x1⟩); obtain ⟨ra, rc, hr⟩ := ownsRow_form' hr4; subst hr; have hx1 := (hb4.block (w.heap.size + 1) (by omega)).trans (show w2.drew.heap[w.heap.size + 1]? = _ from HY.out); obtain ⟨y2, y3, g2, g3⟩ := two_cells hx1; have HC := hid (set_two (x := .int .i64 m) (y := .slice ra acc.length rc) hx1); have HB4 := hid (HB2d.out.trans (hb4.mono HB2d.out.size)); have HD := hid (below_two (b := w.heap.size + 1) (x := .int .i64 m) (y := .slice ra acc.length rc) HB4.out (by omega)); have HII := hid ((hr4.set2 (b := w.heap.size + 1) (x := .int .i64 m) (y := .slice ra acc.length rc) (by omega)).mono (by omega : w.heap.size ≤ _)); clear hb4 hr4 hx1))
  go_wp2_with fail
  obtain ⟨c0, c1⟩ := HC.out
  refine bodyPost_ret (v := .tuple #[.agg #[.int .i64 m, .slice ra _ rc], .int .i64 0]) ?_ rfl ⟨_, rfl, HII.out, HD.out⟩
  simp [results, Tryz.f10, go_sem, c0, c1]
set_option maxHeartbeats 800000 in
theorem Dual_bad (n : Int) (v : Value) (zs : List Int) (w : World) (h : Ints w v zs) (hc : chkR n zs ≠ 0) :
    Calls Tryz.prog 10 #[.agg #[.int .i64 n, v]] w (BadM w (chkR n zs)) := by
  have HI := hid h
  obtain ⟨a, cap, rfl, _, _⟩ := h
  have HB0 := hid (boxM_below w n (.slice a zs.length cap))
  have HC := hid (check_any n _ zs _ (HI.out.below HB0.out))
  have HX : Hid (∀ w2, Below (boxM w n (.slice a zs.length cap)).heap.size (boxM w n (.slice a zs.length cap)) w2 → _) := fun w2 h => boxM_blocks h
  generalize chkR n zs = q at *
  have hc' : (q == 0) = false := by rw [beq_eq_false_iff_ne]; exact hc
  go_enter Tryz.func10, Tryz.ntmps10
  go_wp2_with fail
  refine HC.out.mono ?_
  rintro e w4 ⟨rfl, hb4⟩
  obtain ⟨_, hx1⟩ := HX.out w4 hb4
  have HB4 := hid (HB0.out.trans (hb4.mono HB0.out.size))
  have HC := hid (set_two (x := .int .i64 0) (y := .slice none 0 0) hx1)
  have HD := hid (below_two (b := w.heap.size + 1) (x := .int .i64 0) (y := .slice none 0 0) HB4.out (by omega))
  obtain ⟨y2, y3, g2, g3⟩ := two_cells hx1
  clear hb4 hx1
  go_wp2_with fail
  obtain ⟨c0, c1⟩ := HC.out
  refine bodyPost_ret (v := .tuple #[.agg #[.int .i64 0, .slice none 0 0], .int .i64 q]) ?_ rfl ⟨rfl, HD.out⟩
  simp [results, Tryz.f10, go_sem, c0, c1]
end Go.Proofs.YtkmpnaohdijpnaaGreatDoor

namespace Go.Proofs.YtkmpnaohdijpnaaGreatDoor
open Go.RowKit

/-- A block of T numbers, of whatever sign. -/
structure TblZ (g : Nat) (w : World) (T : Nat) (f : Nat → Int) : Prop where
  cell : ∀ i, i < T → w.cell? ⟨g, i, none⟩ = some (.int .i64 (f i))
  frozen : ∀ i, w.frozen? ⟨g, i, none⟩ = false
  size : g < w.heap.size
theorem TblZ.set {g : Nat} {w : World} {T : Nat} {f f' : Nat → Int} (h : TblZ g w T f) (j : Nat) (x : Int) (hj : j < T) (hf : ∀ i, i < T → f' i = if j = i then x else f i) : TblZ g (w.setCell ⟨g, j, none⟩ (.int .i64 x)) T f' := by
  refine ⟨fun i hi => ?_, fun i => (World.frozen?_setCell _ _ _ _).trans (h.frozen i), by simpa using h.size⟩
  rw [hf i hi]
  by_cases e : j = i
  · subst e
    rw [World.cell?_setCell_same _ _ _ (h.cell j hj)]; simp
  · rw [World.cell?_setCell_other _ _ _ _ (by simp), h.cell i hi]
    simp [e]
theorem TblZ.congr {g : Nat} {w : World} {T : Nat} {f f' : Nat → Int} (h : TblZ g w T f) (hf : ∀ i, i < T → f' i = f i) : TblZ g w T f' := ⟨fun i hi => by rw [hf i hi]; exact h.cell i hi, h.frozen, h.size⟩
theorem TblZ.below {g : Nat} {w w' : World} {T : Nat} {f : Nat → Int} (h : TblZ g w T f) (hb : Below w.heap.size w w') : TblZ g w' T f :=
  ⟨fun i hi => (hb.cell (p := ⟨g, i, none⟩) h.size).trans (h.cell i hi), fun i => (froz_below hb h.size).trans (h.frozen i), Nat.lt_of_lt_of_le h.size hb.size⟩
def RkZ (w : World) (v : Value) (T : Nat) (f : Nat → Int) : Prop := ∃ b off cap, v = .slice (some ⟨b, off, none⟩) T cap ∧ b < w.heap.size ∧ ∀ i, i < T → w.cell? ⟨b, off + i, none⟩ = some (.int .i64 (f i))
theorem RkZ.below {w w' : World} {v : Value} {T : Nat} {f : Nat → Int} (h : RkZ w v T f) (hb : Below w.heap.size w w') : RkZ w' v T f := by
  obtain ⟨b, off, cap, rfl, h1, h2⟩ := h
  exact ⟨b, off, cap, rfl, Nat.lt_of_lt_of_le h1 hb.size, fun i hi => (hb.cell (p := ⟨b, off + i, none⟩) h1).trans (h2 i hi)⟩
/-- A row being filled. -/
def ztab (k : Nat) (a : Nat → Int) (b : Int) (i : Nat) : Int := if i < k then a i else if i = k then b else 0
theorem ztab_lt {k i : Nat} {b : Int} {a : Nat → Int} (h : i < k) : ztab k a b i = a i := if_pos h
theorem ztab_at {k : Nat} {b : Int} {a : Nat → Int} : ztab k a b k = b := by unfold ztab; simp
theorem ztab_set {k : Nat} {b b' : Int} {a : Nat → Int} (i : Nat) : ztab k a b' i = if k = i then b' else ztab k a b i := by
  unfold ztab
  by_cases h : k = i
  · subst h
    simp
  · have h2 : ¬ i = k := fun e => h e.symm
    simp [h, h2]
theorem ztab_up {k : Nat} {a : Nat → Int} (i : Nat) : ztab (k + 1) a 0 i = ztab k a (a k) i := by
  unfold ztab
  by_cases h : i < k
  · rw [if_pos h, if_pos (by omega)]
  · by_cases h2 : i = k
    · subst h2
      simp
    · have h3 : ¬ i < k + 1 := by omega
      simp [h, h2, h3]
theorem TblZ.new (w : World) (T : Nat) (t : TypeId) : TblZ w.heap.size (w.alloc (.cells (madeCells #[.int .i64 0] T) t)) T (fun _ => 0) := by
  refine ⟨fun i hi => ?_, fun i => World.frozen?_alloc_at _ _ _ _ rfl, by simp⟩
  rw [World.cell?_alloc_at _ _ _ _ rfl]
  simp [madeCells, hi, Nat.mod_one]
theorem TblZ.drewN {g : Nat} {w : World} {T : Nat} {f : Nat → Int} (h : TblZ g w T f) (n : Nat) : TblZ g (w.drewN n) T f := ⟨h.cell, h.frozen, h.size⟩
theorem TblZ.drew {g : Nat} {w : World} {T : Nat} {f : Nat → Int} (h : TblZ g w T f) : TblZ g w.drew T f := ⟨h.cell, h.frozen, h.size⟩
theorem TblZ.rkZ {g : Nat} {w : World} {T cap : Nat} {f : Nat → Int} (h : TblZ g w T f) : RkZ w (.slice (some ⟨g, 0, none⟩) T cap) T f := ⟨g, 0, cap, rfl, h.size, fun i hi => by rw [Nat.zero_add]; exact h.cell i hi⟩
theorem RkAt.cellAt {w w' : World} {b off cap T : Nat} {r : Nat → Nat} (h : RkAt w (.slice (some ⟨b, off, none⟩) T cap) T r) (hb : Below w.heap.size w w') {i : Nat} (hi : i < T) : w'.cell? ⟨b, off + i, none⟩ = some (.int .i64 (r i : Nat)) := by
  obtain ⟨b', off', cp', e, h1, h2⟩ := h.below hb
  obtain ⟨⟨rfl, rfl⟩, rfl⟩ : (b = b' ∧ off = off') ∧ cap = cp' := by simpa using e
  exact h2 i hi
theorem RkZ.cellAt {w w' : World} {b off cap T : Nat} {r : Nat → Int} (h : RkZ w (.slice (some ⟨b, off, none⟩) T cap) T r) (hb : Below w.heap.size w w') {i : Nat} (hi : i < T) : w'.cell? ⟨b, off + i, none⟩ = some (.int .i64 (r i)) := by
  obtain ⟨b', off', cp', e, h1, h2⟩ := h.below hb
  obtain ⟨⟨rfl, rfl⟩, rfl⟩ : (b = b' ∧ off = off') ∧ cap = cp' := by simpa using e
  exact h2 i hi
end Go.Proofs.YtkmpnaohdijpnaaGreatDoor
