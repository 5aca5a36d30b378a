/- field.across. -/
import Derived.Test.YtgdcfogikchjeaaFdMQ
import Derived.Test.YtgdcfogikchjeaaPlainAll
import Derived.Test.YtgdcfogikchjeaaConcW
import Derived.Test.YtgdcfogikchjeaaMkToW
import Derived.Test.YtgdcfogikchjeaaFdBQ
namespace Go.Proofs.Ytgdcfogikchjeaa
open Go.RowKit

/-- The lists across a reduced matrix. -/
def acL (p : Int) (c : Nat) (Q : List (List Int)) : List (List Int) := matL (nbL c Q.length fun i => bgN c (rowF Q i)).length c (acG p c Q.length (rowF Q) fun i => bgN c (rowF Q i))
theorem idx_beg {p : Int} {c k : Nat} {F : Nat → Nat → Int} {b : Nat → Nat} (h : Rref p c k F b) {i : Nat} (hi : i < k) {zs : List Int} (hz : zs.length = c) (hzs : ∀ r, r < c → zs.getD r 0 = F i r) {r : Int} (hr : IdxAt zs 1 r) : r = b i := by
  have hb := h.lt i hi
  rcases hr with ⟨-, h1⟩ | ⟨j, rfl, h1, h2, h3⟩
  · exact absurd ((hzs _ hb).trans (h.one i hi)) (h1 (b i) (by omega))
  · rw [hzs j (by omega)] at h2
    rcases Nat.lt_trichotomy j (b i) with hl | hl | hl
    · rw [h.fst i hi j hl] at h2; omega
    · omega
    · exact absurd ((hzs _ hb).trans (h.one i hi)) (h3 (b i) hl)
theorem has_nb {k : Nat} {b : Nat → Nat} (t : Nat) : hasI ((List.range k).map fun i => (b i : Int)) (t : Int) = !nbB k b t := by
  rw [Bool.eq_iff_iff]
  simp [hasI, nbB]
  exact ⟨fun ⟨x, h1, h2⟩ => ⟨x, h1, by omega⟩, fun ⟨x, h1, h2⟩ => ⟨x, h1, by omega⟩⟩
theorem TblZ.low {g D : Nat} {w w' : World} {T : Nat} {f : Nat → Int} (h : TblZ g w T f) (hb : Below D w w') (hg : g < D) : TblZ g w' T f :=
  ⟨fun i hi => (hb.cell (p := ⟨g, i, none⟩) hg).trans (h.cell i hi), fun i => (froz_below hb hg).trans (h.frozen i), Nat.lt_of_lt_of_le h.size hb.size⟩
theorem RowB.drew {W : World} {b n : Nat} {f : Nat → Int} (h : RowB W b n f) : RowB W.drew b n f := ⟨h.tbl.drew, h.ty⟩
theorem TotS.save {W W' : World} {B z : Nat} {v : Value} {n k : Nat} {f : Nat → Nat → Int} (h : TotS W B v n k f) (hs : Save (fun j => j = z) W W') (hz : z < B) (hty : ∀ c, W.heap[z]? ≠ some (.cells c 3 (0, 0))) : TotS W' B v n k f := by
  obtain ⟨us, h1, ⟨h2, h3⟩, h4⟩ := h
  refine ⟨us, h1, ⟨h2, h3.imp_right ?_⟩, fun i hi => ?_⟩
  · rintro ⟨g, cap, cur, hv, hg, hheap, hr⟩
    exact ⟨g, cap, cur, hv, hg, (hs.block g (Array.getElem?_eq_some_iff.1 hheap).1 (by omega)).trans hheap, hr⟩
  · obtain ⟨b, h5, h6⟩ := h4 i hi
    exact ⟨b, h5, h6.same (hs.block b h6.tbl.size fun e => by
      obtain ⟨c, hc⟩ := h6.ty
      rw [e] at hc
      exact hty c hc) hs.size⟩
end Go.Proofs.Ytgdcfogikchjeaa

namespace Go.Proofs.Ytgdcfogikchjeaa
open Go.RowKit

set_option maxRecDepth 20000 in
set_option maxHeartbeats 2000000 in
theorem concat_one (g b off c cap : Nat) (w : World) (hg : g < w.heap.size) (hb : b < w.heap.size) (h0 : w.cell? ⟨g, 0, none⟩ = some (.slice none 0 0)) (h1 : w.cell? ⟨g, 1, none⟩ = some (.slice (some ⟨b, off, none⟩) 1 c)) (h2 : w.cell? ⟨b, off, none⟩ = some (.int .i64 1)) :
    Calls Try.prog 47 #[.slice (some ⟨g, 0, none⟩) 2 cap] w fun e w' => ∃ r, e = .returned r ∧ Own w.heap.size w' r [1] ∧ Below w.heap.size w w' := by
  obtain ⟨i0, hi, hz0, hz1, hz2⟩ := info_parts Try.infoInt
  have HG := hid (Grow_any 1 w (by omega) (by omega))
  go_enter Try.func47, Try.ntmps47
  go_wp2_with fail
  refine wp_loop_rounds 3 ?_
  rw [rounds_succ]
  go_wp2_with fail
  rw [rounds_succ]
  go_wp2_with fail
  rw [rounds_succ]
  go_wp2_with fail
  refine HG.out.mono ?_
  rintro e w1 ⟨r1, rfl, hr1, hb1⟩
  have HR1 := hid hr1
  have HB1 := hid hb1
  have y0 := (hb1.cell (p := ⟨g, 0, none⟩) hg).trans h0
  have y1 := (hb1.cell (p := ⟨g, 1, none⟩) hg).trans h1
  have y2 := (hb1.cell (p := ⟨b, off, none⟩) hb).trans h2
  have hs1 := hb1.size
  have HN : Hid (∀ j u, (V [1])[j]? = some u → w1.cell? ((⟨b, off, none⟩ : Addr).add j) = some u) := fun j u hu => by
    match j with
    | 0 => cases hu; exact y2
    | j + 1 => simp [V] at hu
  rcases Go.Joins.ownsRow_forms hr1 with ⟨rfl, -⟩ | ⟨gr, rc, rfl⟩
  · clear hr1 hb1 h0 h1 h2 HG
    go_wp2_with fail
    refine wp_loop_rounds 3 ?_
    rw [rounds_succ]
    go_wp2_with fail
    rw [rounds_succ]
    go_wp2_with (refine wpList_append_own _ rfl _ _ 31 rfl w.heap.size 3 i0 (.int .i64 0) 1 8 Try.underlying31 hi hz0 hz1 hz2 rfl (by decide) _ 0 _ rfl HR1.out ⟨b, off, none⟩ 1 c (V [1]) rfl rfl HN.out (by intro u hu; obtain ⟨y, _, rfl⟩ := List.mem_map.1 hu; rfl) (by unfold maxLen; omega) (by omega) hs1 ?_; intro v' w2 hown' hgrow _)
    have HO2 : Hid (Own w.heap.size w2 v' [1]) := hown'
    have HX2 : Hid (Below w.heap.size w w2) := HB1.out.grown hgrow hs1 (fun j hj => (World.ownsRow.lt HR1.out j hj).1)
    clear hown' hgrow
    go_wp2_with fail
    rw [rounds_succ]
    go_wp2_with fail
    go_ret
    exact ⟨_, rfl, HO2.out, HX2.out⟩
  · clear hr1 hb1 h0 h1 h2 HG
    go_wp2_with fail
    refine wp_loop_rounds 3 ?_
    rw [rounds_succ]
    go_wp2_with fail
    rw [rounds_succ]
    go_wp2_with (refine wpList_append_own _ rfl _ _ 31 rfl w.heap.size 3 i0 (.int .i64 0) 1 8 Try.underlying31 hi hz0 hz1 hz2 rfl (by decide) _ 0 _ rfl HR1.out ⟨b, off, none⟩ 1 c (V [1]) rfl rfl HN.out (by intro u hu; obtain ⟨y, _, rfl⟩ := List.mem_map.1 hu; rfl) (by unfold maxLen; omega) (by omega) hs1 ?_; intro v' w2 hown' hgrow _)
    have HO2 : Hid (Own w.heap.size w2 v' [1]) := hown'
    have HX2 : Hid (Below w.heap.size w w2) := HB1.out.grown hgrow hs1 (fun j hj => (World.ownsRow.lt HR1.out j hj).1)
    clear hown' hgrow
    go_wp2_with fail
    rw [rounds_succ]
    go_wp2_with fail
    go_ret
    exact ⟨_, rfl, HO2.out, HX2.out⟩
/-- One row, of one 1. -/
def OneR (w : World) (v : Value) : Prop := ∃ g cap rb rc, v = .slice (some ⟨g, 0, none⟩) 1 cap ∧ g < w.heap.size ∧ rb < w.heap.size ∧ 1 ≤ rc ∧ w.cell? ⟨g, 0, none⟩ = some (.slice (some ⟨rb, 0, none⟩) 1 rc) ∧ w.cell? ⟨rb, 0, none⟩ = some (.int .i64 1)
theorem own_cap {W : World} {B : Nat} {ty : TypeId} {g c : Nat} {xs : List Value} (h : W.ownsRow B ty 1 (.slice (some ⟨g, 0, none⟩) 1 c) 1 xs) : 1 ≤ c := by
  obtain ⟨-, ⟨e, -⟩ | ⟨g', cap, cur, e, -, -, h1, -⟩⟩ := h
  · cases e
  · cases e
    exact h1
theorem own_one {W : World} {B : Nat} {ty : TypeId} {v x : Value} (h : W.ownsRow B ty 1 v 1 [x]) : ∃ g c, v = .slice (some ⟨g, 0, none⟩) 1 c ∧ B ≤ g ∧ g < W.heap.size ∧ W.cell? ⟨g, 0, none⟩ = some x := by
  rcases Go.Joins.ownsRow_forms h with ⟨rfl, h0⟩ | ⟨g, c, rfl⟩
  · cases h0
  · have := World.ownsRow.cellAt h 0 (by omega)
    exact ⟨g, c, rfl, (World.ownsRow.lt h g rfl).1, (World.ownsRow.lt h g rfl).2, by simpa using this⟩
set_option maxRecDepth 20000 in
set_option maxHeartbeats 2000000 in
theorem lengthened_one (lb lc nb nc : Nat) (w : World) (hlb : lb < w.heap.size) (hnb : nb < w.heap.size) (h0 : w.cell? ⟨lb, 0, none⟩ = some (.slice none 0 0)) (h1 : w.cell? ⟨nb, 0, none⟩ = some (.int .i64 1)) :
    Calls Try.prog 44 #[.slice (some ⟨lb, 0, none⟩) 1 lc, .slice (some ⟨nb, 0, none⟩) 1 nc] w fun e w' => ∃ r, e = .returned r ∧ OneR w' r ∧ Below w.heap.size w w' := by
  obtain ⟨i0, hi, hz0, hz1, hz2⟩ := info_parts Try.infoRowI
  have b1 := (Below.refl _ w).alloc (Nat.le_refl _) (.cells #[.int .i64 1] 3)
  have s1 := World.size_alloc w (.cells #[.int .i64 1] 3)
  have x1 := (Boxed.new w 3 (.int .i64 1)).cell
  obtain ⟨W1, hW1⟩ : ∃ W1, w.alloc (.cells #[.int .i64 1] 3) = W1 := ⟨_, rfl⟩
  rw [hW1] at b1 s1 x1
  have b2 := (Below.refl _ W1).alloc (Nat.le_refl _) (.cells #[.slice none 0 0, .slice (some ⟨w.heap.size, 0, none⟩) 1 1] 31)
  obtain ⟨y0, y1, -, -⟩ := two_cells (World.alloc_heap_new W1 (.cells #[.slice none 0 0, .slice (some ⟨w.heap.size, 0, none⟩) 1 1] 31))
  have s2 := World.size_alloc W1 (.cells #[.slice none 0 0, .slice (some ⟨w.heap.size, 0, none⟩) 1 1] 31)
  rw [s1] at y0 y1 s2
  have x2 := (b2.cell (p := ⟨w.heap.size, 0, none⟩) (by show w.heap.size < _; omega)).trans x1
  have CO := hid (concat_one (w.heap.size + 1) w.heap.size 0 1 2 _ (by omega) (by omega) y0 y1 x2)
  have B2 := hid (b1.trans (b2.mono b1.size))
  subst hW1
  clear b1 s1 x1 b2 y0 y1 s2 x2
  go_enter Try.func44, Try.ntmps44
  go_wp2_with fail
  refine wp_loop_rounds 2 ?_
  rw [rounds_succ]
  go_wp2_with fail
  refine wp_loop_rounds 2 ?_
  rw [rounds_succ]
  go_wp2_with fail
  refine CO.out.mono ?_
  rintro e w3 ⟨r, rfl, ho, hb3⟩
  obtain ⟨rb, rc, rfl, hrb, hrb2, hrc⟩ := own_one ho
  have hrc1 := own_cap ho
  have hb3' := B2.out.trans (hb3.mono B2.out.size)
  have HB3 := hid hb3'
  have hs3 : w.heap.size ≤ w3.heap.size := hb3'.size
  have y1 := (hb3'.cell (p := ⟨nb, 0, none⟩) hnb).trans h1
  have y0 := (hb3'.cell (p := ⟨lb, 0, none⟩) hlb).trans h0
  have HRC := hid hrc
  have hc1 : (w3.alloc (.cells #[.slice (some ⟨rb, 0, none⟩) 1 rc] 31)).cell? ⟨w3.heap.size, 0, none⟩ = some (.slice (some ⟨rb, 0, none⟩) 1 rc) := (Boxed.new w3 31 _).cell
  clear ho hb3 hb3' hrc CO B2 h0 h1
  go_wp2_with (at_builtin; refine wpList_append_own _ rfl _ _ 25 rfl w.heap.size 31 i0 (.slice none 0 0) 1 24 Try.undRowsI hi hz0 hz1 hz2 rfl (by decide) _ 0 [] rfl (World.ownsRow_nil _ _ _ _) ⟨w3.heap.size, 0, none⟩ 1 1 [.slice (some ⟨rb, 0, none⟩) 1 rc] rfl rfl ?d1 ?d2 ?d3 ?d4 ?d5 ?_)
  all_goals first | exact cell_one_new _ _ _ | rfl | (intro u hu; simp at hu; subst hu; rfl) | (unfold maxLen; omega) | omega | (simp; omega) | skip
  intro v' w7 hown' hgrow _
  obtain ⟨g, cg, rfl, hg1, hg2, hg3⟩ := own_one hown'
  have hb7 : Below w3.heap.size w3 w7 := ((Below.refl _ w3).alloc (Nat.le_refl _) _).grown hgrow (by simp) (fun j hj => by cases hj)
  have FIN : Hid (OneR w7 (.slice (some ⟨g, 0, none⟩) 1 cg) ∧ Below w.heap.size w w7) := ⟨⟨g, cg, rb, rc, rfl, hg2, Nat.lt_of_lt_of_le hrb2 hb7.size, hrc1, hg3, (hb7.cell (p := ⟨rb, 0, none⟩) hrb2).trans HRC.out⟩, HB3.out.trans (hb7.mono HB3.out.size)⟩
  clear hown' hgrow hb7 hg1 hg2 hg3
  go_wp2_with fail
  rw [rounds_succ]
  go_wp2_with fail
  rw [rounds_succ]
  go_wp2_with fail
  go_ret
  exact ⟨_, rfl, FIN.out.1, FIN.out.2⟩
end Go.Proofs.Ytgdcfogikchjeaa
