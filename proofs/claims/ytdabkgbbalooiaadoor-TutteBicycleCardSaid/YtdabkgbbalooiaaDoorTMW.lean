/- kinds.Linear, whole. -/
import Derived.Test.YtdabkgbbalooiaaDoorKLlW
import Derived.Test.YtdabkgbbalooiaaDoorRefW
import Derived.Test.YtdabkgbbalooiaaDoorKRingW
import Derived.Test.YtdabkgbbalooiaaDoorTZW
import Derived.Test.YtdabkgbbalooiaaDoorPlainAll2
import Derived.Test.YtdabkgbbalooiaaDoorKGraphW
namespace Go.Proofs.YtdabkgbbalooiaaDoor
open Go.RowKit

set_option maxRecDepth 20000 in
set_option maxHeartbeats 4000000 in
theorem Linear_any (p c : Int) (v : Value) (R : List (List Int)) (w : World) (h : RowsI w v R) :
    Calls Tryd.prog 5 #[.agg #[.int .i64 p, .int .i64 c, v]] w (Makes w (matR p c R) c.toNat (bigL c.toNat fun s => linB p R c.toNat s)) := by
  have HI := hid h
  obtain ⟨a, cap, rfl, hlen, hc⟩ := h
  clear hc
  have hmf : ∀ (fn : Fn) (first cap : Array Value) (w : World), (Instr.makeFunc fn first cap).run Tryd.prog w = .ok (.func fn first cap) w := fun _ _ _ _ => rfl
  have HB0 : Hid (Below w.heap.size w ((w.alloc (.cells #[.int .i64 p, .int .i64 c, .slice a R.length cap] 24)).alloc (.cells #[.int .i64 0, .slice none 0 0] 30))) := ((Below.refl _ _).alloc (Nat.le_refl _) _).alloc (by simp) _
  have HX := hid (slotM (w := w) (p := p) (c := c) (v := .slice a R.length cap))
  have HSZ : Hid (((w.alloc (.cells #[.int .i64 p, .int .i64 c, .slice a R.length cap] 24)).alloc (.cells #[.int .i64 0, .slice none 0 0] 30)).heap.size = w.heap.size + 2) := by show _ = _; simp
  have CG := hid (CheckMatrix_any p c _ R _ (HI.out.below HB0.out))
  go_enter Tryd.func5, Tryd.ntmps5
  go_wp2_with fail
  refine CG.out.mono ?_
  clear CG
  revert HB0 HX HSZ
  generalize ((w.alloc (.cells #[.int .i64 p, .int .i64 c, .slice a R.length cap] 24)).alloc (.cells #[.int .i64 0, .slice none 0 0] 30)) = W9
  intro HB9 HX9 HSZ9
  rintro e W0 ⟨rfl, hb1⟩
  have HB0 := hid (HB9.out.trans (hb1.mono HB9.out.size))
  have hsz : w.heap.size + 2 ≤ W0.heap.size := by have := hb1.size; have := HSZ9.out; omega
  have HX : Hid (W0.heap[w.heap.size]? = some (.cells #[.int .i64 p, .int .i64 c, .slice a R.length cap] 24 (0, 0)) ∧ W0.heap[w.heap.size + 1]? = some (.cells #[.int .i64 0, .slice none 0 0] 30 (0, 0))) :=
    ⟨(hb1.block _ (by have := HSZ9.out; omega)).trans HX9.out.1, (hb1.block _ (by have := HSZ9.out; omega)).trans HX9.out.2⟩
  clear hb1 HB9 HX9 HSZ9
  obtain ⟨x0, x1, x2⟩ := three_cells HX.out.1
  obtain ⟨y2, y3, g2, g3⟩ := two_cells HX.out.2
  by_cases hg : matR p c R = 0
  · have HGR := hid hg
    rw [hg]
    unfold matR at hg
    split at hg
    · rename_i hgood
      obtain ⟨hm, hc0, hc8, h6, hall⟩ := hgood
      obtain ⟨m, rfl⟩ : ∃ m : Nat, c = m := ⟨c.toNat, by omega⟩
      have hm8 : m ≤ 8 := by omega
      have HP := hid ((mduB_iff p).1 hm)
      have HIN := hid (mtF_in HP.out.pos.1 hall)
      have CO := hid (columns_any p m _ R W0 (HI.out.below HB0.out) hm8 h6 (fun k hk => by have := (row_len hall hk).1; omega))
      clear hg hall hm
      go_wp2_with fail
      refine CO.out.mono ?_
      rintro e W2 ⟨g, rfl, hg2, hC2, hb2⟩
      have hs2 := hb2.size
      have e3 : Below W2.heap.size W2 (W2.alloc (.cells #[.slice (some ⟨g, 0, none⟩) m m] 51)) := (Below.refl _ _).alloc (Nat.le_refl _) _
      have HB3 := hid (HB0.out.trans ((hb2.trans (e3.mono hs2)).mono HB0.out.size))
      have hs3 := World.size_alloc W2 (.cells #[.slice (some ⟨g, 0, none⟩) m m] 51)
      have HX3 : Hid ((W2.alloc (.cells #[.slice (some ⟨g, 0, none⟩) m m] 51)).heap[w.heap.size]? = some (.cells #[.int .i64 p, .int .i64 m, .slice a R.length cap] 24 (0, 0)) ∧ (W2.alloc (.cells #[.slice (some ⟨g, 0, none⟩) m m] 51)).heap[w.heap.size + 1]? = some (.cells #[.int .i64 0, .slice none 0 0] 30 (0, 0))) :=
        ⟨((e3.block _ (by omega)).trans (hb2.block _ (by omega))).trans HX.out.1, ((e3.block _ (by omega)).trans (hb2.block _ (by omega))).trans HX.out.2⟩
      have HA3 := hid (World.alloc_heap_new W2 (.cells #[.slice (some ⟨g, 0, none⟩) m m] 51))
      have HC3 := hid (hC2.below e3)
      clear hC2 hb2 e3 HB0 HX x0 x1 x2 y2 y3 g2 g3 CO
      have hsz2 : w.heap.size + 2 ≤ W2.heap.size := by omega
      obtain ⟨gb, hgb⟩ : ∃ gb, W2.heap.size = gb := ⟨_, rfl⟩
      obtain ⟨W3, hW3⟩ : ∃ W3, W2.alloc (.cells #[.slice (some ⟨g, 0, none⟩) m m] 51) = W3 := ⟨_, rfl⟩
      rw [hW3] at HB3 HX3 HA3 HC3 hs3
      rw [hgb] at HA3 hs3 hsz2
      obtain ⟨n0, n1, n2⟩ := three_cells HX3.out.1
      have OI := hid (ofInd_any m 19 #[.pointer (some ⟨w.heap.size, 0, none⟩), .pointer (some ⟨gb, 0, none⟩)] (fun s => linB p R m s) W3 hm8 (fun args w => enters_of Tryd.func19 (by kernel_rfl) rfl args w)
        (fun x hx w3 hb3 _ => LinQ_ok x w.heap.size gb g m p m _ R w3 HP.out (lt256 hm8 hx) hm8 HIN.out ((hb3.block _ (by omega)).trans HX3.out.1) ((hb3.block _ (by omega)).trans HA3.out) (HC3.out.below hb3)))
      change Hid (Calls _ _ _ _ fun e w' => ∃ r, e = .returned (.agg #[.int .i64 m, r]) ∧ Own _ w' r (bigL m (fun s => linB p R m s)) ∧ _) at OI
      obtain ⟨acc, HACC⟩ : ∃ acc : List Nat, Hid (bigL m (fun s => linB p R m s) = acc) := ⟨_, rfl⟩
      rw [HACC.out] at OI
      clear HC3 HA3 HIN
      have hs4 : w.heap.size + 2 < W3.heap.size := by omega
      clear hs3
      go_wp2_with fail
      refine OI.out.mono ?_
      rintro e w4 ⟨r4, rfl, hr4, hb4⟩
      clear hW3 hgb
      obtain ⟨ra, rc, hr⟩ := ownsRow_form' hr4
      subst hr
      have hxx := (hb4.block (w.heap.size + 1) (by omega)).trans HX3.out.2
      obtain ⟨y2, y3, g2, g3⟩ := two_cells hxx
      have HC := hid (set_two (x := .int .i64 m) (y := .slice ra acc.length rc) hxx)
      have HB4 := hid (HB3.out.trans (hb4.mono HB3.out.size))
      have HD := hid (below_two (b := w.heap.size + 1) (x := .int .i64 m) (y := .slice ra acc.length rc) HB4.out (by omega))
      have HII := hid ((hr4.set2 (b := w.heap.size + 1) (x := .int .i64 m) (y := .slice ra acc.length rc) (by omega)).mono (by omega : w.heap.size ≤ _))
      clear hb4 hr4 hxx
      go_wp2_with fail
      obtain ⟨c0, c1⟩ := HC.out
      refine bodyPost_ret (v := .tuple #[.agg #[.int .i64 m, .slice ra _ rc], .int .i64 0]) ?_ rfl ⟨fun _ => ⟨_, rfl, by rw [Int.toNat_natCast, HACC.out]; exact HII.out, HD.out⟩, fun e => absurd HGR.out e⟩
      simp [results, Tryd.f5, go_sem, c0, c1]
    · cases hg
  · have F1 : Hid (matR p c R = 1) := by
      show _ = _
      unfold matR at hg ⊢
      split at hg
      · exact absurd rfl hg
      · rename_i h; rw [if_neg h]
    have HCC := hid (set_two (x := .int .i64 0) (y := .slice none 0 0) HX.out.2)
    have HD := hid (below_two (b := w.heap.size + 1) (x := .int .i64 0) (y := .slice none 0 0) HB0.out (by omega))
    rw [F1.out]
    go_wp2_with fail
    obtain ⟨c0, c1⟩ := HCC.out
    refine bodyPost_ret (v := .tuple #[.agg #[.int .i64 0, .slice none 0 0], .int .i64 1]) ?_ rfl ⟨fun e => absurd (F1.out.symm.trans e) (by decide), fun _ => ⟨by rw [F1.out], HD.out⟩⟩
    simp [results, Tryd.f5, go_sem, c0, c1]
end Go.Proofs.YtdabkgbbalooiaaDoor

namespace Go.Proofs.YtdabkgbbalooiaaDoor
open Go.RowKit Go.Shelf
attribute [local go_sem] Oper.semAt_some

/-- What closure has reckoned when some have come. -/
def cloTo (r : Nat → Nat) (s : Nat) (l : List Nat) : Nat := l.foldl (fun a i => if r (s ||| 2 ^ i) = r s then a ||| 2 ^ i else a) s
theorem cloTo_snoc (r : Nat → Nat) (s : Nat) (l : List Nat) (i : Nat) : cloTo r s (l ++ [i]) = if r (s ||| bt i) = r s then cloTo r s l ||| bt i else cloTo r s l := by
  unfold cloTo bt
  rw [List.foldl_append]
  rfl
theorem cloTo_lt (r : Nat → Nat) (s : Nat) (hs : s < 256) : ∀ (l : List Nat), (∀ i ∈ l, i < 8) → cloTo r s l < 256 := fun l hl => by
  refine lt_of_bits (n := 8) fun j hj => ?_
  unfold cloTo at hj
  rw [fold_bit (fun i => r (s ||| 2 ^ i) = r s)] at hj
  simp only [Bool.or_eq_true, Bool.and_eq_true, decide_eq_true_eq] at hj
  rcases hj with hj | hj
  · exact bit8 hs hj
  · exact hl j hj.1

end Go.Proofs.YtdabkgbbalooiaaDoor

namespace Go.Proofs.YtdabkgbbalooiaaDoor
open Go.RowKit

end Go.Proofs.YtdabkgbbalooiaaDoor

namespace Go.Proofs.YtdabkgbbalooiaaDoor
open Go.RowKit Go.Shelf
attribute [local go_sem] Oper.semAt_some

end Go.Proofs.YtdabkgbbalooiaaDoor

namespace Go.Proofs.YtdabkgbbalooiaaDoor
open Go.RowKit

theorem Tryd.infoLong : (Tryd.prog.info? 2).map (fun i => (i.zero, i.size, i.bytes)) = some (some (.int .i64 0), 1, 8) := by kernel_rfl
theorem sgn_even {s : Nat} (h : pop s % 2 = 0) : sgn s = 1 := by unfold sgn; rw [if_neg (by omega)]
theorem sgn_odd {s : Nat} (h : pop s % 2 = 1) : sgn s = -1 := by unfold sgn; rw [if_pos h]
theorem tmod_two (p : Nat) : Int.tmod (p : Int) 2 = ((p % 2 : Nat) : Int) := rfl
end Go.Proofs.YtdabkgbbalooiaaDoor

namespace Go.Proofs.YtdabkgbbalooiaaDoor
open Go.RowKit

theorem Tryd.infoRow64 : (Tryd.prog.info? 64).map (fun i => (i.zero, i.size, i.bytes)) = some (some (.slice none 0 0), 1, 24) := by kernel_rfl
theorem Tryd.undRows64 : Tryd.prog.underlying 47 = some (.slice 64) := by kernel_rfl
/-- N rows of M numbers each, laid one behind the other. -/
structure TblM (g : Nat) (w : World) (N M : Nat) (f : Nat → Nat → Int) : Prop where
  head : ∀ i, i < N → w.cell? ⟨g, i, none⟩ = some (.slice (some ⟨g + 1 + i, 0, none⟩) M M)
  row : ∀ i, i < N → TblZ (g + 1 + i) w M (f i)
  size : g < w.heap.size
theorem TblZ.other {g : Nat} {w : World} {T : Nat} {f : Nat → Int} (h : TblZ g w T f) (p : Addr) (v : Value) (hp : p.block ≠ g) : TblZ g (w.setCell p v) T f :=
  ⟨fun i hi => (World.cell?_setCell_other _ _ _ _ (fun e => hp (by rw [e]))).trans (h.cell i hi), fun i => (World.frozen?_setCell _ _ _ _).trans (h.frozen i), by rw [World.size_setCell]; exact h.size⟩
theorem TblM.below {g : Nat} {w w' : World} {N M : Nat} {f : Nat → Nat → Int} (h : TblM g w N M f) (hb : Below w.heap.size w w') : TblM g w' N M f :=
  ⟨fun i hi => (hb.cell (p := ⟨g, i, none⟩) h.size).trans (h.head i hi), fun i hi => (h.row i hi).below hb, Nat.lt_of_lt_of_le h.size hb.size⟩
theorem TblM.congr {g : Nat} {w : World} {N M : Nat} {f f' : Nat → Nat → Int} (h : TblM g w N M f) (hf : ∀ i, i < N → ∀ j, j < M → f' i j = f i j) : TblM g w N M f' :=
  ⟨h.head, fun i hi => (h.row i hi).congr (hf i hi), h.size⟩
theorem TblM.drewN {g : Nat} {w : World} {N M : Nat} {f : Nat → Nat → Int} (h : TblM g w N M f) (n : Nat) : TblM g (w.drewN n) N M f := ⟨h.head, fun i hi => (h.row i hi).drewN n, h.size⟩
theorem TblM.drew {g : Nat} {w : World} {N M : Nat} {f : Nat → Nat → Int} (h : TblM g w N M f) : TblM g w.drew N M f := ⟨h.head, fun i hi => (h.row i hi).drew, h.size⟩
theorem TblM.set {g : Nat} {w : World} {N M : Nat} {f f' : Nat → Nat → Int} (h : TblM g w N M f) (i j : Nat) (x : Int) (hi : i < N) (hj : j < M) (hf : ∀ a, a < N → ∀ b, b < M → f' a b = if i = a ∧ j = b then x else f a b) : TblM g (w.setCell ⟨g + 1 + i, j, none⟩ (.int .i64 x)) N M f' := by
  refine ⟨fun a ha => (World.cell?_setCell_other _ _ _ _ (fun e => ?_)).trans (h.head a ha), fun a ha => ?_, by rw [World.size_setCell]; exact h.size⟩
  · have := congrArg Addr.block e
    simp at this
    omega
  · by_cases e : i = a
    · subst e
      exact (h.row i hi).set j x hj fun b hb => by rw [hf i hi b hb]; simp
    · refine ((h.row a ha).other _ _ (by show g + 1 + i ≠ g + 1 + a; omega)).congr fun b hb => ?_
      rw [hf a ha b hb]; simp [e]
/-- The rows while they are laid. -/
structure TblH (g : Nat) (w : World) (N M k : Nat) : Prop where
  done : ∀ i, i < k → w.cell? ⟨g, i, none⟩ = some (.slice (some ⟨g + 1 + i, 0, none⟩) M M)
  todo : ∀ i, k ≤ i → i < N → w.cell? ⟨g, i, none⟩ = some (.slice none 0 0)
  frozen : ∀ i, w.frozen? ⟨g, i, none⟩ = false
  row : ∀ i, i < k → TblZ (g + 1 + i) w M fun _ => 0
  size : w.heap.size = g + 1 + k
theorem TblH.new (w : World) (N M : Nat) (t : TypeId) : TblH w.heap.size (w.alloc (.cells (madeCells #[.slice none 0 0] N) t)) N M 0 := by
  refine ⟨fun i hi => by omega, fun i _ hi => ?_, fun i => World.frozen?_alloc_at _ _ _ _ rfl, fun i hi => by omega, by simp⟩
  rw [World.cell?_alloc_at _ _ _ _ rfl]
  simp [madeCells, hi, Nat.mod_one]
theorem TblH.step {g : Nat} {w : World} {N M k : Nat} (h : TblH g w N M k) (hk : k < N) (t : TypeId) : TblH g ((w.alloc (.cells (madeCells #[.int .i64 0] M) t)).setCell ⟨g, k, none⟩ (.slice (some ⟨w.heap.size, 0, none⟩) M M)) N M (k + 1) := by
  have hs := h.size
  have hb : Below w.heap.size w (w.alloc (.cells (madeCells #[.int .i64 0] M) t)) := (Below.refl _ _).alloc (Nat.le_refl _) _
  have hc : ∀ i, (w.alloc (.cells (madeCells #[.int .i64 0] M) t)).cell? ⟨g, i, none⟩ = w.cell? ⟨g, i, none⟩ := fun i => hb.cell (p := ⟨g, i, none⟩) (by show g < _; omega)
  refine ⟨fun i hi => ?_, fun i hi hi2 => ?_, fun i => ?_, fun i hi => ?_, by simp [hs]; omega⟩
  · by_cases e : k = i
    · subst e
      rw [World.cell?_setCell_same' _ _ _ (by rw [hc, h.todo k (Nat.le_refl _) hk]; rfl), hs]
    · rw [World.cell?_setCell_other _ _ _ _ (by simp <;> omega), hc]
      exact h.done i (by omega)
  · rw [World.cell?_setCell_other _ _ _ _ (by simp <;> omega), hc]
    exact h.todo i (by omega) hi2
  · exact (World.frozen?_setCell _ _ _ _).trans ((froz_below hb (b := g) (off := i) (by omega)).trans (h.frozen i))
  · by_cases e : k = i
    · subst e
      have := (TblZ.new w M t).other ⟨g, k, none⟩ (.slice (some ⟨w.heap.size, 0, none⟩) M M) (by show g ≠ w.heap.size; omega)
      rwa [← hs]
    · exact ((h.row i (by omega)).below hb).other _ _ (by show g ≠ g + 1 + i; omega)
theorem TblH.full {g : Nat} {w : World} {N M : Nat} (h : TblH g w N M N) : TblM g w N M fun _ _ => 0 := ⟨h.done, h.row, by have := h.size; omega⟩
end Go.Proofs.YtdabkgbbalooiaaDoor
