/- kinds.Linear. -/
import Derived.Test.YtgdcfogikchjeaaKLcQ
import Derived.Test.YtgdcfogikchjeaaKGraph2W
namespace Go.Proofs.Ytgdcfogikchjeaa
open Go.RowKit

theorem OwnC.mono {B B' : Nat} {w : World} {v : Value} {l : List (Nat → Int)} (h : OwnC B w v l) (hb : B' ≤ B) : OwnC B' w v l := Go.Joins.ownsRow_le h hb
/-- Are these columns free? -/
def freeC (p : Int) (l : List (Nat → Int)) : Bool := freeTo p (fun k => l.getD k fun _ => 0) l.length
theorem areFree_own {p : Int} (hp : isP p) (B : Nat) (l : List (Nat → Int)) (hl : l.length ≤ 8) (hin : ∀ f ∈ l, ∀ r, 0 ≤ f r ∧ f r < p) (v : Value) (w : World) (h : OwnC B w v l) :
    Calls Try.prog 67 #[.int .i64 p, v] w fun e w' => e = .returned (.bool (freeC p l)) ∧ Below B w w' := by
  rcases h.cases with ⟨rfl, rfl⟩ | ⟨g, cap, rfl, hB, hC⟩
  · refine (areFree_nil p w).mono ?_
    rintro e w' ⟨rfl, h2⟩
    obtain rfl := h2.symm
    exact ⟨rfl, Below.refl _ _⟩
  · refine areFree_any hp B g l.length cap (fun k r => ?_) w hC hB hl
    by_cases hk : k < l.length
    · refine hin _ ?_ r
      simp only [List.getD, List.getElem?_eq_getElem hk, Option.getD_some]
      exact List.getElem_mem _
    · have := hp.pos
      simp [List.getD, hk]
      omega
def linB (p : Int) (R : List (List Int)) (c s : Nat) : Bool := freeC p (pickL (mtF R) s c)
set_option maxRecDepth 20000 in
set_option maxHeartbeats 2000000 in
theorem LinQ_ok (s b b2 g c : Nat) (p x : Int) (v : Value) (R : List (List Int)) (w : World) (hp : isP p) (hs : s < 256) (hc8 : c ≤ 8) (hin : ∀ j i, 0 ≤ mtF R j i ∧ mtF R j i < p)
    (hb : w.heap[b]? = some (.cells #[.int .i64 p, .int .i64 x, v] 27 (0, 0))) (hb2 : w.heap[b2]? = some (.cells #[.slice (some ⟨g, 0, none⟩) c c] 104 (0, 0))) (h : ColsAt w g c (mtF R)) :
    Calls Try.prog 66 #[.int .i64 s, .pointer (some ⟨b, 0, none⟩), .pointer (some ⟨b2, 0, none⟩)] w fun e w' => e = .returned (.bool (linB p R c s)) ∧ Below w.heap.size w w' := by
  have hbl : b < w.heap.size := (Array.getElem?_eq_some_iff.1 hb).1
  have hbl2 : b2 < w.heap.size := (Array.getElem?_eq_some_iff.1 hb2).1
  obtain ⟨z0, _, _⟩ := three_cells hb
  have y0 : w.cell? ⟨b2, 0, none⟩ = some (.slice (some ⟨g, 0, none⟩) c c) := by simp [World.cell?, hb2]
  have PK : Hid (∀ w2, Below w.heap.size w w2 → Calls Try.prog 68 #[.slice (some ⟨g, 0, none⟩) c c, .int .i64 s] w2 fun e w' => ∃ v, e = .returned v ∧ OwnC w.heap.size w' v (pickL (mtF R) s c) ∧ Below w.heap.size w w' ∧ w'.cell? ⟨b, 0, none⟩ = some (.int .i64 p)) := fun w2 h2 => (picked_any g c c s (mtF R) w2 (h.below h2) hc8 hs).mono fun e w' ⟨v, h3, h4, h5⟩ =>
    have h6 := h2.trans (h5.mono h2.size)
    ⟨v, h3, h4.mono h2.size, h6, (h6.cell (p := ⟨b, 0, none⟩) hbl).trans z0⟩
  have AF : Hid (∀ w2 v, OwnC w.heap.size w2 v (pickL (mtF R) s c) → Calls Try.prog 67 #[.int .i64 p, v] w2 fun e w' => e = .returned (.bool (linB p R c s)) ∧ Below w.heap.size w2 w') := fun w2 v h2 => areFree_own hp _ _ (Nat.le_trans (pickL_len _ _ _) hc8) (fun f hf r => by
    obtain ⟨j, _, rfl⟩ := List.mem_map.1 hf
    exact hin j r) v w2 h2
  clear hb hb2 h hin hp
  generalize pickL (mtF R) s c = l at *
  generalize linB p R c s = ans at *
  go_enter Try.func66, Try.ntmps66
  go_wp2_with fail
  go_region_with (first | (go_at_call 68; refine (PK.out _ (Below.refl _ w).drew).mono ?_; rintro e w4 ⟨v4, rfl, ho4, hb4, hz4⟩; have HO4 := hid ho4; have HB4 := hid hb4; clear ho4 hb4) | (go_at_call 67; refine (AF.out _ _ HO4.out).mono ?_; rintro e w5 ⟨rfl, hb5⟩; have HB5 := hid hb5; clear hb5))
  all_goals go_wp2_with fail
  all_goals go_ret
  all_goals exact ⟨rfl, HB4.out.trans HB5.out⟩
theorem slotM {w : World} {p c : Int} {v : Value} : ((w.alloc (.cells #[.int .i64 p, .int .i64 c, v] 27)).alloc (.cells #[.int .i64 0, .slice none 0 0] 33)).heap[w.heap.size]? = some (.cells #[.int .i64 p, .int .i64 c, v] 27 (0, 0)) ∧ ((w.alloc (.cells #[.int .i64 p, .int .i64 c, v] 27)).alloc (.cells #[.int .i64 0, .slice none 0 0] 33)).heap[w.heap.size + 1]? = some (.cells #[.int .i64 0, .slice none 0 0] 33 (0, 0)) := by
  refine ⟨?_, ?_⟩
  · rw [Below.heap_alloc _ _ _ (by simp)]
    exact World.alloc_heap_new w _
  · have := World.alloc_heap_new (w.alloc (.cells #[.int .i64 p, .int .i64 c, v] 27)) (.cells #[.int .i64 0, .slice none 0 0] 33)
    rwa [World.size_alloc] at this
theorem row_len {p c : Int} {R : List (List Int)} (h : R.all (rowB p c) = true) {k : Nat} (hk : k < R.length) : ((R.getD k []).length : Int) = c ∧ ∀ x ∈ R.getD k [], 0 ≤ x ∧ x < p := by
  have := List.all_eq_true.1 h (R.getD k []) (by simp only [List.getD, List.getElem?_eq_getElem hk, Option.getD_some]; exact List.getElem_mem _)
  unfold rowB inB at this
  rw [Bool.and_eq_true, beq_iff_eq, List.all_eq_true] at this
  exact ⟨this.1, fun x hx => by simpa using this.2 x hx⟩
theorem mtF_in {p c : Int} {R : List (List Int)} (hp : 0 < p) (h : R.all (rowB p c) = true) (j i : Nat) : 0 ≤ mtF R j i ∧ mtF R j i < p := by
  unfold mtF
  by_cases hi : i < R.length
  · by_cases hj : j < (R.getD i []).length
    · refine (row_len h hi).2 _ ?_
      generalize R.getD i [] = r at *
      simp only [List.getD, List.getElem?_eq_getElem hj, Option.getD_some]
      exact List.getElem_mem _
    · have : (R.getD i []).getD j 0 = 0 := by
        generalize R.getD i [] = r at *
        simp [List.getD, hj]
      rw [this]
      omega
  · have : R.getD i [] = [] := by simp [List.getD, hi]
    rw [this]
    simp
    omega
end Go.Proofs.Ytgdcfogikchjeaa

namespace Go.Proofs.Ytgdcfogikchjeaa
open Go.RowKit

set_option maxRecDepth 20000 in
set_option maxHeartbeats 4000000 in
theorem Linear_any (p c : Int) (v : Value) (R : List (List Int)) (w : World) (h : RowsI w v R) :
    Calls Try.prog 48 #[.agg #[.int .i64 p, .int .i64 c, v]] w (Makes w (matR p c R) c.toNat (bigL c.toNat fun s => linB p R c.toNat s)) := by
  have HI := hid h
  obtain ⟨a, cap, rfl, hlen, hc⟩ := h
  clear hc
  have hmf : ∀ (fn : Fn) (first cap : Array Value) (w : World), (Instr.makeFunc fn first cap).run Try.prog w = .ok (.func fn first cap) w := fun _ _ _ _ => rfl
  have HB0 : Hid (Below w.heap.size w ((w.alloc (.cells #[.int .i64 p, .int .i64 c, .slice a R.length cap] 27)).alloc (.cells #[.int .i64 0, .slice none 0 0] 33))) := ((Below.refl _ _).alloc (Nat.le_refl _) _).alloc (by simp) _
  have HX := hid (slotM (w := w) (p := p) (c := c) (v := .slice a R.length cap))
  have HSZ : Hid (((w.alloc (.cells #[.int .i64 p, .int .i64 c, .slice a R.length cap] 27)).alloc (.cells #[.int .i64 0, .slice none 0 0] 33)).heap.size = w.heap.size + 2) := by show _ = _; simp
  have CG := hid (CheckMatrix_any p c _ R _ (HI.out.below HB0.out))
  go_enter Try.func48, Try.ntmps48
  go_wp2_with fail
  refine CG.out.mono ?_
  clear CG
  revert HB0 HX HSZ
  generalize ((w.alloc (.cells #[.int .i64 p, .int .i64 c, .slice a R.length cap] 27)).alloc (.cells #[.int .i64 0, .slice none 0 0] 33)) = W9
  intro HB9 HX9 HSZ9
  rintro e W0 ⟨rfl, hb1⟩
  have HB0 := hid (HB9.out.trans (hb1.mono HB9.out.size))
  have hsz : w.heap.size + 2 ≤ W0.heap.size := by have := hb1.size; have := HSZ9.out; omega
  have HX : Hid (W0.heap[w.heap.size]? = some (.cells #[.int .i64 p, .int .i64 c, .slice a R.length cap] 27 (0, 0)) ∧ W0.heap[w.heap.size + 1]? = some (.cells #[.int .i64 0, .slice none 0 0] 33 (0, 0))) :=
    ⟨(hb1.block _ (by have := HSZ9.out; omega)).trans HX9.out.1, (hb1.block _ (by have := HSZ9.out; omega)).trans HX9.out.2⟩
  clear hb1 HB9 HX9 HSZ9
  obtain ⟨x0, x1, x2⟩ := three_cells HX.out.1
  obtain ⟨y2, y3, g2, g3⟩ := two_cells HX.out.2
  by_cases hg : matR p c R = 0
  · have HGR := hid hg
    rw [hg]
    unfold matR at hg
    split at hg
    · rename_i hgood
      obtain ⟨hm, hc0, hc8, h6, hall⟩ := hgood
      obtain ⟨m, rfl⟩ : ∃ m : Nat, c = m := ⟨c.toNat, by omega⟩
      have hm8 : m ≤ 8 := by omega
      have HP := hid ((mduB_iff p).1 hm)
      have HIN := hid (mtF_in HP.out.pos.1 hall)
      have CO := hid (columns_any p m _ R W0 (HI.out.below HB0.out) hm8 h6 (fun k hk => by have := (row_len hall hk).1; omega))
      clear hg hall hm
      go_wp2_with fail
      refine CO.out.mono ?_
      rintro e W2 ⟨g, rfl, hg2, hC2, hb2⟩
      have hs2 := hb2.size
      have e3 : Below W2.heap.size W2 (W2.alloc (.cells #[.slice (some ⟨g, 0, none⟩) m m] 104)) := (Below.refl _ _).alloc (Nat.le_refl _) _
      have HB3 := hid (HB0.out.trans ((hb2.trans (e3.mono hs2)).mono HB0.out.size))
      have hs3 := World.size_alloc W2 (.cells #[.slice (some ⟨g, 0, none⟩) m m] 104)
      have HX3 : Hid ((W2.alloc (.cells #[.slice (some ⟨g, 0, none⟩) m m] 104)).heap[w.heap.size]? = some (.cells #[.int .i64 p, .int .i64 m, .slice a R.length cap] 27 (0, 0)) ∧ (W2.alloc (.cells #[.slice (some ⟨g, 0, none⟩) m m] 104)).heap[w.heap.size + 1]? = some (.cells #[.int .i64 0, .slice none 0 0] 33 (0, 0))) :=
        ⟨((e3.block _ (by omega)).trans (hb2.block _ (by omega))).trans HX.out.1, ((e3.block _ (by omega)).trans (hb2.block _ (by omega))).trans HX.out.2⟩
      have HA3 := hid (World.alloc_heap_new W2 (.cells #[.slice (some ⟨g, 0, none⟩) m m] 104))
      have HC3 := hid (hC2.below e3)
      clear hC2 hb2 e3 HB0 HX x0 x1 x2 y2 y3 g2 g3 CO
      have hsz2 : w.heap.size + 2 ≤ W2.heap.size := by omega
      obtain ⟨gb, hgb⟩ : ∃ gb, W2.heap.size = gb := ⟨_, rfl⟩
      obtain ⟨W3, hW3⟩ : ∃ W3, W2.alloc (.cells #[.slice (some ⟨g, 0, none⟩) m m] 104) = W3 := ⟨_, rfl⟩
      rw [hW3] at HB3 HX3 HA3 HC3 hs3
      rw [hgb] at HA3 hs3 hsz2
      obtain ⟨n0, n1, n2⟩ := three_cells HX3.out.1
      have OI := hid (ofInd_any m 66 #[.pointer (some ⟨w.heap.size, 0, none⟩), .pointer (some ⟨gb, 0, none⟩)] (fun s => linB p R m s) W3 hm8 (fun args w => enters_of Try.func66 (by kernel_rfl) rfl args w)
        (fun x hx w3 hb3 _ => LinQ_ok x w.heap.size gb g m p m _ R w3 HP.out (lt256 hm8 hx) hm8 HIN.out ((hb3.block _ (by omega)).trans HX3.out.1) ((hb3.block _ (by omega)).trans HA3.out) (HC3.out.below hb3)))
      change Hid (Calls _ _ _ _ fun e w' => ∃ r, e = .returned (.agg #[.int .i64 m, r]) ∧ Own _ w' r (bigL m (fun s => linB p R m s)) ∧ _) at OI
      obtain ⟨acc, HACC⟩ : ∃ acc : List Nat, Hid (bigL m (fun s => linB p R m s) = acc) := ⟨_, rfl⟩
      rw [HACC.out] at OI
      clear HC3 HA3 HIN
      have hs4 : w.heap.size + 2 < W3.heap.size := by omega
      clear hs3
      go_wp2_with fail
      refine OI.out.mono ?_
      rintro e w4 ⟨r4, rfl, hr4, hb4⟩
      clear hW3 hgb
      obtain ⟨ra, rc, hr⟩ := ownsRow_form' hr4
      subst hr
      have hxx := (hb4.block (w.heap.size + 1) (by omega)).trans HX3.out.2
      obtain ⟨y2, y3, g2, g3⟩ := two_cells hxx
      have HC := hid (set_two (x := .int .i64 m) (y := .slice ra acc.length rc) hxx)
      have HB4 := hid (HB3.out.trans (hb4.mono HB3.out.size))
      have HD := hid (below_two (b := w.heap.size + 1) (x := .int .i64 m) (y := .slice ra acc.length rc) HB4.out (by omega))
      have HII := hid ((hr4.set2 (b := w.heap.size + 1) (x := .int .i64 m) (y := .slice ra acc.length rc) (by omega)).mono (by omega : w.heap.size ≤ _))
      clear hb4 hr4 hxx
      go_wp2_with fail
      obtain ⟨c0, c1⟩ := HC.out
      refine bodyPost_ret (v := .tuple #[.agg #[.int .i64 m, .slice ra _ rc], .int .i64 0]) ?_ rfl ⟨fun _ => ⟨_, rfl, by rw [Int.toNat_natCast, HACC.out]; exact HII.out, HD.out⟩, fun e => absurd HGR.out e⟩
      simp [results, Try.f48, go_sem, c0, c1]
    · cases hg
  · have F1 : Hid (matR p c R = 1) := by
      show _ = _
      unfold matR at hg ⊢
      split at hg
      · exact absurd rfl hg
      · rename_i h; rw [if_neg h]
    have HCC := hid (set_two (x := .int .i64 0) (y := .slice none 0 0) HX.out.2)
    have HD := hid (below_two (b := w.heap.size + 1) (x := .int .i64 0) (y := .slice none 0 0) HB0.out (by omega))
    rw [F1.out]
    go_wp2_with fail
    obtain ⟨c0, c1⟩ := HCC.out
    refine bodyPost_ret (v := .tuple #[.agg #[.int .i64 0, .slice none 0 0], .int .i64 1]) ?_ rfl ⟨fun e => absurd (F1.out.symm.trans e) (by decide), fun _ => ⟨by rw [F1.out], HD.out⟩⟩
    simp [results, Try.f48, go_sem, c0, c1]
end Go.Proofs.Ytgdcfogikchjeaa
