/- kinds.Linear, whole. -/
import Derived.Test.YtlmpeacgjafcjaaKLlQ
namespace Go.Proofs.Ytlmpeacgjafcjaa
open Go.RowKit

set_option maxRecDepth 20000 in
set_option maxHeartbeats 4000000 in
theorem Linear_any (p c : Int) (v : Value) (R : List (List Int)) (w : World) (h : RowsI w v R) :
    Calls Try.prog 8 #[.agg #[.int .i64 p, .int .i64 c, v]] w (Makes w (matR p c R) c.toNat (bigL c.toNat fun s => linB p R c.toNat s)) := by
  have HI := hid h
  obtain ⟨a, cap, rfl, hlen, hc⟩ := h
  clear hc
  have hmf : ∀ (fn : Fn) (first cap : Array Value) (w : World), (Instr.makeFunc fn first cap).run Try.prog w = .ok (.func fn first cap) w := fun _ _ _ _ => rfl
  have HB0 : Hid (Below w.heap.size w ((w.alloc (.cells #[.int .i64 p, .int .i64 c, .slice a R.length cap] 27)).alloc (.cells #[.int .i64 0, .slice none 0 0] 30))) := ((Below.refl _ _).alloc (Nat.le_refl _) _).alloc (by simp) _
  have HX := hid (slotM (w := w) (p := p) (c := c) (v := .slice a R.length cap))
  have HSZ : Hid (((w.alloc (.cells #[.int .i64 p, .int .i64 c, .slice a R.length cap] 27)).alloc (.cells #[.int .i64 0, .slice none 0 0] 30)).heap.size = w.heap.size + 2) := by show _ = _; simp
  have CG := hid (CheckMatrix_any p c _ R _ (HI.out.below HB0.out))
  go_enter Try.func8, Try.ntmps8
  go_wp2_with fail
  refine CG.out.mono ?_
  clear CG
  revert HB0 HX HSZ
  generalize ((w.alloc (.cells #[.int .i64 p, .int .i64 c, .slice a R.length cap] 27)).alloc (.cells #[.int .i64 0, .slice none 0 0] 30)) = W9
  intro HB9 HX9 HSZ9
  rintro e W0 ⟨rfl, hb1⟩
  have HB0 := hid (HB9.out.trans (hb1.mono HB9.out.size))
  have hsz : w.heap.size + 2 ≤ W0.heap.size := by have := hb1.size; have := HSZ9.out; omega
  have HX : Hid (W0.heap[w.heap.size]? = some (.cells #[.int .i64 p, .int .i64 c, .slice a R.length cap] 27 (0, 0)) ∧ W0.heap[w.heap.size + 1]? = some (.cells #[.int .i64 0, .slice none 0 0] 30 (0, 0))) :=
    ⟨(hb1.block _ (by have := HSZ9.out; omega)).trans HX9.out.1, (hb1.block _ (by have := HSZ9.out; omega)).trans HX9.out.2⟩
  clear hb1 HB9 HX9 HSZ9
  obtain ⟨x0, x1, x2⟩ := three_cells HX.out.1
  obtain ⟨y2, y3, g2, g3⟩ := two_cells HX.out.2
  by_cases hg : matR p c R = 0
  · have HGR := hid hg
    rw [hg]
    unfold matR at hg
    split at hg
    · rename_i hgood
      obtain ⟨hm, hc0, hc8, h6, hall⟩ := hgood
      obtain ⟨m, rfl⟩ : ∃ m : Nat, c = m := ⟨c.toNat, by omega⟩
      have hm8 : m ≤ 8 := by omega
      have HP := hid ((mduB_iff p).1 hm)
      have HIN := hid (mtF_in HP.out.pos.1 hall)
      have CO := hid (columns_any p m _ R W0 (HI.out.below HB0.out) hm8 h6 (fun k hk => by have := (row_len hall hk).1; omega))
      clear hg hall hm
      go_wp2_with fail
      refine CO.out.mono ?_
      rintro e W2 ⟨g, rfl, hg2, hC2, hb2⟩
      have hs2 := hb2.size
      have e3 : Below W2.heap.size W2 (W2.alloc (.cells #[.slice (some ⟨g, 0, none⟩) m m] 49)) := (Below.refl _ _).alloc (Nat.le_refl _) _
      have HB3 := hid (HB0.out.trans ((hb2.trans (e3.mono hs2)).mono HB0.out.size))
      have hs3 := World.size_alloc W2 (.cells #[.slice (some ⟨g, 0, none⟩) m m] 49)
      have HX3 : Hid ((W2.alloc (.cells #[.slice (some ⟨g, 0, none⟩) m m] 49)).heap[w.heap.size]? = some (.cells #[.int .i64 p, .int .i64 m, .slice a R.length cap] 27 (0, 0)) ∧ (W2.alloc (.cells #[.slice (some ⟨g, 0, none⟩) m m] 49)).heap[w.heap.size + 1]? = some (.cells #[.int .i64 0, .slice none 0 0] 30 (0, 0))) :=
        ⟨((e3.block _ (by omega)).trans (hb2.block _ (by omega))).trans HX.out.1, ((e3.block _ (by omega)).trans (hb2.block _ (by omega))).trans HX.out.2⟩
      have HA3 := hid (World.alloc_heap_new W2 (.cells #[.slice (some ⟨g, 0, none⟩) m m] 49))
      have HC3 := hid (hC2.below e3)
      clear hC2 hb2 e3 HB0 HX x0 x1 x2 y2 y3 g2 g3 CO
      have hsz2 : w.heap.size + 2 ≤ W2.heap.size := by omega
      obtain ⟨gb, hgb⟩ : ∃ gb, W2.heap.size = gb := ⟨_, rfl⟩
      obtain ⟨W3, hW3⟩ : ∃ W3, W2.alloc (.cells #[.slice (some ⟨g, 0, none⟩) m m] 49) = W3 := ⟨_, rfl⟩
      rw [hW3] at HB3 HX3 HA3 HC3 hs3
      rw [hgb] at HA3 hs3 hsz2
      obtain ⟨n0, n1, n2⟩ := three_cells HX3.out.1
      have OI := hid (ofInd_any m 20 #[.pointer (some ⟨w.heap.size, 0, none⟩), .pointer (some ⟨gb, 0, none⟩)] (fun s => linB p R m s) W3 hm8 (fun args w => enters_of Try.func20 (by kernel_rfl) rfl args w)
        (fun x hx w3 hb3 _ => LinQ_ok x w.heap.size gb g m p m _ R w3 HP.out (lt256 hm8 hx) hm8 HIN.out ((hb3.block _ (by omega)).trans HX3.out.1) ((hb3.block _ (by omega)).trans HA3.out) (HC3.out.below hb3)))
      change Hid (Calls _ _ _ _ fun e w' => ∃ r, e = .returned (.agg #[.int .i64 m, r]) ∧ Own _ w' r (bigL m (fun s => linB p R m s)) ∧ _) at OI
      obtain ⟨acc, HACC⟩ : ∃ acc : List Nat, Hid (bigL m (fun s => linB p R m s) = acc) := ⟨_, rfl⟩
      rw [HACC.out] at OI
      clear HC3 HA3 HIN
      have hs4 : w.heap.size + 2 < W3.heap.size := by omega
      clear hs3
      go_wp2_with fail
      refine OI.out.mono ?_
      rintro e w4 ⟨r4, rfl, hr4, hb4⟩
      clear hW3 hgb
      obtain ⟨ra, rc, hr⟩ := ownsRow_form' hr4
      subst hr
      have hxx := (hb4.block (w.heap.size + 1) (by omega)).trans HX3.out.2
      obtain ⟨y2, y3, g2, g3⟩ := two_cells hxx
      have HC := hid (set_two (x := .int .i64 m) (y := .slice ra acc.length rc) hxx)
      have HB4 := hid (HB3.out.trans (hb4.mono HB3.out.size))
      have HD := hid (below_two (b := w.heap.size + 1) (x := .int .i64 m) (y := .slice ra acc.length rc) HB4.out (by omega))
      have HII := hid ((hr4.set2 (b := w.heap.size + 1) (x := .int .i64 m) (y := .slice ra acc.length rc) (by omega)).mono (by omega : w.heap.size ≤ _))
      clear hb4 hr4 hxx
      go_wp2_with fail
      obtain ⟨c0, c1⟩ := HC.out
      refine bodyPost_ret (v := .tuple #[.agg #[.int .i64 m, .slice ra _ rc], .int .i64 0]) ?_ rfl ⟨fun _ => ⟨_, rfl, by rw [Int.toNat_natCast, HACC.out]; exact HII.out, HD.out⟩, fun e => absurd HGR.out e⟩
      simp [results, Try.f8, go_sem, c0, c1]
    · cases hg
  · have F1 : Hid (matR p c R = 1) := by
      show _ = _
      unfold matR at hg ⊢
      split at hg
      · exact absurd rfl hg
      · rename_i h; rw [if_neg h]
    have HCC := hid (set_two (x := .int .i64 0) (y := .slice none 0 0) HX.out.2)
    have HD := hid (below_two (b := w.heap.size + 1) (x := .int .i64 0) (y := .slice none 0 0) HB0.out (by omega))
    rw [F1.out]
    go_wp2_with fail
    obtain ⟨c0, c1⟩ := HCC.out
    refine bodyPost_ret (v := .tuple #[.agg #[.int .i64 0, .slice none 0 0], .int .i64 1]) ?_ rfl ⟨fun e => absurd (F1.out.symm.trans e) (by decide), fun _ => ⟨by rw [F1.out], HD.out⟩⟩
    simp [results, Try.f8, go_sem, c0, c1]
end Go.Proofs.Ytlmpeacgjafcjaa
