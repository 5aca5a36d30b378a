/- kinds.Graphic. -/
import Derived.Test.YtlmpeacgjafcjaaKGraphQ
namespace Go.Proofs.Ytlmpeacgjafcjaa
open Go.RowKit

theorem slotG {w : World} {n : Int} {v : Value} : ((w.alloc (.cells #[.int .i64 n, v] 24)).alloc (.cells #[.int .i64 0, .slice none 0 0] 30)).heap[w.heap.size]? = some (.cells #[.int .i64 n, v] 24 (0, 0)) ∧ ((w.alloc (.cells #[.int .i64 n, v] 24)).alloc (.cells #[.int .i64 0, .slice none 0 0] 30)).heap[w.heap.size + 1]? = some (.cells #[.int .i64 0, .slice none 0 0] 30 (0, 0)) := by
  refine ⟨?_, ?_⟩
  · rw [Below.heap_alloc _ _ _ (by simp)]
    exact World.alloc_heap_new w _
  · have := World.alloc_heap_new (w.alloc (.cells #[.int .i64 n, v] 24)) (.cells #[.int .i64 0, .slice none 0 0] 30)
    rwa [World.size_alloc] at this
set_option maxHeartbeats 800000 in
theorem GraphQ_ok (s b : Nat) (n : Int) (v : Value) (E : List (Nat × Nat)) (w : World) (hs : s < 256) (hE : ∀ j, j < E.length → ea E j < 7 ∧ eb E j < 7) (hb : w.heap[b]? = some (.cells #[.int .i64 n, v] 24 (0, 0))) (h : EdgesAt w v E) :
    Calls Try.prog 16 #[.int .i64 s, .pointer (some ⟨b, 0, none⟩)] w fun e w' => e = .returned (.bool (!ringB E s)) ∧ Below w.heap.size w w' := by
  have HR := hid (hasRing_any n v E s w hs hE h)
  obtain ⟨a, cap, rfl, _, _⟩ := h
  obtain ⟨z0, z1, _, _⟩ := two_cells hb
  go_enter Try.func16, Try.ntmps16
  go_wp2_with fail
  refine HR.out.mono ?_
  rintro e w' ⟨rfl, hb'⟩
  have HB := hid hb'
  clear hb'
  go_wp2_with fail
  go_ret
  exact ⟨rfl, HB.out⟩
set_option maxRecDepth 20000 in
set_option maxHeartbeats 1600000 in
theorem Graphic_any (n : Int) (v : Value) (F : List (Int × Int)) (w : World) (h : EdgesI w v F) :
    Calls Try.prog 4 #[.agg #[.int .i64 n, v]] w (Makes w (graphR n F) F.length (bigL F.length fun s => !ringB (natE F) s)) := by
  have HI := hid h
  obtain ⟨a, cap, rfl, hlen, hc⟩ := h
  clear hc
  have hmf : ∀ (fn : Fn) (first cap : Array Value) (w : World), (Instr.makeFunc fn first cap).run Try.prog w = .ok (.func fn first cap) w := fun _ _ _ _ => rfl
  have HB0 : Hid (Below w.heap.size w ((w.alloc (.cells #[.int .i64 n, .slice a F.length cap] 24)).alloc (.cells #[.int .i64 0, .slice none 0 0] 30))) := ((Below.refl _ _).alloc (Nat.le_refl _) _).alloc (by simp) _
  have HX := hid (slotG (w := w) (n := n) (v := .slice a F.length cap))
  have HSZ : Hid (((w.alloc (.cells #[.int .i64 n, .slice a F.length cap] 24)).alloc (.cells #[.int .i64 0, .slice none 0 0] 30)).heap.size = w.heap.size + 2) := by show _ = _; simp
  have CG := hid (CheckGraph_any n _ F _ (HI.out.below HB0.out))
  go_enter Try.func4, Try.ntmps4
  go_wp2_with fail
  refine CG.out.mono ?_
  clear CG
  revert HB0 HX HSZ
  generalize ((w.alloc (.cells #[.int .i64 n, .slice a F.length cap] 24)).alloc (.cells #[.int .i64 0, .slice none 0 0] 30)) = W9
  intro HB9 HX9 HSZ9
  rintro e W0 ⟨rfl, hb1⟩
  have HB0 := hid (HB9.out.trans (hb1.mono HB9.out.size))
  have hsz : w.heap.size + 2 ≤ W0.heap.size := by have := hb1.size; have := HSZ9.out; omega
  have HX : Hid (W0.heap[w.heap.size]? = some (.cells #[.int .i64 n, .slice a F.length cap] 24 (0, 0)) ∧ W0.heap[w.heap.size + 1]? = some (.cells #[.int .i64 0, .slice none 0 0] 30 (0, 0))) :=
    ⟨(hb1.block _ (by have := HSZ9.out; omega)).trans HX9.out.1, (hb1.block _ (by have := HSZ9.out; omega)).trans HX9.out.2⟩
  clear hb1 HB9 HX9 HSZ9
  obtain ⟨x0, x1, _, _⟩ := two_cells HX.out.1
  obtain ⟨y2, y3, g2, g3⟩ := two_cells HX.out.2
  by_cases hg : graphR n F = 0
  · have HGR := hid hg
    rw [hg]
    unfold graphR at hg
    split at hg
    · rename_i hgood
      obtain ⟨hn1, hn7, h8, hall⟩ := hgood
      have HEN := hid (HI.out.nat h8 hall)
      have HNL := hid (natE_lt hn7 hall)
      have OI := hid (ofInd_any F.length 16 #[.pointer (some ⟨w.heap.size, 0, none⟩)] (fun s => !ringB (natE F) s) W0 h8 (fun args w => enters_of Try.func16 (by kernel_rfl) rfl args w)
        (fun x hx w3 hb3 _ => GraphQ_ok x w.heap.size n _ (natE F) w3 (lt256 h8 hx) HNL.out ((hb3.block _ (by omega)).trans HX.out.1) ((HEN.out.below HB0.out).below hb3)))
      change Hid (Calls _ _ _ _ fun e w' => ∃ r, e = .returned (.agg #[.int .i64 F.length, r]) ∧ Own _ w' r (bigL F.length (fun s => !ringB (natE F) s)) ∧ _) at OI
      obtain ⟨acc, HACC⟩ : ∃ acc : List Nat, Hid (bigL F.length (fun s => !ringB (natE F) s) = acc) := ⟨_, rfl⟩
      rw [HACC.out] at OI
      clear hg hall hn1 hn7
      go_wp2_with fail
      refine OI.out.mono ?_
      rintro e w4 ⟨r4, rfl, hr4, hb4⟩
      obtain ⟨ra, rc, hr⟩ := ownsRow_form' hr4
      subst hr
      have hxx := (hb4.block (w.heap.size + 1) (by omega)).trans HX.out.2
      obtain ⟨y2, y3, g2, g3⟩ := two_cells hxx
      have HC := hid (set_two (x := .int .i64 F.length) (y := .slice ra acc.length rc) hxx)
      have HB4 := hid (HB0.out.trans (hb4.mono HB0.out.size))
      have HD := hid (below_two (b := w.heap.size + 1) (x := .int .i64 F.length) (y := .slice ra acc.length rc) HB4.out (by omega))
      have HII := hid ((hr4.set2 (b := w.heap.size + 1) (x := .int .i64 F.length) (y := .slice ra acc.length rc) (by omega)).mono (by omega : w.heap.size ≤ _))
      clear hb4 hr4 hxx
      go_wp2_with fail
      obtain ⟨c0, c1⟩ := HC.out
      refine bodyPost_ret (v := .tuple #[.agg #[.int .i64 F.length, .slice ra _ rc], .int .i64 0]) ?_ rfl ⟨fun _ => ⟨_, rfl, by rw [HACC.out]; exact HII.out, HD.out⟩, fun e => absurd HGR.out e⟩
      simp [results, Try.f4, go_sem, c0, c1]
    · cases hg
  · have F1 : Hid (graphR n F = 1) := by
      show _ = _
      unfold graphR at hg ⊢
      split at hg
      · exact absurd rfl hg
      · rename_i h; rw [if_neg h]
    have HCC := hid (set_two (x := .int .i64 0) (y := .slice none 0 0) HX.out.2)
    have HD := hid (below_two (b := w.heap.size + 1) (x := .int .i64 0) (y := .slice none 0 0) HB0.out (by omega))
    rw [F1.out]
    go_wp2_with fail
    obtain ⟨c0, c1⟩ := HCC.out
    refine bodyPost_ret (v := .tuple #[.agg #[.int .i64 0, .slice none 0 0], .int .i64 1]) ?_ rfl ⟨fun e => absurd (F1.out.symm.trans e) (by decide), fun _ => ⟨by rw [F1.out], HD.out⟩⟩
    simp [results, Try.f4, go_sem, c0, c1]
end Go.Proofs.Ytlmpeacgjafcjaa
