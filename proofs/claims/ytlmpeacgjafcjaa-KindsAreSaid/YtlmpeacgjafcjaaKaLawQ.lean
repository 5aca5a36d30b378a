/- rotakeep.KindsAre. -/
import Derived.Test.YtlmpeacgjafcjaaKaAQ
import Derived.Test.YtlmpeacgjafcjaaRefQ
import Derived.Test.YtlmpeacgjafcjaaOpnQ
import Derived.Test.YtlmpeacgjafcjaaGsLawQ
namespace Go.Proofs.Ytlmpeacgjafcjaa
open Go.RowKit

theorem one_edge : bigL 1 (fun s => !ringB (natE [(0, 1)]) s) = [1] := by decide +kernel
theorem one_graph : graphR 2 [(0, 1)] = 0 := by decide +kernel
theorem edge_lit (w : World) : EdgesI (w.alloc (.cells #[.int .i64 0, .int .i64 1] 35)) (.slice (some ⟨w.heap.size, 0, none⟩) 1 1) [(0, 1)] := by
  refine ⟨_, _, rfl, by decide, fun _ => ⟨_, _, rfl, by simp, fun i hi => ?_⟩⟩
  obtain rfl : i = 0 := by simp at hi; exact hi
  constructor
  · rw [World.cell?_alloc_at _ _ _ _ rfl]; rfl
  · rw [World.cell?_alloc_at _ _ _ _ rfl]; rfl
structure Boxes (w V : World) (n p c n3 : Int) (v v2 v4 v5 : Value) : Prop where
  g : V.heap[w.heap.size]? = some (.cells #[.int .i64 n, v] 24 (0, 0))
  x : V.heap[w.heap.size + 1]? = some (.cells #[.int .i64 p, .int .i64 c, v2] 27 (0, 0))
  n : V.heap[w.heap.size + 1 + 1]? = some (.cells #[.int .i64 n3] 3 (0, 0))
  l : V.heap[w.heap.size + 1 + 1 + 1]? = some (.cells #[v4] 28 (0, 0))
  k : V.heap[w.heap.size + 1 + 1 + 1 + 1]? = some (.cells #[v5] 28 (0, 0))
theorem Boxes.below {w V V' : World} {n p c n3 : Int} {v v2 v4 v5 : Value} (h : Boxes w V n p c n3 v v2 v4 v5) (hb : Below V.heap.size V V') : Boxes w V' n p c n3 v v2 v4 v5 :=
  ⟨(hb.block _ (Array.getElem?_eq_some_iff.1 h.g).1).trans h.g, (hb.block _ (Array.getElem?_eq_some_iff.1 h.x).1).trans h.x, (hb.block _ (Array.getElem?_eq_some_iff.1 h.n).1).trans h.n, (hb.block _ (Array.getElem?_eq_some_iff.1 h.l).1).trans h.l, (hb.block _ (Array.getElem?_eq_some_iff.1 h.k).1).trans h.k⟩
theorem Boxes.new (w : World) (n p c n3 : Int) (v v2 v4 v5 : Value) : Boxes w (((((w.alloc (.cells #[.int .i64 n, v] 24)).alloc (.cells #[.int .i64 p, .int .i64 c, v2] 27)).alloc (.cells #[.int .i64 n3] 3)).alloc (.cells #[v4] 28)).alloc (.cells #[v5] 28)) n p c n3 v v2 v4 v5 := by
  refine ⟨?_, ?_, ?_, ?_, ?_⟩
  · rw [Below.heap_alloc _ _ _ (by first | (simp; omega) | simp), Below.heap_alloc _ _ _ (by first | (simp; omega) | simp), Below.heap_alloc _ _ _ (by first | (simp; omega) | simp), Below.heap_alloc _ _ _ (by first | (simp; omega) | simp)]
    exact World.alloc_heap_new w _
  · rw [Below.heap_alloc _ _ _ (by first | (simp; omega) | simp), Below.heap_alloc _ _ _ (by first | (simp; omega) | simp), Below.heap_alloc _ _ _ (by first | (simp; omega) | simp)]
    have := World.alloc_heap_new (w.alloc (.cells #[.int .i64 n, v] 24)) (.cells #[.int .i64 p, .int .i64 c, v2] 27)
    rwa [World.size_alloc] at this
  · rw [Below.heap_alloc _ _ _ (by first | (simp; omega) | simp), Below.heap_alloc _ _ _ (by first | (simp; omega) | simp)]
    have := World.alloc_heap_new ((w.alloc (.cells #[.int .i64 n, v] 24)).alloc (.cells #[.int .i64 p, .int .i64 c, v2] 27)) (.cells #[.int .i64 n3] 3)
    rwa [World.size_alloc, World.size_alloc] at this
  · rw [Below.heap_alloc _ _ _ (by first | (simp; omega) | simp)]
    have := World.alloc_heap_new (((w.alloc (.cells #[.int .i64 n, v] 24)).alloc (.cells #[.int .i64 p, .int .i64 c, v2] 27)).alloc (.cells #[.int .i64 n3] 3)) (.cells #[v4] 28)
    rwa [World.size_alloc, World.size_alloc, World.size_alloc] at this
  · have := World.alloc_heap_new ((((w.alloc (.cells #[.int .i64 n, v] 24)).alloc (.cells #[.int .i64 p, .int .i64 c, v2] 27)).alloc (.cells #[.int .i64 n3] 3)).alloc (.cells #[v4] 28)) (.cells #[v5] 28)
    rwa [World.size_alloc, World.size_alloc, World.size_alloc, World.size_alloc] at this
set_option maxRecDepth 20000 in
set_option maxHeartbeats 4000000 in
theorem kare_law (n : Int) (v : Value) (F : List (Int × Int)) (p c : Int) (v2 : Value) (R : List (List Int)) (n3 : Int) (v4 : Value) (zs : List Int) (v5 : Value) (ms : List Int) (w : World) (h : EdgesI w v F) (h2 : RowsI w v2 R) (h4 : Ints w v4 zs) (h5 : Ints w v5 ms) (hcp : ∀ a L c, v4 = .slice a L c → L ≤ c) :
    Calls Try.prog 3 #[.agg #[.int .i64 n, v], .agg #[.int .i64 p, .int .i64 c, v2], .int .i64 n3, v4, v5] w fun e w' => e = .returned (.bool true) ∧ Below w.heap.size w w' := by
  have HI := hid h
  have HI2 := hid h2
  have HI4 := hid h4
  have HI5 := hid h5
  have HCP := hid hcp
  clear hcp
  obtain ⟨a, cap, rfl, -, -⟩ := h
  obtain ⟨a2, cap2, rfl, -, -⟩ := h2
  obtain ⟨a4, cap4, rfl, -, -⟩ := h4
  obtain ⟨a5, cap5, rfl, -, -⟩ := h5
  have B0 : Hid (Below w.heap.size w (((((w.alloc (.cells #[.int .i64 n, .slice a F.length cap] 24)).alloc (.cells #[.int .i64 p, .int .i64 c, .slice a2 R.length cap2] 27)).alloc (.cells #[.int .i64 n3] 3)).alloc (.cells #[.slice a4 zs.length cap4] 28)).alloc (.cells #[.slice a5 ms.length cap5] 28))) := (((((Below.refl _ _).alloc (Nat.le_refl _) _).alloc (by simp) _).alloc (by simp; omega) _).alloc (by simp; omega) _).alloc (by simp; omega) _
  have X0 := hid (Boxes.new w n p c n3 (.slice a F.length cap) (.slice a2 R.length cap2) (.slice a4 zs.length cap4) (.slice a5 ms.length cap5))
  have S0 : Hid ((((((w.alloc (.cells #[.int .i64 n, .slice a F.length cap] 24)).alloc (.cells #[.int .i64 p, .int .i64 c, .slice a2 R.length cap2] 27)).alloc (.cells #[.int .i64 n3] 3)).alloc (.cells #[.slice a4 zs.length cap4] 28)).alloc (.cells #[.slice a5 ms.length cap5] 28)).heap.size = w.heap.size + 5) := by show _ = _; simp
  have BG : Hid (Below (((((w.alloc (.cells #[.int .i64 n, .slice a F.length cap] 24)).alloc (.cells #[.int .i64 p, .int .i64 c, .slice a2 R.length cap2] 27)).alloc (.cells #[.int .i64 n3] 3)).alloc (.cells #[.slice a4 zs.length cap4] 28)).alloc (.cells #[.slice a5 ms.length cap5] 28)).heap.size (((((w.alloc (.cells #[.int .i64 n, .slice a F.length cap] 24)).alloc (.cells #[.int .i64 p, .int .i64 c, .slice a2 R.length cap2] 27)).alloc (.cells #[.int .i64 n3] 3)).alloc (.cells #[.slice a4 zs.length cap4] 28)).alloc (.cells #[.slice a5 ms.length cap5] 28)) ((((((w.alloc (.cells #[.int .i64 n, .slice a F.length cap] 24)).alloc (.cells #[.int .i64 p, .int .i64 c, .slice a2 R.length cap2] 27)).alloc (.cells #[.int .i64 n3] 3)).alloc (.cells #[.slice a4 zs.length cap4] 28)).alloc (.cells #[.slice a5 ms.length cap5] 28)).alloc (.cells #[.int .i64 0, .int .i64 1] 35))) := (Below.refl _ _).alloc (Nat.le_refl _) _
  have GR := hid ((Graphic_any 2 _ [(0, 1)] ((((((w.alloc (.cells #[.int .i64 n, .slice a F.length cap] 24)).alloc (.cells #[.int .i64 p, .int .i64 c, .slice a2 R.length cap2] 27)).alloc (.cells #[.int .i64 n3] 3)).alloc (.cells #[.slice a4 zs.length cap4] 28)).alloc (.cells #[.slice a5 ms.length cap5] 28)).alloc (.cells #[.int .i64 0, .int .i64 1] 35)) (edge_lit (((((w.alloc (.cells #[.int .i64 n, .slice a F.length cap] 24)).alloc (.cells #[.int .i64 p, .int .i64 c, .slice a2 R.length cap2] 27)).alloc (.cells #[.int .i64 n3] 3)).alloc (.cells #[.slice a4 zs.length cap4] 28)).alloc (.cells #[.slice a5 ms.length cap5] 28)))).mono fun e w' hm => hm.1 one_graph)
  rw [show ([((0 : Int), (1 : Int))] : List (Int × Int)).length = 1 from rfl, one_edge, S0.out] at GR
  have hz0 := S0.out
  go_enter Try.func3, Try.ntmps3
  go_wp2_with fail
  refine GR.out.mono ?_
  rintro e w1 ⟨r1, rfl, ho1, hb1'⟩
  obtain ⟨a1, cap1, hq1⟩ := ownsRow_form' ho1
  subst hq1
  have hp1 := ho1.ints (Nat.le_trans (by decide) (by decide : 256 ≤ 17592186044416))
  have hk1 := below_boxR w1 #[.int .i64 1, .slice a1 [1].length cap1]
  have hb0 := BG.out.trans (hb1'.mono BG.out.size)
  have hb1 := hb0.trans (hk1.mono hb0.size)
  have hz1 := World.size_alloc w1 (.cells #[.int .i64 1, .slice a1 [1].length cap1] 30)
  have B1 := hid (B0.out.trans (hb1.mono B0.out.size))
  have P1 := hid (box_cells (w := w1) (n := 1) (u := .slice a1 [1].length cap1) (Below.refl _ _))
  have X1 := hid (X0.out.below hb1)
  have M1 := hid (hp1.below hk1)
  clear hb1 hb1' hk1 hp1 ho1 X0 GR hb0 BG B0 S0 hz0
  obtain ⟨p0, p1⟩ := P1.out
  go_wp2_with fail
  have SM := hid (Same_any _ _ (N [1]) [1] _ (M1.out.below (below_alloc _ _)) (Ints.lit1 (w1.alloc (.cells #[.int .i64 1, .slice a1 [1].length cap1] 30)) 1))
  rw [show decide (N [1] = [1]) = true from rfl, hz1] at SM
  refine SM.out.mono ?_
  rintro e w2 ⟨rfl, hb2⟩
  have hb2' : Below (w1.alloc (.cells #[.int .i64 1, .slice a1 [1].length cap1] 30)).heap.size (w1.alloc (.cells #[.int .i64 1, .slice a1 [1].length cap1] 30)) w2 := ((Below.refl _ _).alloc (Nat.le_refl _) _).trans (hb2.mono (by simp))
  have B2 := hid (B1.out.trans (hb2'.mono B1.out.size))
  have X2 := hid (X1.out.below hb2')
  clear hb2 hb2' SM p0 p1 P1 M1 X1 B1 hz1
  have BV : Hid (Below w.heap.size w (w2.alloc (.cells #[.func (.func 6) #[] #[.pointer (some ⟨w.heap.size, 0, none⟩)], .func (.func 7) #[] #[.pointer (some ⟨w.heap.size + 1, 0, none⟩)], .func (.func 9) #[] #[.pointer (some ⟨w.heap.size + 1 + 1, 0, none⟩), .pointer (some ⟨w.heap.size + 1 + 1 + 1, 0, none⟩)], .func (.func 11) #[] #[.pointer (some ⟨w.heap.size + 1 + 1, 0, none⟩), .pointer (some ⟨w.heap.size + 1 + 1 + 1, 0, none⟩), .pointer (some ⟨w.heap.size + 1 + 1 + 1 + 1, 0, none⟩)]] 37))) := B2.out.alloc B2.out.size _
  have XV := hid (X2.out.below ((Below.refl _ _).alloc (Nat.le_refl _) (.cells #[.func (.func 6) #[] #[.pointer (some ⟨w.heap.size, 0, none⟩)], .func (.func 7) #[] #[.pointer (some ⟨w.heap.size + 1, 0, none⟩)], .func (.func 9) #[] #[.pointer (some ⟨w.heap.size + 1 + 1, 0, none⟩), .pointer (some ⟨w.heap.size + 1 + 1 + 1, 0, none⟩)], .func (.func 11) #[] #[.pointer (some ⟨w.heap.size + 1 + 1, 0, none⟩), .pointer (some ⟨w.heap.size + 1 + 1 + 1, 0, none⟩), .pointer (some ⟨w.heap.size + 1 + 1 + 1 + 1, 0, none⟩)]] 37)))
  have hV : w2.heap.size < (w2.alloc (.cells #[.func (.func 6) #[] #[.pointer (some ⟨w.heap.size, 0, none⟩)], .func (.func 7) #[] #[.pointer (some ⟨w.heap.size + 1, 0, none⟩)], .func (.func 9) #[] #[.pointer (some ⟨w.heap.size + 1 + 1, 0, none⟩), .pointer (some ⟨w.heap.size + 1 + 1 + 1, 0, none⟩)], .func (.func 11) #[] #[.pointer (some ⟨w.heap.size + 1 + 1, 0, none⟩), .pointer (some ⟨w.heap.size + 1 + 1 + 1, 0, none⟩), .pointer (some ⟨w.heap.size + 1 + 1 + 1 + 1, 0, none⟩)]] 37)).heap.size := by simp
  have f0 : Hid ((w2.alloc (.cells #[.func (.func 6) #[] #[.pointer (some ⟨w.heap.size, 0, none⟩)], .func (.func 7) #[] #[.pointer (some ⟨w.heap.size + 1, 0, none⟩)], .func (.func 9) #[] #[.pointer (some ⟨w.heap.size + 1 + 1, 0, none⟩), .pointer (some ⟨w.heap.size + 1 + 1 + 1, 0, none⟩)], .func (.func 11) #[] #[.pointer (some ⟨w.heap.size + 1 + 1, 0, none⟩), .pointer (some ⟨w.heap.size + 1 + 1 + 1, 0, none⟩), .pointer (some ⟨w.heap.size + 1 + 1 + 1 + 1, 0, none⟩)]] 37)).cell? ⟨w2.heap.size, 0, none⟩ = some (.func (.func 6) #[] #[.pointer (some ⟨w.heap.size, 0, none⟩)])) := by show _ = _; rw [World.cell?_alloc_at _ _ _ _ rfl]; rfl
  have f1 : Hid ((w2.alloc (.cells #[.func (.func 6) #[] #[.pointer (some ⟨w.heap.size, 0, none⟩)], .func (.func 7) #[] #[.pointer (some ⟨w.heap.size + 1, 0, none⟩)], .func (.func 9) #[] #[.pointer (some ⟨w.heap.size + 1 + 1, 0, none⟩), .pointer (some ⟨w.heap.size + 1 + 1 + 1, 0, none⟩)], .func (.func 11) #[] #[.pointer (some ⟨w.heap.size + 1 + 1, 0, none⟩), .pointer (some ⟨w.heap.size + 1 + 1 + 1, 0, none⟩), .pointer (some ⟨w.heap.size + 1 + 1 + 1 + 1, 0, none⟩)]] 37)).cell? ⟨w2.heap.size, 1, none⟩ = some (.func (.func 7) #[] #[.pointer (some ⟨w.heap.size + 1, 0, none⟩)])) := by show _ = _; rw [World.cell?_alloc_at _ _ _ _ rfl]; rfl
  have f2 : Hid ((w2.alloc (.cells #[.func (.func 6) #[] #[.pointer (some ⟨w.heap.size, 0, none⟩)], .func (.func 7) #[] #[.pointer (some ⟨w.heap.size + 1, 0, none⟩)], .func (.func 9) #[] #[.pointer (some ⟨w.heap.size + 1 + 1, 0, none⟩), .pointer (some ⟨w.heap.size + 1 + 1 + 1, 0, none⟩)], .func (.func 11) #[] #[.pointer (some ⟨w.heap.size + 1 + 1, 0, none⟩), .pointer (some ⟨w.heap.size + 1 + 1 + 1, 0, none⟩), .pointer (some ⟨w.heap.size + 1 + 1 + 1 + 1, 0, none⟩)]] 37)).cell? ⟨w2.heap.size, 2, none⟩ = some (.func (.func 9) #[] #[.pointer (some ⟨w.heap.size + 1 + 1, 0, none⟩), .pointer (some ⟨w.heap.size + 1 + 1 + 1, 0, none⟩)])) := by show _ = _; rw [World.cell?_alloc_at _ _ _ _ rfl]; rfl
  have f3 : Hid ((w2.alloc (.cells #[.func (.func 6) #[] #[.pointer (some ⟨w.heap.size, 0, none⟩)], .func (.func 7) #[] #[.pointer (some ⟨w.heap.size + 1, 0, none⟩)], .func (.func 9) #[] #[.pointer (some ⟨w.heap.size + 1 + 1, 0, none⟩), .pointer (some ⟨w.heap.size + 1 + 1 + 1, 0, none⟩)], .func (.func 11) #[] #[.pointer (some ⟨w.heap.size + 1 + 1, 0, none⟩), .pointer (some ⟨w.heap.size + 1 + 1 + 1, 0, none⟩), .pointer (some ⟨w.heap.size + 1 + 1 + 1 + 1, 0, none⟩)]] 37)).cell? ⟨w2.heap.size, 3, none⟩ = some (.func (.func 11) #[] #[.pointer (some ⟨w.heap.size + 1 + 1, 0, none⟩), .pointer (some ⟨w.heap.size + 1 + 1 + 1, 0, none⟩), .pointer (some ⟨w.heap.size + 1 + 1 + 1 + 1, 0, none⟩)])) := by show _ = _; rw [World.cell?_alloc_at _ _ _ _ rfl]; rfl
  go_wp2_with fail
  clear X2 B2
  revert BV XV hV f0 f1 f2 f3
  generalize w2.alloc (.cells #[.func (.func 6) #[] #[.pointer (some ⟨w.heap.size, 0, none⟩)], .func (.func 7) #[] #[.pointer (some ⟨w.heap.size + 1, 0, none⟩)], .func (.func 9) #[] #[.pointer (some ⟨w.heap.size + 1 + 1, 0, none⟩), .pointer (some ⟨w.heap.size + 1 + 1 + 1, 0, none⟩)], .func (.func 11) #[] #[.pointer (some ⟨w.heap.size + 1 + 1, 0, none⟩), .pointer (some ⟨w.heap.size + 1 + 1 + 1, 0, none⟩), .pointer (some ⟨w.heap.size + 1 + 1 + 1 + 1, 0, none⟩)]] 37) = V
  intro BV XV hV f0 f1 f2 f3
  go_loopw [14, 15, 16, 39] (fun _ _ _ i wr => ∃ t : Nat, t ≤ 4 ∧ i = .int .i64 t ∧ Hid (Below V.heap.size V wr)) (fun _ _ _ i _ => 4 - (intOf i).toNat)
  case atStart => exact ⟨0, Nat.zero_le _, rfl, Below.refl _ _⟩
  case round =>
    obtain ⟨t, ht, rfl, HW⟩ := hrel
    have BW := BV.out.trans (HW.out.mono BV.out.size)
    have XB := XV.out.below HW.out
    by_cases e0 : t = 0
    · subst e0
      have cf := (HW.out.cell (p := ⟨w2.heap.size, 0, none⟩) hV).trans f0.out
      have CC := hid (are_one _ n _ F wr XB.g (HI.out.below BW))
      clear BW XB
      go_wp2_with fail
      refine CC.out.mono ?_
      rintro e w3 ⟨hb3, h3⟩
      have HW3 := hid (HW.out.trans (hb3.mono HW.out.size))
      clear hb3 cf CC
      rcases h3 with ⟨n4, r4, l4, rfl, hr4, hc4, hl4⟩ | ⟨q, hq, rfl⟩
      · obtain ⟨ra, rc, hr⟩ := ownsRow_form' hr4
        subst hr
        have hI := hr4.ints (Nat.le_trans hl4 (by decide))
        have hk := below_boxR w3 #[.int .i64 n4, .slice ra l4.length rc]
        have CK := hid (check_any n4 _ (N l4) _ (hI.below hk))
        rw [hc4] at CK
        have HWV := hid (HW3.out.trans (hk.mono HW3.out.size))
        obtain ⟨p0, p1⟩ := box_cells (w := w3) (n := n4) (u := .slice ra l4.length rc) (Below.refl _ _)
        clear hk hI hr4 hc4
        go_wp2_with fail
        refine CK.out.mono ?_
        rintro e w5 ⟨rfl, hb5⟩
        have HW5 := hid (HWV.out.trans (hb5.mono HWV.out.size))
        clear hb5 p0 p1 CK
        go_wp2_with fail
        go_roundw
        case rel => exact ⟨0 + 1, by omega, by first | rfl | go_num, HW5⟩
        case measure => simp [intOf]
      · have hq' : (q == 0) = false := by rw [beq_eq_false_iff_ne]; exact hq
        have hk := below_boxR w3 #[.int .i64 0, .slice none 0 0]
        have HWV := hid (HW3.out.trans (hk.mono HW3.out.size))
        obtain ⟨p0, p1⟩ := box_cells (w := w3) (n := 0) (u := .slice none 0 0) (Below.refl _ _)
        clear hk
        go_wp2_with fail
        go_roundw
        case rel => exact ⟨0 + 1, by omega, by first | rfl | go_num, HWV⟩
        case measure => simp [intOf]
    by_cases e1 : t = 1
    · subst e1
      have cf := (HW.out.cell (p := ⟨w2.heap.size, 1, none⟩) hV).trans f1.out
      have CC := hid (are_two _ p c _ R wr XB.x (HI2.out.below BW))
      clear BW XB
      go_wp2_with fail
      refine CC.out.mono ?_
      rintro e w3 ⟨hb3, h3⟩
      have HW3 := hid (HW.out.trans (hb3.mono HW.out.size))
      clear hb3 cf CC
      rcases h3 with ⟨n4, r4, l4, rfl, hr4, hc4, hl4⟩ | ⟨q, hq, rfl⟩
      · obtain ⟨ra, rc, hr⟩ := ownsRow_form' hr4
        subst hr
        have hI := hr4.ints (Nat.le_trans hl4 (by decide))
        have hk := below_boxR w3 #[.int .i64 n4, .slice ra l4.length rc]
        have CK := hid (check_any n4 _ (N l4) _ (hI.below hk))
        rw [hc4] at CK
        have HWV := hid (HW3.out.trans (hk.mono HW3.out.size))
        obtain ⟨p0, p1⟩ := box_cells (w := w3) (n := n4) (u := .slice ra l4.length rc) (Below.refl _ _)
        clear hk hI hr4 hc4
        go_wp2_with fail
        refine CK.out.mono ?_
        rintro e w5 ⟨rfl, hb5⟩
        have HW5 := hid (HWV.out.trans (hb5.mono HWV.out.size))
        clear hb5 p0 p1 CK
        go_wp2_with fail
        go_roundw
        case rel => exact ⟨1 + 1, by omega, by first | rfl | go_num, HW5⟩
        case measure => simp [intOf]
      · have hq' : (q == 0) = false := by rw [beq_eq_false_iff_ne]; exact hq
        have hk := below_boxR w3 #[.int .i64 0, .slice none 0 0]
        have HWV := hid (HW3.out.trans (hk.mono HW3.out.size))
        obtain ⟨p0, p1⟩ := box_cells (w := w3) (n := 0) (u := .slice none 0 0) (Below.refl _ _)
        clear hk
        go_wp2_with fail
        go_roundw
        case rel => exact ⟨1 + 1, by omega, by first | rfl | go_num, HWV⟩
        case measure => simp [intOf]
    by_cases e2 : t = 2
    · subst e2
      have cf := (HW.out.cell (p := ⟨w2.heap.size, 2, none⟩) hV).trans f2.out
      have CC := hid (are_three _ _ n3 _ zs wr XB.n XB.l (HI4.out.below BW))
      clear BW XB
      go_wp2_with fail
      refine CC.out.mono ?_
      rintro e w3 ⟨hb3, h3⟩
      have HW3 := hid (HW.out.trans (hb3.mono HW.out.size))
      clear hb3 cf CC
      rcases h3 with ⟨n4, r4, l4, rfl, hr4, hc4, hl4⟩ | ⟨q, hq, rfl⟩
      · obtain ⟨ra, rc, hr⟩ := ownsRow_form' hr4
        subst hr
        have hI := hr4.ints (Nat.le_trans hl4 (by decide))
        have hk := below_boxR w3 #[.int .i64 n4, .slice ra l4.length rc]
        have CK := hid (check_any n4 _ (N l4) _ (hI.below hk))
        rw [hc4] at CK
        have HWV := hid (HW3.out.trans (hk.mono HW3.out.size))
        obtain ⟨p0, p1⟩ := box_cells (w := w3) (n := n4) (u := .slice ra l4.length rc) (Below.refl _ _)
        clear hk hI hr4 hc4
        go_wp2_with fail
        refine CK.out.mono ?_
        rintro e w5 ⟨rfl, hb5⟩
        have HW5 := hid (HWV.out.trans (hb5.mono HWV.out.size))
        clear hb5 p0 p1 CK
        go_wp2_with fail
        go_roundw
        case rel => exact ⟨2 + 1, by omega, by first | rfl | go_num, HW5⟩
        case measure => simp [intOf]
      · have hq' : (q == 0) = false := by rw [beq_eq_false_iff_ne]; exact hq
        have hk := below_boxR w3 #[.int .i64 0, .slice none 0 0]
        have HWV := hid (HW3.out.trans (hk.mono HW3.out.size))
        obtain ⟨p0, p1⟩ := box_cells (w := w3) (n := 0) (u := .slice none 0 0) (Below.refl _ _)
        clear hk
        go_wp2_with fail
        go_roundw
        case rel => exact ⟨2 + 1, by omega, by first | rfl | go_num, HWV⟩
        case measure => simp [intOf]
    by_cases e3 : t = 3
    · subst e3
      have cf := (HW.out.cell (p := ⟨w2.heap.size, 3, none⟩) hV).trans f3.out
      have CC := hid (are_four _ _ _ n3 _ _ zs ms wr XB.n XB.l XB.k (HI4.out.below BW) (HI5.out.below BW) HCP.out)
      clear BW XB
      go_wp2_with fail
      refine CC.out.mono ?_
      rintro e w3 ⟨hb3, h3⟩
      have HW3 := hid (HW.out.trans (hb3.mono HW.out.size))
      clear hb3 cf CC
      rcases h3 with ⟨n4, r4, l4, rfl, hr4, hc4, hl4⟩ | ⟨q, hq, rfl⟩
      · obtain ⟨ra, rc, hr⟩ := ownsRow_form' hr4
        subst hr
        have hI := hr4.ints (Nat.le_trans hl4 (by decide))
        have hk := below_boxR w3 #[.int .i64 n4, .slice ra l4.length rc]
        have CK := hid (check_any n4 _ (N l4) _ (hI.below hk))
        rw [hc4] at CK
        have HWV := hid (HW3.out.trans (hk.mono HW3.out.size))
        obtain ⟨p0, p1⟩ := box_cells (w := w3) (n := n4) (u := .slice ra l4.length rc) (Below.refl _ _)
        clear hk hI hr4 hc4
        go_wp2_with fail
        refine CK.out.mono ?_
        rintro e w5 ⟨rfl, hb5⟩
        have HW5 := hid (HWV.out.trans (hb5.mono HWV.out.size))
        clear hb5 p0 p1 CK
        go_wp2_with fail
        go_roundw
        case rel => exact ⟨3 + 1, by omega, by first | rfl | go_num, HW5⟩
        case measure => simp [intOf]
      · have hq' : (q == 0) = false := by rw [beq_eq_false_iff_ne]; exact hq
        have hk := below_boxR w3 #[.int .i64 0, .slice none 0 0]
        have HWV := hid (HW3.out.trans (hk.mono HW3.out.size))
        obtain ⟨p0, p1⟩ := box_cells (w := w3) (n := 0) (u := .slice none 0 0) (Below.refl _ _)
        clear hk
        go_wp2_with fail
        go_roundw
        case rel => exact ⟨3 + 1, by omega, by first | rfl | go_num, HWV⟩
        case measure => simp [intOf]
    obtain rfl : t = 4 := by omega
    go_wp2_with fail
    go_ret
    exact ⟨rfl, BW⟩
end Go.Proofs.Ytlmpeacgjafcjaa
