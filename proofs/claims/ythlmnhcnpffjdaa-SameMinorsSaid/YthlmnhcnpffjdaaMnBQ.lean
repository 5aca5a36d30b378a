/- same.Minor, where one is no matroid. -/
import Derived.Test.YthlmnhcnpffjdaaMnMQ
namespace Go.Proofs.Ythlmnhcnpffjdaa
open Go.RowKit

set_option maxRecDepth 20000 in
set_option maxHeartbeats 2000000 in
theorem Minor_bad (n k : Int) (v u : Value) (zs ys : List Int) (w : World) (h : Ints w v zs) (h' : Ints w u ys) (hc : chk2 n zs k ys ≠ 0) :
    Calls Try.prog 8 #[.agg #[.int .i64 n, v], .agg #[.int .i64 k, u]] w fun e w' => e = .returned (.tuple #[.int .i64 0, .int .i64 0, .int .i64 (chk2 n zs k ys)]) ∧ Below w.heap.size w w' := by
  have B0 := box2_below w n v k u
  have HS0 := hid (box2_size w n v k u)
  have C1 := hid (fun w' (hb' : Below w.heap.size w w') => check_any n v zs w' (h.below hb'))
  have C2 := hid (fun w' (hb' : Below w.heap.size w w') => check_any k u ys w' (h'.below hb'))
  have HQ : Hid (chk2 n zs k ys = if chkR n zs = 0 then chkR k ys else chkR n zs) := rfl
  have HB0 := hid B0
  have HC := hid hc
  obtain ⟨a0, cap, rfl, -, -⟩ := h
  obtain ⟨a1, cap1, rfl, -, -⟩ := h'
  generalize chkR n zs = qE at *
  generalize chkR k ys = qK at *
  generalize chk2 n zs k ys = q at *
  obtain ⟨y0, y1⟩ := box2_blocks (Below.refl _ (box2 w n (.slice a0 zs.length cap) k (.slice a1 ys.length cap1)))
  obtain ⟨x0, x1⟩ := cells2 y0
  obtain ⟨x2, x3⟩ := cells2 y1
  have hw2 : (w.alloc (.cells #[.int .i64 n, .slice a0 zs.length cap] 24)).alloc (.cells #[.int .i64 k, .slice a1 ys.length cap1] 24) = box2 w n (.slice a0 zs.length cap) k (.slice a1 ys.length cap1) := rfl
  generalize hW2 : box2 w n (.slice a0 zs.length cap) k (.slice a1 ys.length cap1) = W2 at *
  clear B0 hc
  go_enter Try.func8, Try.ntmps8
  go_wp2_with fail
  have b3 : Below W2.heap.size W2 (W2.alloc (.cells #[.int .i64 n, .slice a0 zs.length cap, .int .i64 k, .slice a1 ys.length cap1] 24)) := (Below.refl _ _).alloc (Nat.le_refl _) _
  have y3 := World.alloc_heap_new W2 (.cells #[.int .i64 n, .slice a0 zs.length cap, .int .i64 k, .slice a1 ys.length cap1] 24)
  have z3 := World.size_alloc W2 (.cells #[.int .i64 n, .slice a0 zs.length cap, .int .i64 k, .slice a1 ys.length cap1] 24)
  revert b3 y3 z3
  generalize W2.alloc (.cells #[.int .i64 n, .slice a0 zs.length cap, .int .i64 k, .slice a1 ys.length cap1] 24) = W3
  intro b3 y3 z3
  have B3 := hid (HB0.out.trans (b3.mono HB0.out.size))
  have hs3 : W3.heap.size = w.heap.size + 3 := by rw [z3, HS0.out]
  have Y3 : Hid (W3.heap[w.heap.size + 2]? = some (.cells #[.int .i64 n, .slice a0 zs.length cap, .int .i64 k, .slice a1 ys.length cap1] 24 (0, 0))) := by
    have := y3
    rwa [HS0.out] at this
  rw [HS0.out]
  clear b3 y3 z3 y0 y1 x0 x1 x2 x3 hw2 HB0 HS0 hW2
  go_loopw [8, 9, 17] (fun _ _ j wr => ∃ i : Nat, i ≤ 1 ∧ j = .int .i64 i ∧ Hid (i = 1 → qE = 0) ∧ Hid (Below W3.heap.size W3 wr)) (fun _ _ j _ => 2 - (intOf j).toNat)
  case atStart => exact ⟨0, by decide, rfl, (fun e => absurd e (by decide)), Below.refl _ _⟩
  case round =>
    obtain ⟨i, hi, rfl, HIE, HWr⟩ := hrel
    have BWr := hid (B3.out.trans (HWr.out.mono B3.out.size))
    have hbk := (HWr.out.block (w.heap.size + 2) (by omega)).trans Y3.out
    have g0 : wr.cell? ⟨w.heap.size + 2, 0, none⟩ = some (.int .i64 n) := by simp [World.cell?, hbk]
    have g1 : wr.cell? ⟨w.heap.size + 2, 1, none⟩ = some (.slice a0 zs.length cap) := by simp [World.cell?, hbk]
    have g2 : wr.cell? ⟨w.heap.size + 2, 2, none⟩ = some (.int .i64 k) := by simp [World.cell?, hbk]
    have g3 : wr.cell? ⟨w.heap.size + 2, 3, none⟩ = some (.slice a1 ys.length cap1) := by simp [World.cell?, hbk]
    clear hbk
    rcases show i = 0 ∨ i = 1 by omega with rfl | rfl
    · have bx : Below wr.heap.size wr (wr.alloc (.cells #[.int .i64 n, .slice a0 zs.length cap] 24)) := (Below.refl _ _).alloc (Nat.le_refl _) _
      have BWx := hid (BWr.out.trans (bx.mono BWr.out.size))
      have K1 := hid (C1.out _ BWx.out)
      have HWx := hid (HWr.out.trans (bx.mono HWr.out.size))
      clear bx
      go_wp2_with fail
      refine K1.out.mono ?_
      rintro e w4 ⟨rfl, hb4⟩
      have HW4 := hid (HWx.out.trans (hb4.mono HWx.out.size))
      have BW4 := hid (BWx.out.trans (hb4.mono BWx.out.size))
      clear hb4 K1
      by_cases hq : qE = 0
      · have hq' : (qE != 0) = false := by simp [hq]
        have HE := hid hq
        clear hq
        go_wp2_with fail
        go_roundw
        case rel => exact ⟨1, by decide, by rfl, fun _ => HE.out, HW4⟩
        case measure => simp [intOf]
      · have hq' : (qE != 0) = true := by simp [hq]
        have e1 : Hid (q = qE) := by show _ = _; rw [HQ.out, if_neg hq]
        clear hq
        go_wp2_with fail
        go_ret3
        exact ⟨by rw [e1.out]; rfl, BW4.out⟩
    · have bx : Below wr.heap.size wr (wr.alloc (.cells #[.int .i64 k, .slice a1 ys.length cap1] 24)) := (Below.refl _ _).alloc (Nat.le_refl _) _
      have BWx := hid (BWr.out.trans (bx.mono BWr.out.size))
      have K1 := hid (C2.out _ BWx.out)
      have e1 : Hid (q = qK) := by show _ = _; rw [HQ.out, if_pos (HIE.out rfl)]
      have hq' : (qK != 0) = true := by rw [bne_iff_ne]; exact fun e => HC.out (by rw [e1.out, e])
      clear bx
      go_wp2_with fail
      refine K1.out.mono ?_
      rintro e w4 ⟨rfl, hb4⟩
      have BW4 := hid (BWx.out.trans (hb4.mono BWx.out.size))
      clear hb4 K1
      go_wp2_with fail
      go_ret3
      exact ⟨by rw [e1.out]; rfl, BW4.out⟩
end Go.Proofs.Ythlmnhcnpffjdaa
