/- rotalaw.Same[int64], rotalaw.longs; flats.Levels, Independent. -/
import Derived.Test.YtpmpfnbgjgjlgabFlCQ
import Derived.Test.YtpmpfnbgjgjlgabRefQ
namespace Go.Proofs.Ytpmpfnbgjgjlgab
open Go.RowKit

theorem RkZ.ints {w : World} {v : Value} {T : Nat} {f : Nat → Int} (h : RkZ w v T f) (hT : T ≤ 17592186044416) : Ints w v ((List.range T).map f) := by
  obtain ⟨b, off, cap, rfl, h1, h2⟩ := h
  refine ⟨_, cap, by simp, by simpa using hT, fun _ => ⟨b, off, rfl, h1, fun i hi => ?_⟩⟩
  have hi' : i < T := by simpa using hi
  rw [h2 i hi']
  simp [List.getD, hi']
theorem RkAt.intsF {w : World} {v : Value} {T : Nat} {f : Nat → Nat} (h : RkAt w v T f) (hT : T ≤ 17592186044416) : Ints w v (N ((List.range T).map f)) := by
  obtain ⟨b, off, cap, rfl, h1, h2⟩ := h
  refine ⟨_, cap, by simp [N], by simpa [N] using hT, fun _ => ⟨b, off, rfl, h1, fun i hi => ?_⟩⟩
  have hi' : i < T := by simpa [N] using hi
  rw [h2 i hi', N_getD]
  simp [List.getD, hi']
set_option maxHeartbeats 800000 in
theorem SameL_any (u v : Value) (zs ys : List Int) (w : World) (h1 : Ints w u zs) (h2 : Ints w v ys) :
    Calls Try.prog 15 #[u, v] w fun e w' => e = .returned (.bool (decide (zs = ys))) ∧ Below w.heap.size w w' := by
  obtain ⟨a, cap, rfl, hl, hc⟩ := h1
  obtain ⟨a2, cap2, rfl, hl2, hc2⟩ := h2
  by_cases hlen : zs.length = ys.length
  · have hne : ((zs.length : Int) != (ys.length : Int)) = false := by rw [hlen]; simp
    have HL := hid hlen
    rw [← hlen] at hl2 hc2 hne ⊢
    clear hlen
    go_enter Try.func15, Try.ntmps15
    go_wp2_with fail
    go_loopw [13] (fun i wr => ∃ k : Nat, k ≤ zs.length ∧ i = .int .i64 k ∧ Below w.heap.size w wr ∧ Hid (decide (zs = ys) = decide (zs.drop k = ys.drop k))) (fun i _ => zs.length - (intOf i).toNat)
    case atStart => exact ⟨0, Nat.zero_le _, rfl, Below.refl _ _, rfl⟩
    case round =>
      obtain ⟨k, hk, rfl, hnx, R⟩ := hrel
      by_cases hlt : k < zs.length
      · obtain ⟨b, off, rfl, hb, hcell⟩ := hc (by omega)
        obtain ⟨b2, off2, rfl, hb2, hcell2⟩ := hc2 (by omega)
        have hck : wr.cell? ⟨b, off + k, none⟩ = some (.int .i64 (zs.getD k 0)) := (hnx.cell (p := ⟨b, off + k, none⟩) hb).trans (hcell k hlt)
        have hck2 : wr.cell? ⟨b2, off2 + k, none⟩ = some (.int .i64 (ys.getD k 0)) := (hnx.cell (p := ⟨b2, off2 + k, none⟩) hb2).trans (hcell2 k hlt)
        have D := hid (same_step HL.out hlt)
        have hki : (k : Int) < (zs.length : Int) := by omega
        clear hcell hcell2 hc hc2
        generalize zs.getD k 0 = x at *
        generalize ys.getD k 0 = y at *
        by_cases hxy : x = y
        · have hxy' : (x != y) = false := by rw [hxy]; simp
          have HX := hid hxy
          clear hxy
          go_wp2_with fail
          go_quiet (fail)
          go_wp2_with fail
          go_roundw
          case rel => exact ⟨k + 1, by omega, by go_num, below_drewN hnx _, by show decide (zs = ys) = _; rw [R.out, D.out, HX.out]; simp⟩
          case measure => simp [intOf]; omega
        · have hxy' : (x != y) = true := by rw [bne_iff_ne]; exact hxy
          go_wp2_with fail
          go_quiet (fail)
          go_wp2_with fail
          go_ret
          exact ⟨ret_bool (by rw [R.out, D.out]; simp [hxy]), below_drewN hnx _⟩
      · have hz : zs.drop k = [] := List.drop_of_length_le (by omega)
        have hy : ys.drop k = [] := List.drop_of_length_le (by have := HL.out; omega)
        have F : Hid (decide (zs = ys) = true) := by show decide (zs = ys) = true; rw [R.out, hz, hy]; rfl
        clear hz hy
        go_wp2_with fail
        go_ret
        exact ⟨ret_bool F.out.symm, hnx⟩
  · have hne : ((zs.length : Int) != (ys.length : Int)) = true := by rw [bne_iff_ne]; omega
    have F : Hid (decide (zs = ys) = false) := by show decide (zs = ys) = false; simp; intro h; exact hlen (by rw [h])
    go_enter Try.func15, Try.ntmps15
    go_wp2_with fail
    go_ret
    exact ⟨ret_bool F.out.symm, Below.refl _ _⟩
theorem Levels_bad (n : Int) (v : Value) (zs : List Int) (w : World) (h : Ints w v zs) (hc : chkR n zs ≠ 0) :
    Calls Try.prog 17 #[.agg #[.int .i64 n, v]] w fun e w' => e = .returned (.tuple #[.slice none 0 0, .int .i64 (chkR n zs)]) ∧ Below w.heap.size w w' := by
  have HI := hid h
  obtain ⟨a, cap, rfl, _, _⟩ := h
  have HB0 := hid (below_box w #[.int .i64 n, .slice a zs.length cap])
  have HC := hid (count_bad 35 n _ zs _ (HI.out.below HB0.out) hc)
  generalize chkR n zs = q at *
  go_enter Try.func17, Try.ntmps17
  go_wp2_with fail
  refine HC.out.mono ?_
  rintro e w2 ⟨rfl, hb2⟩
  have HB := hid (HB0.out.trans (hb2.mono HB0.out.size))
  clear hb2
  go_wp2_with fail
  go_ret2
  exact ⟨rfl, HB.out⟩
theorem Levels_ok (m : Nat) (v : Value) (l : List Nat) (w : World) (hm : m ≤ 8) (hf : Fam m l) (hb : Bas l) (h : Ints w v (N l)) :
    Calls Try.prog 17 #[.agg #[.int .i64 m, v]] w fun e w' => ∃ u, e = .returned (.tuple #[u, .int .i64 0]) ∧ RkAt w' u (rk l (2 ^ m - 1) + 1) (cntS (flatB (rk l) m) (rk l) (2 ^ m)) ∧ Below w.heap.size w w' := by
  have HI := hid h
  obtain ⟨a, cap, hv, -, -⟩ := h.nats
  subst hv
  have HB0 := hid (below_box w #[.int .i64 m, .slice a l.length cap])
  have HC := hid (count_ok 35 m _ l (flatB (rk l) m) _ hm hf hb (HI.out.below HB0.out) (fun args w => enters_of Try.func35 (by kernel_rfl) rfl args w) (fun v s w hs hv => isFlat_any v m (rk l) s w hm hs hv))
  generalize cntS (flatB (rk l) m) (rk l) (2 ^ m) = cf at *
  generalize rk l (2 ^ m - 1) + 1 = N1 at *
  go_enter Try.func17, Try.ntmps17
  go_wp2_with fail
  refine HC.out.mono ?_
  rintro e w2 ⟨u, rfl, hu, hb2⟩
  have HB := hid (HB0.out.trans (hb2.mono HB0.out.size))
  have HU := hid hu
  clear hb2 hu
  go_wp2_with fail
  go_ret2
  exact ⟨_, rfl, HU.out, HB.out⟩
end Go.Proofs.Ytpmpfnbgjgjlgab
