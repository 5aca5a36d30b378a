/- links.firstWay. -/
import Derived.Test.YtjnifcfcigcngaaLkWQ
namespace Go.Proofs.Ytjnifcfcigcngaa
open Go.RowKit

theorem Own.oneW {B : Nat} (w : World) (v : Nat) (h : B ≤ w.heap.size) : Own B (w.alloc (.cells #[.int .i64 v] 3)) (.slice (some ⟨w.heap.size, 0, none⟩) 1 1) [v] :=
  World.ownsRow_lit w #[.int .i64 v] 1 h (by unfold maxLen; omega) rfl
set_option maxRecDepth 20000 in
set_option maxHeartbeats 4000000 in
theorem firstWay_any (n L B T v : Nat) (f : Nat → Nat) (u : Value) (w : World) (hn : n ≤ 8) (hT : T < 2 ^ n) (hf : ∀ i, i < n → f i < 2 ^ n) (h : RkAt w u n f) (H : WayH f n T B n L v) :
    Calls Try.prog 30 #[u, .int .i64 L, .int .i64 v, .int .i64 B, .int .i64 T] w fun e w' => ∃ r, e = .returned r ∧ Own w.heap.size w' r (wayF f n T B n L v) ∧ Below w.heap.size w w' := by
  obtain ⟨i0, hi, hz0, hz1, hz2⟩ := info_parts Try.infoInt
  have HH := hid H
  have hB := H.bb
  have hB8 := lt256 hn hB
  have hT8 := lt256 hn hT
  have ON : Hid (∀ (L v : Nat) (W : World), L < 2 ^ n → v < n → Below w.heap.size w W → Calls Try.prog 38 #[u, .int .i64 L, .int .i64 ((dif (f v) B : Nat) : Int), .int .i64 B, .int .i64 T] W fun e w' => e = .returned (.int .i64 (onwI (onwF f n T L (dif (f v) B) B))) ∧ w' = W) := fun L v W hL hv hW =>
    onward_any n L (dif (f v) B) B T f u W hn hL (dif_ltn (hf v hv)) hB hT (fun i hi => lt256 hn (hf i hi)) (h.below hW)
  have HF8 : Hid (∀ i, i < n → f i < 256) := fun i hi => lt256 hn (hf i hi)
  obtain ⟨b, off, cap, rfl, hb, hc⟩ := h
  have HA := hid (fun v w hv => has_any T v w hT8 hv)
  have HO0 := hid (Own.oneW w v (Nat.le_refl w.heap.size))
  have HB0 : Hid (Below w.heap.size w (w.alloc (.cells #[.int .i64 v] 3))) := (Below.refl _ _).alloc (Nat.le_refl _) _
  obtain ⟨RW, HRW⟩ : ∃ RW, Hid (wayF f n T B n L v = RW) := ⟨_, rfl⟩
  rw [HRW.out]
  clear H hf
  go_enter Try.func30, Try.ntmps30
  go_wp2_with fail
  revert HO0 HB0
  generalize w.alloc (.cells #[.int .i64 v] 3) = W0
  intro HO0 HB0
  go_loopw [1, 2, 11] (fun l x t wr => ∃ (k M y : Nat) (pre : List Nat), l = .int .i64 M ∧ x = .int .i64 y ∧ pre.length + k = n ∧ Own w.heap.size wr t (pre ++ [y]) ∧ Hid (WayH f n T B k M y) ∧ Hid (pre ++ wayF f n T B k M y = RW) ∧ Hid (Below w.heap.size w wr)) (fun l _ _ _ => pop (intOf l).toNat)
  case atStart => exact ⟨n, L, v, [], rfl, rfl, by simp, HO0.out, HH.out, HRW.out, HB0.out⟩
  case round =>
    obtain ⟨k, M, y, pre, rfl, rfl, hpk, hown, HW, HE, HB⟩ := hrel
    have HO := hid hown
    have hy := HW.out.vn
    have hM8 := lt256 hn HW.out.ll
    have H1 := hid (HA.out y wr (by omega))
    have hsz := HB.out.size
    clear hown
    rcases hbit : T.testBit y with _ | _
    · rw [hbit] at H1
      obtain ⟨j, z, rfl, h2, h3, h4, h5⟩ := HW.out.on hn hbit
      have O1 := hid (ON.out (dif M (2 ^ y)) y wr (dif_ltn HW.out.ll) hy HB.out)
      rw [h2] at O1
      have hlen : (pre ++ [y]).length ≤ 8 := by simp; omega
      have H4 := hid h4
      have HE2 : Hid ((pre ++ [y]) ++ wayF f n T B j (dif M (2 ^ y)) z = RW) := by show _ = _; rw [← HE.out, h5, List.append_assoc]; rfl
      have hless : pop (dif M (2 ^ y)) < pop M := by have := dif_less hn HW.out.ll (HW.out.inL hn); omega
      have x1 := (HB.out.cell (p := ⟨b, off + y, none⟩) hb).trans (hc y hy)
      have hfy := HF8.out y hy
      have hpw : wrap64 (2 ^ y) = ((2 ^ y : Nat) : Int) := (pow_wrap _ (by omega)).1
      have hp2 : 2 ^ y < 256 := two_pow8 (by omega)
      have han : bits .andNot .i64 (M : Int) ((2 ^ y : Nat) : Int) = ((dif M (2 ^ y) : Nat) : Int) := i64_andNot_nat _ _ (by omega) (by omega)
      have han2 : bits .andNot .i64 ((f y : Nat) : Int) (B : Int) = ((dif (f y) B : Nat) : Int) := i64_andNot_nat _ _ (by omega) (by omega)
      have hy64 : ((y : Nat) : Int) < 64 := by omega
      have e1 : onwI (some z) = (z : Int) := rfl
      have hz0' : ¬ ((z : Int) < 0) := by omega
      have hz8 : z < n := h4.vn
      have hyn : ((y : Nat) : Int) < (n : Int) := by omega
      rw [e1] at O1
      clear hbit h2 h3 h4 h5 hc
      have HM8 : Hid ((dif M (2 ^ y) : Nat) < 256) := lt256 hn H4.out.ll
      generalize hd : dif M (2 ^ y) = M2 at *
      generalize dif (f y) B = S2 at *
      generalize f y = fy at *
      generalize hE2 : 2 ^ y = E2 at *
      go_wp2_with fail
      refine H1.out.mono ?_
      rintro e w2 ⟨rfl, rfl⟩
      go_wp2_with fail
      refine O1.out.mono ?_
      rintro e w3 ⟨rfl, rfl⟩
      go_wp2_with (at_builtin; refine wpList_append_own _ rfl _ _ 43 rfl w.heap.size 3 i0 (.int .i64 0) 1 8 Try.underlying43 hi hz0 hz1 hz2 rfl (by decide) _ _ _ rfl (HO.out.alloc _) ⟨w3.heap.size, 0, none⟩ 1 1 [.int .i64 (z : Nat)] rfl rfl ?c1 ?c2 ?c3 ?c4 ?c5 ?_)
      case c1 => exact cell_one_new _ _ _
      case c2 => intro u hu; simp at hu; subst hu; rfl
      case c3 => unfold maxLen; omega
      case c4 => omega
      case c5 => simp; omega
      intro v' w4 hown' hgrow _
      have R3 := hid (Own.snoc (l := pre ++ [y]) (by rw [List.length_append]; exact hown'))
      have R4 := hid (Own.grown HO.out HB.out hsz hgrow)
      clear hown' hgrow
      go_wp2_with fail
      go_roundw
      case rel => exact ⟨j, M2, z, pre ++ [y], rfl, rfl, by simp; omega, R3.out, H4, HE2, R4⟩
      case measure => simp [intOf]; exact hless
    · rw [hbit] at H1
      have HE2 : Hid (pre ++ [y] = RW) := by show _ = _; rw [← HE.out, WayH.end hbit]
      rw [HE2.out] at HO
      clear hbit
      go_wp2_with fail
      refine H1.out.mono ?_
      rintro e w2 ⟨rfl, rfl⟩
      go_wp2_with fail
      go_ret
      exact ⟨_, rfl, HO.out, HB.out⟩
end Go.Proofs.Ytjnifcfcigcngaa
