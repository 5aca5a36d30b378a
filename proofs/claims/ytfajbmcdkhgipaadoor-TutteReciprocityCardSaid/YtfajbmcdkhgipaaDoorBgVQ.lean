/- String; the value of a polynomial. -/
import Derived.Test.YtfajbmcdkhgipaaDoorBgUW
import Derived.Test.YtfajbmcdkhgipaaDoorBgMQ
import Derived.Test.YtfajbmcdkhgipaaDoorBgPQ
import Derived.Test.YtfajbmcdkhgipaaDoorPlainAll1
import Derived.Test.YtfajbmcdkhgipaaDoorTZW
namespace Go.Proofs.YtfajbmcdkhgipaaDoor
open Go.RowKit Go.Lib

set_option maxHeartbeats 1000000 in
theorem String_s (xb : Nat) (x : Int) (w : World) (hx : IntS w xb x) (hb : x.natAbs < 4294967296) :
    Calls Tryd.prog 12 #[.pointer (some ⟨xb, 0, none⟩)] w fun e w' => e = .returned (.string ⟨(decZ x).toArray⟩) ∧ Below w.heap.size w w' := by
  have T := hid' (Text_s xb x w hx hb)
  clear hx
  go_enter Tryd.func12, Tryd.ntmps12
  go_wp2_with fail
  refine T.out.mono ?_
  rintro e w1 ⟨rfl, hb1⟩
  have B := hid' hb1
  clear hb1 T
  go_wp2_with fail
  go_ret
  exact ⟨rfl, B.out⟩
set_option maxRecDepth 20000 in
set_option maxHeartbeats 4000000 in
theorem value_any (c : Nat → Int) (q : Int) (N : Nat) (v : Value) (w : World) (h : RkZ w v N c) (hN : N ≤ 10) (hc : ∀ j, j < N → -256 ≤ c j ∧ c j ≤ 256) (hq : -4 ≤ q ∧ q ≤ 4) :
    Calls Tryd.prog 10 #[v, .int .i64 q] w fun e w' => ∃ zb, e = .returned (.pointer (some ⟨zb, 0, none⟩)) ∧ w.heap.size ≤ zb ∧ IntS w' zb (horN c q N N) ∧ Below w.heap.size w w' := by
  have HB := hid' (hor_bound hc hq)
  have HC := hid' hc
  have HQ := hid' hq
  have HP : Hid (∀ k, k ≤ N → 4 ^ k ≤ 1048576) := fun k hk => Nat.le_trans (Nat.pow_le_pow_right (by omega) (show k ≤ 10 by omega)) (by decide)
  have H := hid' h
  obtain ⟨b, off, cap, rfl, hbs, hcell⟩ := h
  have N0 := hid' (new_s w)
  have B0 := hid' ((Below.refl _ w).alloc (Nat.le_refl _) (.cells #[.bool false, .slice none 0 0] 53))
  clear hcell hc hq
  go_enter Tryd.func10, Tryd.ntmps10
  go_wp2_with fail
  have HS : Hid (w.heap.size < (w.alloc (.cells #[.bool false, .slice none 0 0] 53)).heap.size) := by show _ < _; simp
  go_loopw [6] (fun i W => ∃ k : Nat, k ≤ N ∧ i = .int .i64 ((N : Int) - 1 - (k : Int)) ∧ Hid (IntS W w.heap.size (horN c q N k)) ∧ Hid (Below w.heap.size w W)) (fun i _ => (1 + intOf i).toNat)
  case atStart => exact ⟨0, Nat.zero_le _, by simp, N0.out, B0.out⟩
  case round =>
    obtain ⟨k, hk, rfl, HI, HW⟩ := hrel
    by_cases hlt : k < N
    · obtain ⟨j, hj, hj2⟩ : ∃ j : Nat, (N : Int) - 1 - (k : Int) = (j : Int) ∧ Hid (j = N - 1 - k) := ⟨N - 1 - k, by omega, rfl⟩
      have hjN : j < N := by have := hj2.out; omega
      have hjN2 : (j : Int) < (N : Int) := by omega
      have hj0 : (0 : Int) ≤ (j : Int) := by omega
      have hb1 := HB.out k (by omega)
      have hb2 := HB.out (k + 1) (by omega)
      have hp1 := HP.out k (by omega)
      have hp2 := HP.out (k + 1) (by omega)
      have hcj := HC.out j hjN
      have hqq := HQ.out
      have hmul : (horN c q N k * q).natAbs ≤ (horN c q N k).natAbs * 4 := by rw [Int.natAbs_mul]; exact Nat.mul_le_mul_left _ (by omega)
      have CJ := hid' (H.out.cellAt HW.out hjN)
      have ES : Hid (horN c q N (k + 1) = horN c q N k * q + c j) := by show _ = _; rw [hj2.out]; rfl
      have m1 : Hid ((horN c q N k * q).natAbs < 4294967296) := by show _ < _; omega
      have m2 : Hid ((horN c q N k * q).natAbs + (c j).natAbs < 4294967296) := by show _ < _; omega
      have m3 : Hid (q.natAbs < 4294967296) := by show _ < _; omega
      have m4 : Hid ((c j).natAbs < 4294967296) := by show _ < _; omega
      have hmk : (1 + ((j : Int) - 1)).toNat < (1 + ((N : Int) - 1 - (k : Int))).toNat := by omega
      have HLT := hid' hlt
      have hj3 : Hid ((j : Int) - 1 = (N : Int) - 1 - ((k + 1 : Nat) : Int)) := by show _ = _; omega
      rw [hj]
      rw [hj] at hmk
      have NQ := hid' (NewInt_s q wr m3.out)
      clear hb1 hb2 hp1 hp2 hcj hqq hmul hj hlt
      go_wp2_with fail
      refine NQ.out.mono ?_
      rintro e w1 ⟨yb, rfl, hy1, hy2, hy3⟩
      have I1 := hid' (HI.out.below hy3)
      have W1 := hid' (HW.out.trans (hy3.mono HW.out.size))
      have ML := hid' (Mul_s w.heap.size w.heap.size yb _ q _ w1 I1.out I1.out hy2 m1.out)
      clear hy1 hy2 hy3 NQ HI HW
      go_wp2_with fail
      refine ML.out.mono ?_
      rintro e w2 ⟨rfl, hi2, hs2⟩
      have I2 := hid' hi2
      have W2 := hid' (hs2.below W1.out W1.out.size (fun k hk => by rw [hk]; exact Nat.le_refl _))
      clear hi2 hs2 ML I1 W1
      have c1 := H.out.cellAt W2.out hjN
      have NC := hid' (NewInt_s (c j) w2 m4.out)
      generalize c j = cj at *
      go_wp2_with fail
      refine NC.out.mono ?_
      rintro e w3 ⟨xb, rfl, hx1, hx2, hx3⟩
      have I3 := hid' (I2.out.below hx3)
      have W3 := hid' (W2.out.trans (hx3.mono W2.out.size))
      have AD := hid' (Add_s w.heap.size w.heap.size xb _ cj _ w3 I3.out I3.out hx2 m2.out)
      clear hx1 hx2 hx3 NC I2 W2 c1
      go_wp2_with fail
      refine AD.out.mono ?_
      rintro e w4 ⟨rfl, hi4, hs4⟩
      have I4 := hid' hi4
      have W4 := hid' (hs4.below W3.out W3.out.size (fun k hk => by rw [hk]; exact Nat.le_refl _))
      clear hi4 hs4 AD I3 W3
      go_wp2_with fail
      go_roundw
      case rel => exact ⟨k + 1, HLT.out, by rw [hj3.out], by rw [ES.out]; exact I4.out, W4.out⟩
      case measure => exact hmk
    · obtain rfl : k = N := by omega
      have hn : ¬ (0 : Int) ≤ (k : Int) - 1 - (k : Int) := by omega
      go_wp2_with fail
      go_ret
      exact ⟨_, rfl, Nat.le_refl _, HI.out, HW.out⟩
end Go.Proofs.YtfajbmcdkhgipaaDoor
