/- wide.divided. -/
import Derived.Test.YtkmpnaohdijpnaaGreatDoorWdAQ
import Derived.Test.YtkmpnaohdijpnaaGreatDoorEqQ
namespace Go.Proofs.YtkmpnaohdijpnaaGreatDoor
open Go.RowKit Go.Lib

theorem set_heap_other (W : World) (p : Addr) (x : Value) {k : Nat} (h : p.block ≠ k) : (W.setCell p x).heap[k]? = W.heap[k]? := by
  unfold World.setCell
  dsimp only
  rw [Array.getElem?_modify]
  simp [h]
theorem set_heap_0 {W : World} {b : Nat} {p q x : Value} {t : TypeId} (h : W.heap[b]? = some (.cells #[p, q] t (0, 0))) : (W.setCell ⟨b, 0, none⟩ x).heap[b]? = some (.cells #[x, q] t (0, 0)) := by
  unfold World.setCell
  dsimp only
  rw [Array.getElem?_modify, h]
  simp
theorem set_heap_1 {W : World} {b : Nat} {p q x : Value} {t : TypeId} (h : W.heap[b]? = some (.cells #[p, q] t (0, 0))) : (W.setCell ⟨b, 1, none⟩ x).heap[b]? = some (.cells #[p, x] t (0, 0)) := by
  unfold World.setCell
  dsimp only
  rw [Array.getElem?_modify, h]
  simp
/-- A number of 128 bits lies in block b. -/
def WAt (W : World) (b u : Nat) : Prop := ∃ h l : Nat, h < 18446744073709551616 ∧ l < 18446744073709551616 ∧ u = h * 18446744073709551616 + l ∧ W.heap[b]? = some (.cells #[.int .u64 (h : Nat), .int .u64 (l : Nat)] 63 (0, 0))
theorem WAt.below {W W' : World} {b u : Nat} (h : WAt W b u) (hb : Below W.heap.size W W') : WAt W' b u := by
  obtain ⟨x, y, h1, h2, h3, h4⟩ := h
  exact ⟨x, y, h1, h2, h3, (hb.block b (Array.getElem?_eq_some_iff.1 h4).1).trans h4⟩
theorem WAt.drew {W : World} {b u : Nat} (h : WAt W b u) : WAt W.drew b u := h
theorem WAt.lt {W : World} {b u : Nat} (h : WAt W b u) : u < 340282366920938463463374607431768211456 := by
  obtain ⟨x, y, h1, h2, h3, h4⟩ := h
  omega
theorem WAt.size {W : World} {b u : Nat} (h : WAt W b u) : b < W.heap.size := by
  obtain ⟨x, y, h1, h2, h3, h4⟩ := h
  exact (Array.getElem?_eq_some_iff.1 h4).1
/-- What is read. -/
theorem WAt.read {W : World} {b u : Nat} (h : WAt W b u) : ∃ x y : Nat, x < 18446744073709551616 ∧ y < 18446744073709551616 ∧ Hid (u = x * 18446744073709551616 + y) ∧ wv u = .agg #[.int .u64 (x : Nat), .int .u64 (y : Nat)] ∧ W.cell? ⟨b, 0, none⟩ = some (.int .u64 (x : Nat)) ∧ W.cell? ⟨b, 1, none⟩ = some (.int .u64 (y : Nat)) ∧ W.frozen? ⟨b, 0, none⟩ = false ∧ W.frozen? ⟨b, 1, none⟩ = false := by
  obtain ⟨x, y, h1, h2, h3, h4⟩ := h
  exact ⟨x, y, h1, h2, h3, (wv_shut h2 h3).symm, by simp [World.cell?, h4], by simp [World.cell?, h4], by simp [World.frozen?, h4], by simp [World.frozen?, h4]⟩
theorem WAt.put {W : World} {b u x y : Nat} (h : WAt W b u) (hx : x < 18446744073709551616) (hy : y < 18446744073709551616) {v : Nat} (e : v = x * 18446744073709551616 + y) : WAt ((W.setCell ⟨b, 0, none⟩ (.int .u64 (x : Nat))).setCell ⟨b, 1, none⟩ (.int .u64 (y : Nat))) b v := by
  obtain ⟨p, q, h1, h2, h3, h4⟩ := h
  exact ⟨x, y, hx, hy, e, set_heap_1 (set_heap_0 h4)⟩
theorem WAt.putO {W : World} {b u c : Nat} (h : WAt W b u) (x y : Value) (hc : c ≠ b) : WAt ((W.setCell ⟨c, 0, none⟩ x).setCell ⟨c, 1, none⟩ y) b u := by
  obtain ⟨p, q, h1, h2, h3, h4⟩ := h
  exact ⟨p, q, h1, h2, h3, (set_heap_other _ _ _ hc).trans ((set_heap_other _ _ _ hc).trans h4)⟩
theorem WAt.set1 {W : World} {b u : Nat} (h : WAt W b u) {x y z : Nat} (e : u = x * 18446744073709551616 + y) (hy : y < 18446744073709551616) (hz : z < 18446744073709551616) {v : Nat} (e' : v = x * 18446744073709551616 + z) : WAt (W.setCell ⟨b, 1, none⟩ (.int .u64 (z : Nat))) b v := by
  obtain ⟨p, q, h1, h2, h3, h4⟩ := h
  have : p = x := by omega
  subst this
  exact ⟨p, z, h1, hz, e', set_heap_1 h4⟩
theorem WAt.set1O {W : World} {b u c : Nat} (h : WAt W b u) (x : Value) (hc : c ≠ b) : WAt (W.setCell ⟨c, 1, none⟩ x) b u := by
  obtain ⟨p, q, h1, h2, h3, h4⟩ := h
  exact ⟨p, q, h1, h2, h3, (set_heap_other _ _ _ hc).trans h4⟩
end Go.Proofs.YtkmpnaohdijpnaaGreatDoor

namespace Go.Proofs.YtkmpnaohdijpnaaGreatDoor
open Go.RowKit Go.Lib

def boxD (w : World) (ah al bh bl : Nat) : World := (((w.alloc (.cells #[.int .u64 (ah : Nat), .int .u64 (al : Nat)] 63)).alloc (.cells #[.int .u64 (bh : Nat), .int .u64 (bl : Nat)] 63)).alloc (.cells #[.int .u64 0, .int .u64 0] 63)).alloc (.cells #[.int .u64 0, .int .u64 0] 63)
theorem boxD_is (w : World) (ah al bh bl : Nat) (h1 : ah < 18446744073709551616) (h2 : al < 18446744073709551616) (h3 : bh < 18446744073709551616) (h4 : bl < 18446744073709551616) : Below w.heap.size w (boxD w ah al bh bl) ∧ WAt (boxD w ah al bh bl) w.heap.size (ah * 18446744073709551616 + al) ∧ WAt (boxD w ah al bh bl) (w.heap.size + 1) (bh * 18446744073709551616 + bl) ∧ WAt (boxD w ah al bh bl) (w.heap.size + 1 + 1) 0 ∧ WAt (boxD w ah al bh bl) (w.heap.size + 1 + 1 + 1) 0 := by
  unfold boxD
  refine ⟨((((Below.refl _ w).alloc (Nat.le_refl _) _).alloc (by simp) _).alloc (by simp; omega) _).alloc (by simp; omega) _, ⟨ah, al, h1, h2, rfl, ?_⟩, ⟨bh, bl, h3, h4, rfl, ?_⟩, ⟨0, 0, by omega, by omega, rfl, ?_⟩, ⟨0, 0, by omega, by omega, rfl, ?_⟩⟩
  · rw [Below.heap_alloc _ _ _ (by simp; omega), Below.heap_alloc _ _ _ (by simp; omega), Below.heap_alloc _ _ _ (by simp)]
    exact World.alloc_heap_new w _
  · rw [Below.heap_alloc _ _ _ (by simp), Below.heap_alloc _ _ _ (by simp)]
    have := World.alloc_heap_new (w.alloc (.cells #[.int .u64 (ah : Nat), .int .u64 (al : Nat)] 63)) (.cells #[.int .u64 (bh : Nat), .int .u64 (bl : Nat)] 63)
    simpa using this
  · rw [Below.heap_alloc _ _ _ (by simp)]
    have := World.alloc_heap_new ((w.alloc (.cells #[.int .u64 (ah : Nat), .int .u64 (al : Nat)] 63)).alloc (.cells #[.int .u64 (bh : Nat), .int .u64 (bl : Nat)] 63)) (.cells #[.int .u64 0, .int .u64 0] 63)
    simpa using this
  · have := World.alloc_heap_new (((w.alloc (.cells #[.int .u64 (ah : Nat), .int .u64 (al : Nat)] 63)).alloc (.cells #[.int .u64 (bh : Nat), .int .u64 (bl : Nat)] 63)).alloc (.cells #[.int .u64 0, .int .u64 0] 63)) (.cells #[.int .u64 0, .int .u64 0] 63)
    simpa using this
/-- How far a division has come: k bits of A are taken. -/
structure Dvd (A B k a q r : Nat) : Prop where
  ex : ∃ p, A * 2 ^ k = p * 340282366920938463463374607431768211456 + a ∧ p < 2 ^ k ∧ q = p / B ∧ r = p % B
theorem Dvd.start (A B : Nat) : Dvd A B 0 A 0 0 := ⟨0, by simp, by simp, by simp, by simp⟩
theorem pow_half {k : Nat} (hk : k < 128) : 2 ^ k * 2 ≤ 340282366920938463463374607431768211456 := by
  have : 2 ^ (k + 1) ≤ 2 ^ 128 := Nat.pow_le_pow_right (by omega) (by omega)
  rwa [Nat.pow_succ] at this
theorem Dvd.q_lt {A B k a q r : Nat} (h : Dvd A B k a q r) (hk : k < 128) : 2 * q + 1 < 340282366920938463463374607431768211456 := by
  obtain ⟨p, h1, h2, h3, h4⟩ := h
  have := pow_half hk
  have h5 : q ≤ p := by rw [h3]; exact Nat.div_le_self _ _
  omega
theorem Dvd.r_lt {A B k a q r : Nat} (h : Dvd A B k a q r) (hB : 0 < B) : r < B := by
  obtain ⟨p, h1, h2, h3, h4⟩ := h
  rw [h4]; exact Nat.mod_lt _ hB
theorem Dvd.step {A B k a q r : Nat} (h : Dvd A B k a q r) (ha : a < 340282366920938463463374607431768211456) (hB : 0 < B) : (2 * r + a / 170141183460469231731687303715884105728 < B → Dvd A B (k + 1) (2 * a % 340282366920938463463374607431768211456) (2 * q) (2 * r + a / 170141183460469231731687303715884105728)) ∧ (¬ 2 * r + a / 170141183460469231731687303715884105728 < B → Dvd A B (k + 1) (2 * a % 340282366920938463463374607431768211456) (2 * q + 1) (2 * r + a / 170141183460469231731687303715884105728 - B)) := by
  have hr := h.r_lt hB
  obtain ⟨p, h1, h2, h3, h4⟩ := h
  have hp := Nat.div_add_mod p B
  rw [← h3, ← h4] at hp
  have e1 : A * 2 ^ (k + 1) = (2 * p + a / 170141183460469231731687303715884105728) * 340282366920938463463374607431768211456 + 2 * a % 340282366920938463463374607431768211456 := by
    rw [Nat.pow_succ, ← Nat.mul_assoc, h1]; omega
  have e2 : 2 * p + a / 170141183460469231731687303715884105728 < 2 ^ (k + 1) := by rw [Nat.pow_succ]; omega
  have e3 : 2 * p = B * (2 * q) + 2 * r := by rw [← hp, Nat.mul_add, Nat.mul_left_comm]
  have hc : a / 170141183460469231731687303715884105728 ≤ 1 := by omega
  generalize a / 170141183460469231731687303715884105728 = c at *
  constructor
  · intro hlt
    have e4 : 2 * p + c = B * (2 * q) + (2 * r + c) := by omega
    refine ⟨2 * p + c, e1, e2, ?_, ?_⟩
    · rw [e4, Nat.mul_add_div hB, Nat.div_eq_of_lt hlt, Nat.add_zero]
    · rw [e4, Nat.mul_add_mod, Nat.mod_eq_of_lt hlt]
  · intro hlt
    have e4 : 2 * p + c = B * (2 * q + 1) + (2 * r + c - B) := by rw [Nat.mul_add, Nat.mul_one]; omega
    have hl2 : 2 * r + c - B < B := by omega
    refine ⟨2 * p + c, e1, e2, ?_, ?_⟩
    · rw [e4, Nat.mul_add_div hB, Nat.div_eq_of_lt hl2, Nat.add_zero]
    · rw [e4, Nat.mul_add_mod, Nat.mod_eq_of_lt hl2]
theorem Dvd.done {A B a q r : Nat} (h : Dvd A B 128 a q r) (ha : a < 340282366920938463463374607431768211456) : q = A / B ∧ r = A % B := by
  obtain ⟨p, h1, h2, h3, h4⟩ := h
  have e : (2 : Nat) ^ 128 = 340282366920938463463374607431768211456 := by decide
  rw [e] at h1
  have : p = A := by omega
  rw [h3, h4, this]; exact ⟨rfl, rfl⟩
set_option maxRecDepth 20000 in
set_option maxHeartbeats 4000000 in
theorem divided_any (A B : Nat) (w : World) (hA : A < 340282366920938463463374607431768211456) (hB : B ≤ 170141183460469231731687303715884105728) (hB0 : 0 < B) : Calls Tryz.prog 73 #[wv A, wv B] w fun e w' => e = .returned (.tuple #[wv (A / B), wv (A % B)]) ∧ Below w.heap.size w w' := by
  obtain ⟨ah, al, h1, h2, HA, ea⟩ := wv_open A hA
  obtain ⟨bh, bl, h3, h4, HB, eb⟩ := wv_open B (by omega)
  rw [ea, eb]
  obtain ⟨b0, b1, b2, b3, b4⟩ := boxD_is w ah al bh bl h1 h2 h3 h4
  rw [← HA.out] at b1
  rw [← HB.out] at b2
  have K0 := hid b0
  have K1 := hid b1
  have K2 := hid b2
  have K3 := hid b3
  have K4 := hid b4
  have HLT := hid hB
  have HEB := hid eb
  have hAx := hid hA
  unfold boxD at K0 K1 K2 K3 K4
  clear b0 b1 b2 b3 b4 ea eb hA hB
  go_enter Tryz.func73, Tryz.ntmps73
  go_wp2_with fail
  go_loopw [6] (fun i wr => ∃ k a q r : Nat, k ≤ 128 ∧ i = .int .i64 k ∧ Hid (Dvd A B k a q r) ∧ Hid (WAt wr w.heap.size a) ∧ Hid (WAt wr (w.heap.size + 1) B) ∧ Hid (WAt wr (w.heap.size + 1 + 1) q) ∧ Hid (WAt wr (w.heap.size + 1 + 1 + 1) r) ∧ Hid (Below w.heap.size w wr)) (fun i _ => 128 - (intOf i).toNat)
  case atStart => exact ⟨0, A, 0, 0, Nat.zero_le _, rfl, Dvd.start A B, K1.out, K2.out, K3.out, K4.out, K0.out⟩
  case round =>
    clear K0 K1 K2 K3 K4 HA HB
    obtain ⟨k, a, q, r, hk, rfl, HD, J1, J2, J3, J4, HW⟩ := hrel
    by_cases hlt : k < 128
    · have hki : (k : Int) < 128 := by omega
      have ha := hid J1.out.lt
      have hqq := hid (HD.out.q_lt hlt)
      have hrr := hid (HD.out.r_lt hB0)
      have STP := hid (HD.out.step ha.out hB0)
      obtain ⟨xh, xl, x1, x2, EX, wx, cx0, cx1, fx0, fx1⟩ := J1.out.read
      obtain ⟨yh, yl, y1, y2, EY, wy, cy0, cy1, fy0, fy1⟩ := J4.out.read
      obtain ⟨c, hc, hcI, HC⟩ : ∃ c : Nat, c ≤ 1 ∧ (xh : Int) / 9223372036854775808 = (c : Int) ∧ Hid (a / 170141183460469231731687303715884105728 = c) := ⟨xh / 9223372036854775808, by omega, by omega, by have := EX.out; show _ = _; omega⟩
      rw [HC.out] at STP
      have r2 := hid (show 2 * r + c < 340282366920938463463374607431768211456 by have := hrr.out; have := HLT.out; omega)
      have D1 := hid (fun w => WDoub_any r c w (by have := r2.out; omega) hc)
      rw [Nat.mod_eq_of_lt r2.out, wy] at D1
      obtain ⟨zh, zl, z1, z2, EZ, wz⟩ := wv_open (2 * r + c) r2.out
      rw [wz] at D1
      have HWwr := hid HW.out
      clear HW
      go_wp2_with fail
      refine (D1.out _).mono ?_
      rintro e u1 ⟨rfl, hb1⟩
      have I10 := J1.out.below hb1
      have I11 := J2.out.below hb1
      have I12 := J3.out.below hb1
      have I13 := J4.out.below hb1
      have HU1 := hid (HWwr.out.trans (hb1.mono HWwr.out.size))
      obtain ⟨_, _, _, _, _, _, g10, g11, g12, g13⟩ := I13.read
      have P10 := I10.putO (c := w.heap.size + 1 + 1 + 1) (.int .u64 (zh : Nat)) (.int .u64 (zl : Nat)) (by omega)
      have P11 := I11.putO (c := w.heap.size + 1 + 1 + 1) (.int .u64 (zh : Nat)) (.int .u64 (zl : Nat)) (by omega)
      have P12 := I12.putO (c := w.heap.size + 1 + 1 + 1) (.int .u64 (zh : Nat)) (.int .u64 (zl : Nat)) (by omega)
      have P13 := I13.put (v := 2 * r + c) z1 z2 EZ.out
      have B1 := (HU1.out.setCell (p := ⟨w.heap.size + 1 + 1 + 1, 0, none⟩) (by show w.heap.size ≤ w.heap.size + 1 + 1 + 1; omega) (.int .u64 (zh : Nat))).setCell (p := ⟨w.heap.size + 1 + 1 + 1, 1, none⟩) (by show w.heap.size ≤ w.heap.size + 1 + 1 + 1; omega) (.int .u64 (zl : Nat))
      obtain ⟨V1, hV1⟩ : ∃ V, (u1.setCell ⟨w.heap.size + 1 + 1 + 1, 0, none⟩ (.int .u64 (zh : Nat))).setCell ⟨w.heap.size + 1 + 1 + 1, 1, none⟩ (.int .u64 (zl : Nat)) = V := ⟨_, rfl⟩
      rw [hV1] at P10 P11 P12 P13 B1
      have Q10 := hid P10
      have Q11 := hid P11
      have Q12 := hid P12
      have Q13 := hid P13
      have HWV1 := hid B1
      clear hb1 I10 I11 I12 I13 HU1 P10 P11 P12 P13 B1
      obtain ⟨mh, ml, m1, m2, Em, wm, cm0, cm1, fm0, fm1⟩ := Q10.out.read
      have D2 : Hid (∀ w, Calls Tryz.prog 92 #[wv a, .int .u64 0] w fun e w' => e = .returned (wv ((2 * a + 0) % 340282366920938463463374607431768211456)) ∧ Below w.heap.size w w') := fun w => WDoub_any a 0 w ha.out (by omega)
      rw [wm, Nat.add_zero] at D2
      obtain ⟨mph, mpl, mp1, mp2, Emp, wmp⟩ := wv_open (2 * a % 340282366920938463463374607431768211456) (Nat.mod_lt _ (by omega))
      rw [wmp] at D2
      go_wp2_with fail
      clear hV1
      refine (D2.out _).mono ?_
      rintro e u2 ⟨rfl, hb2⟩
      have I20 := Q10.out.below hb2
      have I21 := Q11.out.below hb2
      have I22 := Q12.out.below hb2
      have I23 := Q13.out.below hb2
      have HU2 := hid (HWV1.out.trans (hb2.mono HWV1.out.size))
      obtain ⟨_, _, _, _, _, _, g20, g21, g22, g23⟩ := I20.read
      have P20 := I20.put (v := 2 * a % 340282366920938463463374607431768211456) mp1 mp2 Emp.out
      have P21 := I21.putO (c := w.heap.size) (.int .u64 (mph : Nat)) (.int .u64 (mpl : Nat)) (by omega)
      have P22 := I22.putO (c := w.heap.size) (.int .u64 (mph : Nat)) (.int .u64 (mpl : Nat)) (by omega)
      have P23 := I23.putO (c := w.heap.size) (.int .u64 (mph : Nat)) (.int .u64 (mpl : Nat)) (by omega)
      have B2 := (HU2.out.setCell (p := ⟨w.heap.size, 0, none⟩) (by show w.heap.size ≤ w.heap.size; omega) (.int .u64 (mph : Nat))).setCell (p := ⟨w.heap.size, 1, none⟩) (by show w.heap.size ≤ w.heap.size; omega) (.int .u64 (mpl : Nat))
      obtain ⟨V2, hV2⟩ : ∃ V, (u2.setCell ⟨w.heap.size, 0, none⟩ (.int .u64 (mph : Nat))).setCell ⟨w.heap.size, 1, none⟩ (.int .u64 (mpl : Nat)) = V := ⟨_, rfl⟩
      rw [hV2] at P20 P21 P22 P23 B2
      have Q20 := hid P20
      have Q21 := hid P21
      have Q22 := hid P22
      have Q23 := hid P23
      have HWV2 := hid B2
      clear hb2 I20 I21 I22 I23 HU2 P20 P21 P22 P23 B2
      obtain ⟨nh, nl, n1, n2, En, wn, cn0, cn1, fn0, fn1⟩ := Q22.out.read
      have D3 : Hid (∀ w, Calls Tryz.prog 92 #[wv q, .int .u64 0] w fun e w' => e = .returned (wv ((2 * q + 0) % 340282366920938463463374607431768211456)) ∧ Below w.heap.size w w') := fun w => WDoub_any q 0 w (by have := hqq.out; omega) (by omega)
      rw [wn, Nat.add_zero] at D3
      obtain ⟨nph, npl, np1, np2, Enp, wnp⟩ := wv_open (2 * q % 340282366920938463463374607431768211456) (Nat.mod_lt _ (by omega))
      rw [wnp] at D3
      have e2q : 2 * q % 340282366920938463463374607431768211456 = 2 * q := Nat.mod_eq_of_lt (by have := hqq.out; omega)
      rw [e2q] at Enp
      clear e2q
      go_wp2_with fail
      clear hV2
      refine (D3.out _).mono ?_
      rintro e u3 ⟨rfl, hb3⟩
      have I30 := Q20.out.below hb3
      have I31 := Q21.out.below hb3
      have I32 := Q22.out.below hb3
      have I33 := Q23.out.below hb3
      have HU3 := hid (HWV2.out.trans (hb3.mono HWV2.out.size))
      obtain ⟨_, _, _, _, _, _, g30, g31, g32, g33⟩ := I32.read
      have P30 := I30.putO (c := w.heap.size + 1 + 1) (.int .u64 (nph : Nat)) (.int .u64 (npl : Nat)) (by omega)
      have P31 := I31.putO (c := w.heap.size + 1 + 1) (.int .u64 (nph : Nat)) (.int .u64 (npl : Nat)) (by omega)
      have P32 := I32.put (v := 2 * q) np1 np2 Enp.out
      have P33 := I33.putO (c := w.heap.size + 1 + 1) (.int .u64 (nph : Nat)) (.int .u64 (npl : Nat)) (by omega)
      have B3 := (HU3.out.setCell (p := ⟨w.heap.size + 1 + 1, 0, none⟩) (by show w.heap.size ≤ w.heap.size + 1 + 1; omega) (.int .u64 (nph : Nat))).setCell (p := ⟨w.heap.size + 1 + 1, 1, none⟩) (by show w.heap.size ≤ w.heap.size + 1 + 1; omega) (.int .u64 (npl : Nat))
      obtain ⟨V3, hV3⟩ : ∃ V, (u3.setCell ⟨w.heap.size + 1 + 1, 0, none⟩ (.int .u64 (nph : Nat))).setCell ⟨w.heap.size + 1 + 1, 1, none⟩ (.int .u64 (npl : Nat)) = V := ⟨_, rfl⟩
      rw [hV3] at P30 P31 P32 P33 B3
      have Q30 := hid P30
      have Q31 := hid P31
      have Q32 := hid P32
      have Q33 := hid P33
      have HWV3 := hid B3
      clear hb3 I30 I31 I32 I33 HU3 P30 P31 P32 P33 B3
      obtain ⟨oh, ol, o1, o2, Eo, wo, co0, co1, fo0, fo1⟩ := Q33.out.read
      obtain ⟨vh, vl, v1, v2, Ev, wvv, cv0, cv1, fv0, fv1⟩ := Q31.out.read
      have D4 := hid (fun w => WLess_any (2 * r + c) B w r2.out (by have := HLT.out; omega))
      rw [wo, wvv] at D4
      by_cases hle : 2 * r + c < B
      · rw [decide_eq_true hle] at D4
        have NX := hid (STP.out.1 hle)
        have HLE := hid hle
        clear hle STP
        go_wp2_with fail
        clear hV3
        refine (D4.out _).mono ?_
        rintro e u4 ⟨rfl, hb4⟩
        have I40 := Q30.out.below hb4
        have I41 := Q31.out.below hb4
        have I42 := Q32.out.below hb4
        have I43 := Q33.out.below hb4
        have HU4 := hid (HWV3.out.trans (hb4.mono HWV3.out.size))
        have Q40 := hid I40
        have Q41 := hid I41
        have Q42 := hid I42
        have Q43 := hid I43
        have HWu4 := hid HU4.out
        clear hb4 I40 I41 I42 I43 HU4
        go_wp2_with fail
        go_roundw
        case rel => exact ⟨k + 1, 2 * a % 340282366920938463463374607431768211456, 2 * q, 2 * r + c, by omega, by go_num, NX.out, Q40.out, Q41.out, Q42.out, Q43.out, HWu4.out⟩
        case measure => simp [intOf]; omega
      · rw [decide_eq_false hle] at D4
        have NX := hid (STP.out.2 hle)
        have HLE := hid hle
        clear hle STP
        go_wp2_with fail
        clear hV3
        refine (D4.out _).mono ?_
        rintro e u5 ⟨rfl, hb5⟩
        have I50 := Q30.out.below hb5
        have I51 := Q31.out.below hb5
        have I52 := Q32.out.below hb5
        have I53 := Q33.out.below hb5
        have HU5 := hid (HWV3.out.trans (hb5.mono HWV3.out.size))
        have Q50 := hid I50
        have Q51 := hid I51
        have Q52 := hid I52
        have Q53 := hid I53
        have HWu5 := hid HU5.out
        clear hb5 I50 I51 I52 I53 HU5
        have D5 := hid (fun w => WMinus_any (2 * r + c) B w r2.out (by have := HLT.out; omega))
        obtain ⟨ph, pl, p1, p2, Ep, wp⟩ := wv_open (2 * r + c - B) (by have := r2.out; omega)
        rw [show (2 * r + c + 340282366920938463463374607431768211456 - B) % 340282366920938463463374607431768211456 = 2 * r + c - B by have := r2.out; have := HLE.out; omega, wp] at D5
        obtain ⟨dh, dl, d1, d2, Ed, wd, cd0, cd1, fd0, fd1⟩ := Q53.out.read
        obtain ⟨eh, el, e1, e2, Ee, we, ce0, ce1, fe0, fe1⟩ := Q51.out.read
        rw [wd, we] at D5
        go_wp2_with fail
        refine (D5.out _).mono ?_
        rintro e u6 ⟨rfl, hb6⟩
        have I60 := Q50.out.below hb6
        have I61 := Q51.out.below hb6
        have I62 := Q52.out.below hb6
        have I63 := Q53.out.below hb6
        have HU6 := hid (HWu5.out.trans (hb6.mono HWu5.out.size))
        obtain ⟨_, _, _, _, _, _, g60, g61, g62, g63⟩ := I63.read
        have P60 := I60.putO (c := w.heap.size + 1 + 1 + 1) (.int .u64 (ph : Nat)) (.int .u64 (pl : Nat)) (by omega)
        have P61 := I61.putO (c := w.heap.size + 1 + 1 + 1) (.int .u64 (ph : Nat)) (.int .u64 (pl : Nat)) (by omega)
        have P62 := I62.putO (c := w.heap.size + 1 + 1 + 1) (.int .u64 (ph : Nat)) (.int .u64 (pl : Nat)) (by omega)
        have P63 := I63.put (v := 2 * r + c - B) p1 p2 Ep.out
        have B6 := (HU6.out.setCell (p := ⟨w.heap.size + 1 + 1 + 1, 0, none⟩) (by show w.heap.size ≤ w.heap.size + 1 + 1 + 1; omega) (.int .u64 (ph : Nat))).setCell (p := ⟨w.heap.size + 1 + 1 + 1, 1, none⟩) (by show w.heap.size ≤ w.heap.size + 1 + 1 + 1; omega) (.int .u64 (pl : Nat))
        obtain ⟨V6, hV6⟩ : ∃ V, (u6.setCell ⟨w.heap.size + 1 + 1 + 1, 0, none⟩ (.int .u64 (ph : Nat))).setCell ⟨w.heap.size + 1 + 1 + 1, 1, none⟩ (.int .u64 (pl : Nat)) = V := ⟨_, rfl⟩
        rw [hV6] at P60 P61 P62 P63 B6
        have Q60 := hid P60
        have Q61 := hid P61
        have Q62 := hid P62
        have Q63 := hid P63
        have HWV6 := hid B6
        clear hb6 I60 I61 I62 I63 HU6 P60 P61 P62 P63 B6
        obtain ⟨th, tl, t1, t2, Et, wt, ct0, ct1, ft0, ft1⟩ := Q62.out.read
        have hor : bits .or .u64 (tl : Int) 1 = ((tl + 1 : Nat) : Int) := by
          have ev : tl = 2 * (tl / 2) := by have := Et.out; omega
          rw [ev]; exact or_even _ 1 (by omega) (by omega)
        have T2 := hid (Q62.out.set1 (z := tl + 1) (v := 2 * q + 1) Et.out t2 (by have := Et.out; have := hqq.out; omega) (by have := Et.out; omega))
        have T0 := hid (Q60.out.set1O (c := w.heap.size + 1 + 1) (.int .u64 ((tl + 1 : Nat) : Int)) (by omega))
        have T1 := hid (Q61.out.set1O (c := w.heap.size + 1 + 1) (.int .u64 ((tl + 1 : Nat) : Int)) (by omega))
        have T3 := hid (Q63.out.set1O (c := w.heap.size + 1 + 1) (.int .u64 ((tl + 1 : Nat) : Int)) (by omega))
        have TB := hid (HWV6.out.setCell (p := ⟨w.heap.size + 1 + 1, 1, none⟩) (by show w.heap.size ≤ w.heap.size + 1 + 1; omega) (.int .u64 ((tl + 1 : Nat) : Int)))
        go_wp2_with fail
        go_roundw
        case rel => exact ⟨k + 1, 2 * a % 340282366920938463463374607431768211456, 2 * q + 1, 2 * r + c - B, by omega, by go_num, NX.out, T0.out, T1.out, T2.out, T3.out, TB.out⟩
        case measure => simp [intOf]; omega
    · obtain rfl : k = 128 := by omega
      have HQ := hid (HD.out.done J1.out.lt)
      obtain ⟨rfl, rfl⟩ := HQ.out
      obtain ⟨qh, ql, q1, q2, EQ, wq, cq0, cq1, fq0, fq1⟩ := J3.out.read
      obtain ⟨rh, rl, r1, r2, ER, wr', cr0, cr1, fr0, fr1⟩ := J4.out.read
      have HBF : Hid (Below w.heap.size w ((((wr.setCell ⟨w.heap.size + 1 + 1, 0, none⟩ (.int .u64 (qh : Nat))).setCell ⟨w.heap.size + 1 + 1, 1, none⟩ (.int .u64 (ql : Nat))).setCell ⟨w.heap.size + 1 + 1 + 1, 0, none⟩ (.int .u64 (rh : Nat))).setCell ⟨w.heap.size + 1 + 1 + 1, 1, none⟩ (.int .u64 (rl : Nat)))) :=
        (((HW.out.setCell (p := ⟨w.heap.size + 1 + 1, 0, none⟩) (by show w.heap.size ≤ w.heap.size + 1 + 1; omega) _).setCell (p := ⟨w.heap.size + 1 + 1, 1, none⟩) (by show w.heap.size ≤ w.heap.size + 1 + 1; omega) _).setCell (p := ⟨w.heap.size + 1 + 1 + 1, 0, none⟩) (by show w.heap.size ≤ w.heap.size + 1 + 1 + 1; omega) _).setCell (p := ⟨w.heap.size + 1 + 1 + 1, 1, none⟩) (by show w.heap.size ≤ w.heap.size + 1 + 1 + 1; omega) _
      have W2 := hid (((J3.out.put (v := A / B) q1 q2 EQ.out).putO (c := w.heap.size + 1 + 1 + 1) (.int .u64 (rh : Nat)) (.int .u64 (rl : Nat)) (by omega)))
      have W3 := hid ((J4.out.putO (c := w.heap.size + 1 + 1) (.int .u64 (qh : Nat)) (.int .u64 (ql : Nat)) (by omega)).put (v := A % B) r1 r2 ER.out)
      clear HQ HD hAx HLT HEB J1 J2 J3 J4 HW
      go_wp2_with fail
      go_region
      revert HBF W2 W3
      generalize ((((wr.setCell ⟨w.heap.size + 1 + 1, 0, none⟩ (.int .u64 (qh : Nat))).setCell ⟨w.heap.size + 1 + 1, 1, none⟩ (.int .u64 (ql : Nat))).setCell ⟨w.heap.size + 1 + 1 + 1, 0, none⟩ (.int .u64 (rh : Nat))).setCell ⟨w.heap.size + 1 + 1 + 1, 1, none⟩ (.int .u64 (rl : Nat))) = V
      intro HBF W2 W3
      obtain ⟨xh, xl, x1, x2, EX, wx, cx0, cx1, -, -⟩ := W2.out.drew.read
      obtain ⟨yh, yl, y1, y2, EY, wy, cy0, cy1, -, -⟩ := W3.out.drew.read
      go_wp2_with fail
      refine bodyPost_ret (v := .tuple #[wv (A / B), wv (A % B)]) ?_ rfl ⟨rfl, HBF.out.drew⟩
      rw [wx, wy]
      simp [results, Tryz.f73, go_sem, cx0, cx1, cy0, cy1]
end Go.Proofs.YtkmpnaohdijpnaaGreatDoor
