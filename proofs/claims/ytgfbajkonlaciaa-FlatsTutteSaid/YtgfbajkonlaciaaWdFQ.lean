/- the text of a number of 128 bits, with its sign. -/
import Derived.Test.YtgfbajkonlaciaaWdEQ
namespace Go.Proofs.Ytgfbajkonlaciaa
open Go.RowKit Go.Lib

theorem decT_len {u : Nat} (h : u < 340282366920938463463374607431768211456) : (decT u).length ≤ 39 := by
  unfold decT
  have := dgs_len 38 u (by omega)
  simpa using this
/-- A whole number's 128 bits. -/
def zto (z : Int) : Nat := (z % 340282366920938463463374607431768211456).toNat
theorem zto_lt (z : Int) : zto z < 340282366920938463463374607431768211456 := by unfold zto; omega
/-- The text of a whole number. -/
def decZ (z : Int) : List UInt8 := if z < 0 then 45 :: decT (-z).toNat else decT z.toNat
theorem zto_add (x y : Int) : (zto x + zto y) % 340282366920938463463374607431768211456 = zto (x + y) := by unfold zto; omega
theorem zto_mul (x y : Int) : (zto x * zto y) % 340282366920938463463374607431768211456 = zto (x * y) := by
  unfold zto
  have h1 : ((((x % 340282366920938463463374607431768211456).toNat * (y % 340282366920938463463374607431768211456).toNat % 340282366920938463463374607431768211456 : Nat)) : Int) = x * y % 340282366920938463463374607431768211456 := by
    rw [Int.natCast_emod, Int.natCast_mul, Int.toNat_of_nonneg (Int.emod_nonneg _ (by omega)), Int.toNat_of_nonneg (Int.emod_nonneg _ (by omega))]
    exact (Int.mul_emod x y 340282366920938463463374607431768211456).symm
  omega
set_option maxRecDepth 20000 in
theorem Wsize_any (u : Nat) (w : World) (hu : u < 340282366920938463463374607431768211456) : Calls Try.prog 42 #[wv u] w fun e w' => e = .returned (wv (if 170141183460469231731687303715884105728 ≤ u then 340282366920938463463374607431768211456 - u else u)) ∧ Below w.heap.size w w' := by
  obtain ⟨ah, al, h1, h2, HA, ea⟩ := wv_open u hu
  have NG := hid (fun w => WNeg_any u w hu)
  rw [ea] at NG ⊢
  have C1 : Hid (∀ w2, Below ((w.alloc (.cells #[.int .u64 (ah : Nat), .int .u64 (al : Nat)] 45)).alloc (.cells #[.int .u64 0, .int .u64 0] 45)).heap.size ((w.alloc (.cells #[.int .u64 (ah : Nat), .int .u64 (al : Nat)] 45)).alloc (.cells #[.int .u64 0, .int .u64 0] 45)) w2 → w2.heap[w.heap.size]? = some (.cells #[.int .u64 (ah : Nat), .int .u64 (al : Nat)] 45 (0, 0)) ∧ w2.heap[w.heap.size + 1]? = some (.cells #[.int .u64 0, .int .u64 0] 45 (0, 0))) := fun w2 hb => by
    refine ⟨(hb.block _ (by simp; omega)).trans ?_, (hb.block _ (by simp)).trans ?_⟩
    · rw [Below.heap_alloc _ _ _ (by simp)]
      exact World.alloc_heap_new w _
    · have := World.alloc_heap_new (w.alloc (.cells #[.int .u64 (ah : Nat), .int .u64 (al : Nat)] 45)) (.cells #[.int .u64 0, .int .u64 0] 45)
      simpa using this
  have B0 := hid (((Below.refl _ w).alloc (Nat.le_refl _) (.cells #[.int .u64 (ah : Nat), .int .u64 (al : Nat)] 45)).alloc (by simp) (.cells #[.int .u64 0, .int .u64 0] 45))
  by_cases hq : 170141183460469231731687303715884105728 ≤ u
  · rw [if_pos hq]
    rw [decide_eq_true hq] at NG
    obtain ⟨nh, nl, n1, n2, EN, wn⟩ := wv_open (340282366920938463463374607431768211456 - u) (by omega)
    have MI : Hid (∀ w, Calls Try.prog 61 #[.agg #[.int .u64 0, .int .u64 0], .agg #[.int .u64 (ah : Nat), .int .u64 (al : Nat)]] w fun e w' => e = .returned (.agg #[.int .u64 (nh : Nat), .int .u64 (nl : Nat)]) ∧ Below w.heap.size w w') := fun w => by
      have := WMinus_any 0 u w (by omega) hu
      rw [ea, show (0 + 340282366920938463463374607431768211456 - u) % 340282366920938463463374607431768211456 = 340282366920938463463374607431768211456 - u by omega, wn] at this
      exact this
    rw [wn]
    clear hq ea
    go_enter Try.func42, Try.ntmps42
    go_wp2_with fail
    refine (NG.out _).mono ?_
    rintro e w2 ⟨rfl, hb2⟩
    obtain ⟨k1, k2⟩ := C1.out w2 hb2
    have c1 := two_cells k1
    have K2 := hid k2
    have HB2 := hid (B0.out.trans (hb2.mono B0.out.size))
    clear hb2 k1 k2
    go_wp2_with fail
    refine (MI.out _).mono ?_
    rintro e w3 ⟨rfl, hb3⟩
    have hsz : w.heap.size + 1 < w2.heap.size := (Array.getElem?_eq_some_iff.1 K2.out).1
    have k3 := (hb3.block _ hsz).trans K2.out
    have c2 := two_cells k3
    have V3 := set_heap_1 (x := .int .u64 (nl : Nat)) (set_heap_0 (x := .int .u64 (nh : Nat)) k3)
    have HB3 := hid (below_two (b := w.heap.size + 1) (x := .int .u64 (nh : Nat)) (y := .int .u64 (nl : Nat)) (HB2.out.trans (hb3.mono HB2.out.size)) (by omega))
    have c3 := two_cells V3
    clear hb3
    go_wp2_with fail
    refine bodyPost_ret (v := .agg #[.int .u64 (nh : Nat), .int .u64 (nl : Nat)]) ?_ rfl ⟨rfl, HB3.out⟩
    simp [results, Try.f42, go_sem, c3]
  · rw [if_neg hq]
    rw [decide_eq_false hq] at NG
    rw [ea]
    clear hq ea
    go_enter Try.func42, Try.ntmps42
    go_wp2_with fail
    refine (NG.out _).mono ?_
    rintro e w2 ⟨rfl, hb2⟩
    obtain ⟨k1, k2⟩ := C1.out w2 hb2
    have c1 := two_cells k1
    have c2 := two_cells k2
    have V3 := set_heap_1 (x := .int .u64 (al : Nat)) (set_heap_0 (x := .int .u64 (ah : Nat)) k2)
    have HB3 := hid (below_two (b := w.heap.size + 1) (x := .int .u64 (ah : Nat)) (y := .int .u64 (al : Nat)) (B0.out.trans (hb2.mono B0.out.size)) (by omega))
    have c3 := two_cells V3
    clear hb2
    go_wp2_with fail
    refine bodyPost_ret (v := .agg #[.int .u64 (ah : Nat), .int .u64 (al : Nat)]) ?_ rfl ⟨rfl, HB3.out⟩
    simp [results, Try.f42, go_sem, c3]
set_option maxRecDepth 20000 in
theorem WString_any (z : Int) (w : World) (h1 : -170141183460469231731687303715884105728 ≤ z) (h2 : z < 170141183460469231731687303715884105728) : Calls Try.prog 20 #[wv (zto z)] w fun e w' => e = .returned (.string ⟨(decZ z).toArray⟩) ∧ Below w.heap.size w w' := by
  obtain ⟨ah, al, h3, h4, HA, ea⟩ := wv_open (zto z) (zto_lt z)
  have NG := hid (fun w => WNeg_any (zto z) w (zto_lt z))
  have SZ := hid (fun w => Wsize_any (zto z) w (zto_lt z))
  have DG := hid (fun w => digits_any (zto z) w (zto_lt z))
  have C1 : Hid (∀ w2, Below (w.alloc (.cells #[.int .u64 (ah : Nat), .int .u64 (al : Nat)] 45)).heap.size (w.alloc (.cells #[.int .u64 (ah : Nat), .int .u64 (al : Nat)] 45)) w2 → w2.heap[w.heap.size]? = some (.cells #[.int .u64 (ah : Nat), .int .u64 (al : Nat)] 45 (0, 0))) := fun w2 hb => (hb.block _ (by simp)).trans (World.alloc_heap_new w _)
  have B0 := hid ((Below.refl _ w).alloc (Nat.le_refl _) (.cells #[.int .u64 (ah : Nat), .int .u64 (al : Nat)] 45))
  by_cases hq : z < 0
  · have hz : 170141183460469231731687303715884105728 ≤ zto z := by unfold zto; omega
    rw [decide_eq_true hz] at NG
    rw [if_pos hz, show 340282366920938463463374607431768211456 - zto z = (-z).toNat by unfold zto; omega] at SZ
    obtain ⟨nh, nl, n1, n2, EN, wn⟩ := wv_open (-z).toNat (by omega)
    have DG2 := hid (fun w => digits_any (-z).toNat w (by omega))
    rw [wn] at SZ DG2
    rw [ea] at NG SZ ⊢
    have DZ : Hid (decZ z = 45 :: decT (-z).toNat) := if_pos hq
    rw [DZ.out]
    clear DG hq hz ea wn
    have hdl := decT_len (u := (-z).toNat) (by omega)
    generalize decT (-z).toNat = dt at *
    go_enter Try.func20, Try.ntmps20
    go_wp2_with fail
    refine (NG.out _).mono ?_
    rintro e w2 ⟨rfl, hb2⟩
    have c1 := two_cells (C1.out w2 hb2)
    have HB2 := hid (B0.out.trans (hb2.mono B0.out.size))
    clear hb2
    go_wp2_with fail
    refine (SZ.out _).mono ?_
    rintro e w3 ⟨rfl, hb3⟩
    have HB3 := hid (HB2.out.trans (hb3.mono HB2.out.size))
    clear hb3
    go_wp2_with fail
    refine (DG2.out _).mono ?_
    rintro e w4 ⟨rfl, hb4⟩
    have HB4 := hid (HB3.out.trans (hb4.mono HB3.out.size))
    clear hb4
    have hcat : ¬ 9223372036854775807 < 1 + dt.length := by omega
    have hcat2 : Hid ((⟨#[45]⟩ : ByteArray) ++ ⟨dt.toArray⟩ = ⟨(45 :: dt).toArray⟩) := by
      show _ = _
      apply ByteArray.ext
      simp
    go_wp2_with fail
    rw [hcat2.out]
    go_ret
    exact ⟨rfl, HB4.out⟩
  · have hz : ¬ 170141183460469231731687303715884105728 ≤ zto z := by unfold zto; omega
    rw [decide_eq_false hz] at NG
    have e9 : zto z = z.toNat := by unfold zto; omega
    have DZ : Hid (decZ z = decT (zto z)) := by show _ = _; unfold decZ; rw [if_neg hq, e9]
    rw [DZ.out]
    rw [ea] at NG DG ⊢
    clear SZ hq hz ea
    generalize decT (zto z) = dt at *
    go_enter Try.func20, Try.ntmps20
    go_wp2_with fail
    refine (NG.out _).mono ?_
    rintro e w2 ⟨rfl, hb2⟩
    have c1 := two_cells (C1.out w2 hb2)
    have HB2 := hid (B0.out.trans (hb2.mono B0.out.size))
    clear hb2
    go_wp2_with fail
    refine (DG.out _).mono ?_
    rintro e w4 ⟨rfl, hb4⟩
    have HB4 := hid (HB2.out.trans (hb4.mono HB2.out.size))
    clear hb4
    go_wp2_with fail
    go_ret
    exact ⟨rfl, HB4.out⟩
end Go.Proofs.Ytgfbajkonlaciaa
