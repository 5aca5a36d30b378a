/- rotaref.Det. -/
import Derived.Test.YtpdfaenjmjphpaaFdDaQ
namespace Go.Proofs.Ytpdfaenjmjphpaa
open Go.RowKit

theorem det_fact {p : Int} {c : Nat} {R : List (List Int)} (hm : MatOK p c R) (hl : R.length = c) : -1000000000 ≤ detC p c R 0 1 1 ∧ detC p c R 0 1 1 ≤ 1000000000 ∧ (Int.tmod (detC p c R 0 1 1) p + p) % p = detL p c R (2 ^ c - 1) := by
  have hp2 := isP_pos hm.pr
  have hc6 : c ≤ 6 := by rw [← hl]; exact hm.rl
  have h1 := detC_le hm.pr c hc6 R 0 1 1 (.inl rfl) (by omega) (by omega)
  have h6 : (7 * 6 ^ R.length : Int) ≤ 1000000000 := by
    rw [hl]
    have : c = 0 ∨ c = 1 ∨ c = 2 ∨ c = 3 ∨ c = 4 ∨ c = 5 ∨ c = 6 := by omega
    rcases this with rfl | rfl | rfl | rfl | rfl | rfl | rfl <;> decide
  have e1 := detC_em p c R 0 1 1 (Nat.two_pow_pos c)
  have e2 := detL_em p c R (2 ^ c - 1)
  have e3 := detL_in hm.pr c R (2 ^ c - 1)
  rw [show (1 * 1 * detZ c R (2 ^ c - 1 - 0) : Int) = detZ c R (2 ^ c - 1) by simp] at e1
  have e4 : Em p (detC p c R 0 1 1) (detL p c R (2 ^ c - 1)) := e1.trans e2.symm
  refine ⟨by omega, by omega, ?_⟩
  generalize detC p c R 0 1 1 = s at *
  generalize detL p c R (2 ^ c - 1) = d at *
  obtain ⟨k, hk⟩ : p ∣ s - d := e4
  have h5 : (Int.tmod s p + p) % p = s % p := by
    have := Int.mul_tdiv_add_tmod s p
    rw [Int.add_emod_right]
    conv => rhs; rw [← this]
    rw [Int.mul_add_emod_self_left]
  rw [h5, show s = d + p * k by omega, Int.add_mul_emod_self_left]
  exact Int.emod_eq_of_lt e3.1 e3.2
set_option maxRecDepth 20000 in
set_option maxHeartbeats 2000000 in
theorem Det_ok (p : Int) (c : Nat) (v : Value) (R : List (List Int)) (w : World) (h : RowsI w v R) (hm : MatOK p c R) (hl : R.length = c) :
    Calls Try.prog 10 #[.agg #[.int .i64 p, .int .i64 c, v]] w fun e w' => e = .returned (.int .i64 (detL p c R (2 ^ c - 1))) ∧ Below w.heap.size w w' := by
  have hp2 := isP_pos hm.pr
  have hp0 : (p == 0) = false := by rw [beq_eq_false_iff_ne]; omega
  have hc6 : c ≤ 6 := by rw [← hl]; exact hm.rl
  obtain ⟨f1, f2, f3⟩ := det_fact hm hl
  have D1 : Hid (∀ W, DSt w (w.heap.size + 1) (w.heap.size + 1 + 1) w.heap.size (w.heap.size + 1 + 1 + 1) p c v (detV (w.heap.size + 1) (w.heap.size + 1 + 1) w.heap.size (w.heap.size + 1 + 1 + 1)) 0 W → _) := fun W hS => det1_ok w (w.heap.size + 1) (w.heap.size + 1 + 1) w.heap.size (w.heap.size + 1 + 1 + 1) p c v R h hm hl hc6 R 0 0 1 1 0 W rfl (by omega) (Nat.two_pow_pos c) (.inl rfl) (by omega) (by omega) hS (by
    have h6 : (7 * 6 ^ R.length : Int) ≤ 1000000000 := by
      rw [hl]
      have : c = 0 ∨ c = 1 ∨ c = 2 ∨ c = 3 ∨ c = 4 ∨ c = 5 ∨ c = 6 := by omega
      rcases this with rfl | rfl | rfl | rfl | rfl | rfl | rfl <;> decide
    omega)
  rw [Int.zero_add] at D1
  rw [← f3]
  generalize detC p c R 0 1 1 = s at *
  obtain ⟨W1, hW1⟩ : ∃ W1, w.alloc (.cells #[.int .i64 p, .int .i64 c, v] 24) = W1 := ⟨_, rfl⟩
  have b1 : Below w.heap.size w W1 := by rw [← hW1]; exact (Below.refl w.heap.size w).alloc (Nat.le_refl _) _
  have x1 : W1.heap[w.heap.size]? = some (.cells #[.int .i64 p, .int .i64 c, v] 24 (0, 0)) := by rw [← hW1]; exact World.alloc_heap_new w _
  have z1 : W1.heap.size = w.heap.size + 1 := by rw [← hW1]; exact World.size_alloc w _
  have n2 : Boxed (W1.alloc (.cells #[.int .i64 c] 3)) (w.heap.size + 1) 3 (.int .i64 c) := by rw [← z1]; exact Boxed.new W1 _ _
  have z2 : (W1.alloc (.cells #[.int .i64 c] 3)).heap.size = w.heap.size + 1 + 1 := by rw [World.size_alloc, z1]
  obtain ⟨W2, hW2⟩ : ∃ W2, W1.alloc (.cells #[.int .i64 c] 3) = W2 := ⟨_, rfl⟩
  have b2 : Below W1.heap.size W1 W2 := by rw [← hW2]; exact (Below.refl _ _).alloc (Nat.le_refl _) _
  rw [hW2] at n2 z2
  have s3 : Boxed (W2.alloc (.cells #[.int .i64 0] 3)) (w.heap.size + 1 + 1) 3 (.int .i64 0) := by rw [← z2]; exact Boxed.new W2 _ _
  have z3 : (W2.alloc (.cells #[.int .i64 0] 3)).heap.size = w.heap.size + 1 + 1 + 1 := by rw [World.size_alloc, z2]
  obtain ⟨W3, hW3⟩ : ∃ W3, W2.alloc (.cells #[.int .i64 0] 3) = W3 := ⟨_, rfl⟩
  have b3 : Below W2.heap.size W2 W3 := by rw [← hW3]; exact (Below.refl _ _).alloc (Nat.le_refl _) _
  rw [hW3] at s3 z3
  have q4 : Boxed (W3.alloc (.cells #[detV (w.heap.size + 1) (w.heap.size + 1 + 1) w.heap.size (w.heap.size + 1 + 1 + 1)] 48)) (w.heap.size + 1 + 1 + 1) 48 (detV (w.heap.size + 1) (w.heap.size + 1 + 1) w.heap.size (w.heap.size + 1 + 1 + 1)) := by rw [← z3]; exact Boxed.new W3 _ _
  obtain ⟨W4, hW4⟩ : ∃ W4, W3.alloc (.cells #[detV (w.heap.size + 1) (w.heap.size + 1 + 1) w.heap.size (w.heap.size + 1 + 1 + 1)] 48) = W4 := ⟨_, rfl⟩
  have b4 : Below W3.heap.size W3 W4 := by rw [← hW4]; exact (Below.refl _ _).alloc (Nat.le_refl _) _
  rw [hW4] at q4
  have k1 := three_cells x1
  obtain ⟨k1a, k1b, k1c⟩ := k1
  have k5 := q4.cell
  have S5 : Hid (DSt w (w.heap.size + 1) (w.heap.size + 1 + 1) w.heap.size (w.heap.size + 1 + 1 + 1) p c v (detV (w.heap.size + 1) (w.heap.size + 1 + 1) w.heap.size (w.heap.size + 1 + 1 + 1)) 0 W4) := by
    have z4 := b4.size
    have hb : Below w.heap.size w W4 := ((b1.trans (b2.mono (by omega))).trans (b3.mono (by omega))).trans (b4.mono (by omega))
    have c2 := b2.block w.heap.size (by omega)
    have c3 := b3.block w.heap.size (by omega)
    have c4 := b4.block w.heap.size (by omega)
    have d3 := b3.block (w.heap.size + 1) (by omega)
    have d4 := b4.block (w.heap.size + 1) (by omega)
    have e4 := b4.block (w.heap.size + 1 + 1) (by omega)
    exact ⟨hb, d4.trans (d3.trans n2), e4.trans s3, c4.trans (c3.trans (c2.trans x1)), q4, by omega, by omega, by omega, by omega⟩
  have DD := hid (D1.out _ S5.out)
  clear h hm D1 b1 x1 z1 n2 z2 b2 s3 z3 b3 q4 b4 hl
  subst hW4
  subst hW3
  subst hW2
  subst hW1
  unfold detV at k5 DD
  obtain ⟨t, ht⟩ : ∃ t, Int.tmod s p = t := ⟨_, rfl⟩
  have b1 : -7 < t ∧ t < 7 := by
    rw [← ht]
    have := Int.tmod_lt_of_pos s (show 0 < p by omega)
    have := Int.lt_tmod_of_pos s (show 0 < p by omega)
    omega
  have b2 : 0 ≤ (t + p) % p ∧ (t + p) % p < 7 := by
    have := Int.emod_nonneg (t + p) (show p ≠ 0 by omega)
    have := Int.emod_lt_of_pos (t + p) (show 0 < p by omega)
    omega
  have hlo : -p < t := by rw [← ht]; exact Int.lt_tmod_of_pos s (show 0 < p by omega)
  have e2 : Int.tmod (t + p) p = (t + p) % p := Int.tmod_eq_emod_of_nonneg (by omega)
  rw [ht]
  obtain ⟨y, hy⟩ : ∃ y, (t + p) % p = y := ⟨_, rfl⟩
  rw [hy] at e2 b2 ⊢
  have hw1 : IntKind.i64.wrap t = t := IntWalk.i64_in _ (by omega)
  have hw2 : IntKind.i64.wrap y = y := IntWalk.i64_in _ (by omega)
  clear hy hlo f3
  have hsf := fun (a : Addr) (c : Array Value) (w : World) => run_store Try.prog w a (.func (.func 24) #[] c) .plain rfl
  go_enter Try.func10, Try.ntmps10
  go_wp2_with fail
  refine DD.out.mono ?_
  rintro e w7 ⟨rfl, h7⟩
  have H7 := hid h7
  obtain ⟨g0, g1, g2⟩ := three_cells h7.xx
  have g3 := h7.xs.cell
  clear h7 DD S5 k5 k1a k1b k1c
  go_wp2_with fail
  go_quiet (fail)
  go_wp2_with fail
  go_ret
  exact ⟨rfl, H7.out.bl.trans ((drewN_below _ _ _).mono H7.out.bl.size)⟩
end Go.Proofs.Ytpdfaenjmjphpaa
