/- slices.Index, Contains of edges. -/
import Derived.Test.YtmbkjiglbgnamaaKRingQ
import Derived.Test.YtmbkjiglbgnamaaQBelQ
namespace Go.Proofs.Ytmbkjiglbgnamaa
open Go.RowKit

/-- Is the edge from A to B among the first k ones? -/
def cntE (E : List (Nat × Nat)) (A B : Nat) : Nat → Bool
  | 0 => false
  | k + 1 => cntE E A B k || (ea E k == A && eb E k == B)
theorem cnt_yes {E : List (Nat × Nat)} {A B : Nat} : ∀ {k j : Nat}, j < k → ea E j = A → eb E j = B → cntE E A B k = true
  | 0, j, h, _, _ => absurd h (Nat.not_lt_zero j)
  | k + 1, j, h, h1, h2 => by
    rw [cntE, Bool.or_eq_true]
    by_cases e : j = k
    · subst e
      right
      simp [h1, h2]
    · exact Or.inl (cnt_yes (by omega) h1 h2)
theorem cnt_less {E : List (Nat × Nat)} {A B k : Nat} (h : cntE E A B k = true) : ∀ n, k ≤ n → cntE E A B n = true := fun n hn => by
  induction n with
  | zero => rw [show k = 0 by omega] at h; exact h
  | succ n ih =>
    by_cases e : k = n + 1
    · rw [← e]; exact h
    · rw [cntE, ih (by omega)]; rfl
set_option maxRecDepth 20000 in
set_option maxHeartbeats 1600000 in
theorem IndexE_any (v : Value) (E : List (Nat × Nat)) (A B : Nat) (w : World) (h : EdgesAt w v E) :
    Calls Try.prog 21 #[v, .agg #[.int .i64 A, .int .i64 B]] w fun e w' => ∃ r : Int, e = .returned (.int .i64 r) ∧ decide (0 ≤ r) = cntE E A B E.length ∧ Below w.heap.size w w' := by
  obtain ⟨a, cap, rfl, hlen, hc⟩ := h
  have HB0 : Hid (Below w.heap.size w (w.alloc (.cells #[.int .i64 A, .int .i64 B] 29))) := (Below.refl _ _).alloc (Nat.le_refl _) _
  have HN := hid (World.alloc_heap_new w (.cells #[.int .i64 A, .int .i64 B] 29))
  go_enter Try.func21, Try.ntmps21
  go_wp2_with fail
  revert HB0 HN
  generalize w.alloc (.cells #[.int .i64 A, .int .i64 B] 29) = W0
  intro HB0 HN
  have hW0 : w.heap.size < W0.heap.size := (Array.getElem?_eq_some_iff.1 HN.out).1
  have BX : Hid (∀ W, Below W0.heap.size W0 W → W.cell? ⟨w.heap.size, 0, none⟩ = some (.int .i64 A) ∧ W.cell? ⟨w.heap.size, 1, none⟩ = some (.int .i64 B)) := fun W hW => by
    obtain ⟨q0, q1, _, _⟩ := two_cells ((hW.block w.heap.size hW0).trans HN.out)
    exact ⟨q0, q1⟩
  go_loopw [5, 8] (fun _ i wr => ∃ k : Nat, k ≤ E.length ∧ i = .int .i64 k ∧ cntE E A B k = false ∧ Hid (Below W0.heap.size W0 wr)) (fun _ i _ => E.length - (intOf i).toNat)
  case atStart => exact ⟨0, Nat.zero_le _, rfl, rfl, Below.refl _ _⟩
  case round =>
    obtain ⟨k, hk, rfl, hno, HW⟩ := hrel
    have NO := hid hno
    clear hno
    obtain ⟨q0, q1⟩ := BX.out wr HW.out
    by_cases hlt : k < E.length
    · have hki : (k : Int) < (E.length : Int) := by omega
      obtain ⟨b, off, rfl, hb, hcell⟩ := hc (by omega)
      have HB2 := hid (HB0.out.trans (HW.out.mono HB0.out.size))
      have cA := (HB2.out.cell (p := ⟨b, off + k * 2, none⟩) hb).trans (hcell k hlt).1
      have cB := (HB2.out.cell (p := ⟨b, off + k * 2 + 1, none⟩) hb).trans (hcell k hlt).2
      have ST : Hid (cntE E A B (k + 1) = (cntE E A B k || (ea E k == A && eb E k == B))) := rfl
      have LS : Hid (cntE E A B (k + 1) = true → cntE E A B E.length = true) := fun h => cnt_less h _ (by omega)
      rw [NO.out, Bool.false_or] at ST
      clear hcell hc
      generalize ea E k = X at *
      generalize eb E k = Y at *
      by_cases hX : X = A
      · by_cases hY : Y = B
        · subst hX hY
          have DN := hid (LS.out (by rw [ST.out]; simp))
          go_wp2_with fail
          go_quiet (fail)
          go_wp2_with fail
          go_ret
          exact ⟨k, rfl, by rw [DN.out]; simp, HB0.out.trans ((HW.out.trans (drewN_below _ _ _)).mono HB0.out.size)⟩
        · have hY2 : ((B : Int) == (Y : Int)) = false := by rw [beq_eq_false_iff_ne]; omega
          have S9 : Hid (cntE E A B (k + 1) = false) := by show _ = _; rw [ST.out]; simp [hY]
          subst hX
          go_wp2_with fail
          go_quiet (fail)
          go_wp2_with fail
          go_roundw
          case rel => exact ⟨k + 1, by omega, by go_num, S9.out, HW.out.trans (drewN_below _ _ _)⟩
          case measure => simp [intOf]; omega
      · have hX2 : ((A : Int) == (X : Int)) = false := by rw [beq_eq_false_iff_ne]; omega
        have S9 : Hid (cntE E A B (k + 1) = false) := by show _ = _; rw [ST.out]; simp [hX]
        go_wp2_with fail
        go_quiet (fail)
        go_wp2_with fail
        go_roundw
        case rel => exact ⟨k + 1, by omega, by go_num, S9.out, HW.out.trans (drewN_below _ _ _)⟩
        case measure => simp [intOf]; omega
    · obtain rfl : k = E.length := by omega
      have B9 := hid (HB0.out.trans (HW.out.mono HB0.out.size))
      go_wp2_with fail
      go_ret
      exact ⟨-1, rfl, by rw [NO.out]; rfl, B9.out⟩
theorem ContainsE_any (v : Value) (E : List (Nat × Nat)) (A B : Nat) (w : World) (h : EdgesAt w v E) :
    Calls Try.prog 11 #[v, .agg #[.int .i64 A, .int .i64 B]] w fun e w' => e = .returned (.bool (cntE E A B E.length)) ∧ Below w.heap.size w w' := by
  have HB0 : Hid (Below w.heap.size w (w.alloc (.cells #[.int .i64 A, .int .i64 B] 29))) := (Below.refl _ _).alloc (Nat.le_refl _) _
  have IX := hid (IndexE_any v E A B _ (h.below HB0.out))
  have HN := hid (World.alloc_heap_new w (.cells #[.int .i64 A, .int .i64 B] 29))
  obtain ⟨a, cap, rfl, hlen, hc⟩ := h
  clear hc
  go_enter Try.func11, Try.ntmps11
  go_wp2_with fail
  refine IX.out.mono ?_
  rintro e w2 ⟨r, rfl, hr, hb⟩
  have B2 := hid (HB0.out.trans (hb.mono HB0.out.size))
  clear hb IX HN HB0
  have HR := hid hr
  clear hr
  go_wp2_with fail
  go_ret
  exact ⟨by rw [← HR.out]; rfl, B2.out⟩
end Go.Proofs.Ytmbkjiglbgnamaa
