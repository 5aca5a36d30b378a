/- axioms.isFlat, axioms.isHyperplane. -/
import Derived.Test.YthbldeloocmakaaQBelQ
import Derived.Test.YthbldeloocmakaaCloQ
namespace Go.Proofs.Ythbldeloocmakaa
open Go.RowKit

theorem isFlat_any (v : Value) (n : Nat) (r : Nat → Nat) (s : Nat) (w : World) (hn : n ≤ 8) (hs : s < 2 ^ n) (h : RkAt w v (2 ^ n) r) :
    Calls Try.prog 65 #[v, .int .i64 s] w fun e w' => e = .returned (.bool (flatB r n s)) ∧ Below w.heap.size w w' := by
  have HC := hid (closure_any v n r s w hn hs h)
  obtain ⟨b, off, cap, rfl, _, _⟩ := h
  unfold flatB
  generalize cl r n s = q at *
  generalize 2 ^ n = T at *
  go_enter Try.func65, Try.ntmps65
  go_wp2_with fail
  refine HC.out.mono ?_
  rintro e w' ⟨rfl, hb⟩
  have HB := hid hb
  clear hb
  go_wp2_with fail
  go_ret
  exact ⟨ret_bool (by rw [Bool.eq_iff_iff, beq_iff_eq, beq_iff_eq]; omega), HB.out⟩

set_option maxRecDepth 20000 in
set_option maxHeartbeats 4000000 in
theorem isHyp_any (v : Value) (n : Nat) (r : Nat → Nat) (s : Nat) (w : World) (hn : n ≤ 8) (hs : s < 2 ^ n) (hr : ∀ i, r i ≤ 8) (h : RkAt w v (2 ^ n) r) :
    Calls Try.prog 66 #[v, .int .i64 s] w fun e w' => e = .returned (.bool (hypB r n s)) ∧ Below w.heap.size w w' := by
  have HF := hid (fun x : Later w => isFlat_any v n r s x.now hn hs (h.below x.kept))
  have HR := hid (fun x : Later w => h.below x.kept)
  obtain ⟨b, off, cap, rfl, _, _⟩ := h
  unfold hypB
  obtain ⟨T, HT, hT2, hT1⟩ : ∃ T : Nat, Hid (T = 2 ^ n) ∧ T ≤ 256 ∧ 1 ≤ T := ⟨2 ^ n, rfl, (pow_wrap _ hn).2, Nat.one_le_two_pow⟩
  rw [← HT.out] at HR hs HF ⊢
  have r1 : ∀ x : Later w, x.now.cell? ⟨b, off + s, none⟩ = some (.int .i64 (r s : Nat)) := fun x => by
    obtain ⟨b', off', cap', heq, hbl, hcells⟩ := HR.out x
    obtain ⟨⟨rfl, rfl⟩, rfl⟩ : (b = b' ∧ off = off') ∧ cap = cap' := by simpa using heq
    exact hcells s hs
  have r2 : ∀ x : Later w, x.now.cell? ⟨b, off + (T - 1), none⟩ = some (.int .i64 (r (T - 1) : Nat)) := fun x => by
    obtain ⟨b', off', cap', heq, hbl, hcells⟩ := HR.out x
    obtain ⟨⟨rfl, rfl⟩, rfl⟩ : (b = b' ∧ off = off') ∧ cap = cap' := by simpa using heq
    exact hcells (T - 1) (by omega)
  have h8 := hr s
  have h8' := hr (T - 1)
  rcases hq : flatB r n s with _ | _
  · have HQ := hid hq
    clear hq
    go_enter Try.func66, Try.ntmps66
    go_wp2_with fail
    refine region_later (by kernel_rfl) (by kernel_rfl) ?_
    repeat (go_big_quiet_step ((go_at_call 65; refine (HF.out _).mono ?_; rw [HQ.out]; rintro e w' ⟨rfl, hb⟩; exact ⟨rfl, Later.on _ hb⟩)))
    refine wpQuiet_nil ?_
    intro _ hw'
    obtain ⟨x, hw''⟩ := hw'
    subst hw''
    go_wp2_with fail
    go_ret
    exact ⟨rfl, x.kept⟩
  · have HQ := hid hq
    clear hq
    go_enter Try.func66, Try.ntmps66
    go_wp2_with fail
    refine region_later (by kernel_rfl) (by kernel_rfl) ?_
    repeat (go_big_quiet_step ((go_at_call 65; refine (HF.out _).mono ?_; rw [HQ.out]; rintro e w' ⟨rfl, hb⟩; exact ⟨rfl, Later.on _ hb⟩)))
    refine wpQuiet_nil ?_
    intro _ hw'
    obtain ⟨x, hw''⟩ := hw'
    subst hw''
    go_wp2_with fail
    go_ret
    exact ⟨ret_bool (by rw [Bool.true_and, Bool.eq_iff_iff, beq_iff_eq, beq_iff_eq]; omega), x.kept⟩
end Go.Proofs.Ythbldeloocmakaa
