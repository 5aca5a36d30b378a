/- rotalaw.Rows of numbers. -/
import Derived.Test.YtjnifcfcigcngaaRfFvQ
import Derived.Test.YtjnifcfcigcngaaRefQ
namespace Go.Proofs.Ytjnifcfcigcngaa
open Go.RowKit

set_option maxRecDepth 20000 in
set_option maxHeartbeats 1000000 in
theorem RowsR_same (a b : Value) (R : List (List Nat)) (w : World) (ha : RowsR w a R) (hb : RowsR w b R) :
    Calls Try.prog 14 #[a, b] w fun e w' => e = .returned (.bool true) ∧ Below w.heap.size w w' := by
  have HA := hid ha
  have HB := hid hb
  obtain ⟨aa, ac, rfl, hl8, -⟩ := ha
  obtain ⟨ba, bc, rfl, -, -⟩ := hb
  have hlen : R.length ≤ 17592186044416 := by omega
  obtain ⟨M, hN⟩ : ∃ M, R.length = M := ⟨_, rfl⟩
  have HN := hid hN
  rw [hN] at hlen hl8 HA HB ⊢
  clear hN
  go_enter Try.func14, Try.ntmps14
  go_wp2_with fail
  go_loopw [5, 13] (fun _ i wr => ∃ k : Nat, k ≤ M ∧ i = .int .i64 k ∧ Hid (Below w.heap.size w wr)) (fun _ i _ => M - (intOf i).toNat)
  case atStart => exact ⟨0, Nat.zero_le _, rfl, Below.refl _ _⟩
  case round =>
    obtain ⟨k, hk, rfl, HW⟩ := hrel
    by_cases hlt : k < M
    · have hki : (k : Int) < (M : Int) := by omega
      have hkR : k < R.length := by rw [HN.out]; exact hlt
      obtain ⟨a1, c1, e1, -, k1⟩ := HA.out.below HW.out
      obtain ⟨b1, u1, f1, g1, cu1, ru1⟩ := k1 k hkR
      obtain ⟨rfl, -, rfl⟩ : aa = a1 ∧ M = R.length ∧ ac = c1 := by simpa using e1
      subst f1
      obtain ⟨a2, c2, e2, -, k2⟩ := HB.out.below HW.out
      obtain ⟨b2, u2, f2, g2, cu2, ru2⟩ := k2 k hkR
      obtain ⟨rfl, -, rfl⟩ : ba = a2 ∧ M = R.length ∧ bc = c2 := by simpa using e2
      subst f2
      have y1 : ∀ z : Later wr, z.now.cell? ⟨b1, k, none⟩ = some u1 := fun z => (z.kept.cell (p := ⟨b1, k, none⟩) g1).trans cu1
      have y2 : ∀ z : Later wr, z.now.cell? ⟨b2, k, none⟩ = some u2 := fun z => (z.kept.cell (p := ⟨b2, k, none⟩) g2).trans cu2
      have SM := hid (fun z : Later wr => Same_any u1 u2 _ _ z.now (ru1.below z.kept) (ru2.below z.kept))
      rw [show decide (N (R.getD k []) = N (R.getD k [])) = true by simp] at SM
      clear k1 k2 ru1 ru2 cu1 cu2 e1 e2 hkR
      go_wp2_with fail
      refine region_later (by kernel_rfl) (by kernel_rfl) ?_
      repeat (go_big_quiet_step ((go_at_call 32; refine (SM.out _).mono ?_; rintro e w' ⟨rfl, h4⟩; exact ⟨rfl, Later.on _ h4⟩)))
      refine wpQuiet_nil ?_
      intro w2 hw'
      obtain ⟨⟨y6, hb13⟩, hw''⟩ := hw'
      dsimp only at hw''
      subst hw''
      have HW2 := hid (HW.out.trans (hb13.mono HW.out.size))
      clear hb13 y1 y2 SM
      go_wp2_with fail
      go_roundw
      case rel => exact ⟨k + 1, by omega, by go_num, HW2.out⟩
      case measure => simp [intOf]; omega
    · obtain rfl : M = k := by omega
      have HW2 := hid HW.out
      go_wp2_with fail
      go_ret
      exact ⟨rfl, HW2.out⟩
end Go.Proofs.Ytjnifcfcigcngaa
