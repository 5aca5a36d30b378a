/- Contracts over a function value: rotaref.Those; for whatever function answers as p does. rotaref.All, Has; slices.Index, Contains at []int. -/
import Derived.Test.YtokdldnbanpgbaaRefQ
import Derived.Test.YtokdldnbanpgbaaSieveQ
namespace Go.Proofs.Ytokdldnbanpgbaa
open Go.RowKit

theorem pow_less : ∀ n : Nat, n ≤ 8 → wrap64 (wrap64 (2 ^ n) - 1) = ((2 ^ n : Nat) : Int) - 1 := by decide +kernel
theorem pow_less' : ∀ n : Nat, n ≤ 8 → IntKind.i64.wrap (wrap64 (2 ^ n) - 1) = ((2 ^ n : Nat) : Int) - 1 := by decide +kernel
theorem All_any (n : Nat) (w : World) (hn : n ≤ 8) :
    Calls Try.prog 13 #[.int .i64 n] w fun e w' => e = .returned (.int .i64 (((2 ^ n : Nat) : Int) - 1)) ∧ w' = w := by
  obtain ⟨T, hT, HT, hT2⟩ : ∃ T : Nat, wrap64 (2 ^ n) = (T : Int) ∧ Hid (T = 2 ^ n) ∧ T ≤ 256 := ⟨2 ^ n, (pow_wrap _ hn).1, rfl, (pow_wrap _ hn).2⟩
  have h1 : 1 ≤ T := by rw [HT.out]; exact Nat.one_le_two_pow
  go_enter Try.func13, Try.ntmps13
  go_wp2
  go_ret
  exact ⟨ret_int (by rw [← HT.out]), rfl⟩

set_option maxRecDepth 20000 in
set_option maxHeartbeats 1600000 in
theorem Those_any (n g : Nat) (cs : Array Value) (p : Nat → Bool) (w : World) (hn : n ≤ 8) (eg : Enters g) (hg : AnswersTo w.heap.size w g cs (2 ^ n) p) :
    Calls Try.prog 14 #[.int .i64 n, .func (.func g) #[] cs] w fun e w' => ∃ r, e = .returned r ∧ Own w.heap.size w' r ((List.range (2 ^ n)).filter p) ∧ Below w.heap.size w w' := by
  obtain ⟨i0, hi, hz0, hz1, hz2⟩ := info_parts Try.infoInt
  have HG := hid hg
  clear hg
  unfold Enters at eg
  obtain ⟨T, HT, hT2⟩ : ∃ T : Nat, Hid (T = 2 ^ n) ∧ T ≤ 256 := ⟨2 ^ n, rfl, (pow_wrap _ hn).2⟩
  have HA := hid (fun w => All_any n w hn)
  rw [← HT.out] at HG HA ⊢
  go_enter Try.func14, Try.ntmps14
  go_wp2_with fail
  go_loopw [5, 6] (fun u i wr => ∃ k : Nat, k ≤ T ∧ i = .int .i64 k ∧ Own w.heap.size wr u ((List.range k).filter p) ∧ Below w.heap.size w wr) (fun _ i _ => T - (intOf i).toNat)
  case atStart => exact ⟨0, Nat.zero_le _, rfl, Own.nil _ _, Below.refl _ _⟩
  case round =>
    obtain ⟨k, hk, rfl, hown, hnx⟩ := hrel
    have hsz := hnx.size
    by_cases hlt : k < T
    · have Hhit := hid (fun hp => range_hit' (p := p) (k := k) hp)
      have Hmiss := hid (fun hp => range_miss' (p := p) (k := k) hp)
      have hfl := range_le' p k
      have HO := hid hown
      have G := hid (HG.out k hlt wr hnx hsz)
      clear hown
      generalize (List.range k).filter p = acc at *
      have hle : (k : Int) ≤ (T : Int) - 1 := by omega
      rcases hq : p k with _ | _
      · have HQ := hid hq
        clear hq
        go_wp2_with fail
        refine (HA.out _).mono ?_
        rintro e w1 ⟨rfl, rfl⟩
        go_wp2_with fail
        refine G.out.mono ?_
        rw [HQ.out]
        rintro e w2 ⟨rfl, hb2⟩
        have R1 := hid (HO.out.below hb2)
        have R2 := hid (hnx.trans (hb2.mono hsz))
        clear hb2
        go_wp2_with fail
        go_roundw
        case rel => exact ⟨k + 1, by omega, by go_num, by rw [Hmiss.out HQ.out]; exact R1.out, R2.out⟩
        case measure => simp [intOf]; omega
      · have HQ := hid hq
        clear hq
        go_wp2_with fail
        refine (HA.out _).mono ?_
        rintro e w1 ⟨rfl, rfl⟩
        go_wp2_with fail
        refine G.out.mono ?_
        rw [HQ.out]
        rintro e w2 ⟨rfl, hb2⟩
        have R1 := hid (HO.out.below hb2)
        have R2 := hnx.trans (hb2.mono hsz)
        have hs2 := hb2.size
        clear hb2
        go_wp2_with (at_builtin; refine wpList_append_own _ rfl _ _ 29 rfl w.heap.size 3 i0 (.int .i64 0) 1 8 Try.underlying29 hi hz0 hz1 hz2 rfl (by decide) _ _ _ rfl (R1.out.alloc _) ⟨w2.heap.size, 0, none⟩ 1 1 [.int .i64 (k : Nat)] rfl rfl ?c1 ?c2 ?c3 ?c4 ?c5 ?_)
        case c1 => exact cell_one_new _ _ _
        case c2 => intro u hu; simp at hu; subst hu; rfl
        case c3 => unfold maxLen; omega
        case c4 => omega
        case c5 => simp; omega
        intro v' w3 hown' hgrow _
        have R3 := hid (Own.snoc hown')
        have R4 := hid (Own.grown R1.out R2 (by omega) hgrow)
        clear hown' hgrow
        go_wp2_with fail
        go_roundw
        case rel => exact ⟨k + 1, by omega, by go_num, by rw [Hhit.out HQ.out]; exact R3.out, R4.out⟩
        case measure => simp [intOf]; omega
    · have hk' : k = T := by omega
      subst hk'
      go_wp2_with fail
      refine (HA.out _).mono ?_
      rintro e w1 ⟨rfl, rfl⟩
      go_wp2_with fail
      go_ret
      exact ⟨_, rfl, hown, hnx⟩

end Go.Proofs.Ytokdldnbanpgbaa
