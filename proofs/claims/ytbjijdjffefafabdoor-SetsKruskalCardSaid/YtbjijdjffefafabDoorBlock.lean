/- Contracts of sets.Blocker and sets.Choose. -/
import Derived.Test.YtbjijdjffefafabDoorOwn
namespace Go.Proofs.YtbjijdjffefafabDoor
open Go.RowKit

theorem range_hit {p : Nat → Bool} {k : Nat} (hp : p k = true) : (List.range (k + 1)).filter p = (List.range k).filter p ++ [k] := by
  rw [List.range_succ, List.filter_append, List.filter_cons, hp]; simp
theorem range_miss {p : Nat → Bool} {k : Nat} (hp : p k = false) : (List.range (k + 1)).filter p = (List.range k).filter p := by
  rw [List.range_succ, List.filter_append, List.filter_cons, hp]; simp
theorem range_le (p : Nat → Bool) (k : Nat) : ((List.range k).filter p).length ≤ k := by
  have := List.length_filter_le p (List.range k); simpa using this
theorem famR_nat {n : Int} {zs : List Int} (h : famR n zs = 0) : ∃ m : Nat, n = m ∧ m ≤ 8 := by
  unfold famR at h
  split at h
  · rename_i g; exact ⟨n.toNat, by omega, by omega⟩
  · simp at h
theorem pow_T (n : Nat) (hn : n ≤ 8) : ∃ T : Nat, wrap64 (2 ^ n) = (T : Int) ∧ Hid (T = 2 ^ n) ∧ T ≤ 256 := ⟨2 ^ n, (pow_wrap _ hn).1, rfl, (pow_wrap _ hn).2⟩


theorem Choose_bad (n k : Int) (w : World) (h : ¬ (0 ≤ n ∧ n ≤ 8 ∧ 0 ≤ k ∧ k ≤ n)) :
    Calls Tryd.prog 6 #[.int .i64 n, .int .i64 k] w fun e w' => e = .returned (.tuple #[.slice none 0 0, .int .i64 1]) ∧ w' = w := by
  by_cases hn : 0 ≤ n ∧ n ≤ 8
  · obtain ⟨n0, n1⟩ := hn
    by_cases hk : k < 0
    · go_enter Tryd.func6, Tryd.ntmps6
      go_wp2_with fail
      refine (isGround_yes _ _ n0 n1).mono ?_
      rintro e w' ⟨rfl, rfl⟩
      go_wp2_with fail
      go_ret2
      exact ⟨rfl, rfl⟩
    · have hk2 : n < k := by omega
      have hk3 : decide (k < 0) = false := by simpa using hk
      clear h
      go_enter Tryd.func6, Tryd.ntmps6
      go_wp2_with fail
      refine (isGround_yes _ _ n0 n1).mono ?_
      rintro e w' ⟨rfl, rfl⟩
      go_wp2_with fail
      go_ret2
      exact ⟨rfl, rfl⟩
  · go_enter Tryd.func6, Tryd.ntmps6
    go_wp2_with fail
    refine (isGround_no _ _ (by omega)).mono ?_
    rintro e w' ⟨rfl, rfl⟩
    go_wp2_with fail
    go_ret2
    exact ⟨rfl, rfl⟩

set_option maxHeartbeats 800000 in
theorem Choose_good (n c : Nat) (w : World) (hn : n ≤ 8) (hc : c ≤ n) :
    Calls Tryd.prog 6 #[.int .i64 n, .int .i64 c] w fun e w' => ∃ r, e = .returned (.tuple #[r, .int .i64 0]) ∧ Own w.heap.size w' r ((List.range (2 ^ n)).filter fun s => pop s == c) ∧ Below w.heap.size w w' := by
  obtain ⟨i0, hi, hz0, hz1, hz2⟩ := info_parts Tryd.infoInt
  obtain ⟨T, hT, HT, hT2⟩ := pow_T n hn
  have hc1 : ¬ (c : Int) < 0 := by omega
  have hc2 : ¬ (n : Int) < (c : Int) := by omega
  have hc3 : decide ((c : Int) < 0) = false := by simp
  have hc4 : decide (n < c) = false := by simpa using hc
  go_enter Tryd.func6, Tryd.ntmps6
  go_wp2_with fail
  refine (isGround_yes _ _ (by omega) (by omega)).mono ?_
  rintro e w' ⟨rfl, rfl⟩
  go_wp2_with fail
  rw [hT]
  go_loopw [6, 22] (fun u i wr => ∃ k : Nat, k ≤ T ∧ i = .int .i64 k ∧ Own w'.heap.size wr u ((List.range k).filter fun s => pop s == c) ∧ Below w'.heap.size w' wr) (fun _ i _ => T - (intOf i).toNat)
  case atStart => exact ⟨0, Nat.zero_le _, rfl, Own.nil _ _, Below.refl _ _⟩
  case round =>
    obtain ⟨k, hk, rfl, hown, hnx⟩ := hrel
    have hsz := hnx.size
    by_cases hlt : k < T
    · have Hhit := hid (fun hp => range_hit (p := fun s => pop s == c) (k := k) hp)
      have Hmiss := hid (fun hp => range_miss (p := fun s => pop s == c) (k := k) hp)
      have hfl := range_le (fun s => pop s == c) k
      have HO := hid hown
      have hx : k < 256 := by omega
      clear hown
      generalize (List.range k).filter (fun s => pop s == c) = acc at *
      by_cases hq : pop k = c
      · have hq' : ((pop k : Int) == (c : Int)) = true := by rw [hq]; simp
        have HB : Hid ((pop k == c) = true) := by show (pop k == c) = true; simpa using hq
        clear hq
        go_wp2_with fail
        refine (size_any k _ hx).mono ?_
        rintro e w1 ⟨rfl, rfl⟩
        go_wp2_with (at_builtin; refine wpList_append_own _ rfl _ _ 22 rfl w'.heap.size 3 i0 (.int .i64 0) 1 8 Tryd.underlying22 hi hz0 hz1 hz2 rfl (by decide) _ _ _ rfl (HO.out.alloc _) ⟨w1.heap.size, 0, none⟩ 1 1 [.int .i64 (k : Nat)] rfl rfl ?c1 ?c2 ?c3 ?c4 ?c5 ?_)
        case c1 => exact cell_one_new _ _ _
        case c2 => intro u hu; simp at hu; subst hu; rfl
        case c3 => unfold maxLen; omega
        case c4 => omega
        case c5 => simp; omega
        intro v' w2 hown' hgrow _
        have R1 := hid (Own.snoc hown')
        have R2 := hid (Own.grown HO.out hnx hsz hgrow)
        clear hown' hgrow
        go_wp2_with fail
        go_roundw
        case rel => exact ⟨k + 1, by omega, by go_num, by rw [Hhit.out HB.out]; exact R1.out, R2.out⟩
        case measure => simp [intOf]; omega
      · have hq' : ((pop k : Int) == (c : Int)) = false := by rw [beq_eq_false_iff_ne]; omega
        have HB : Hid ((pop k == c) = false) := by show (pop k == c) = false; simpa using hq
        clear hq
        go_wp2_with fail
        refine (size_any k _ hx).mono ?_
        rintro e w1 ⟨rfl, rfl⟩
        go_wp2_with fail
        go_roundw
        case rel => exact ⟨k + 1, by omega, by go_num, by rw [Hmiss.out HB.out]; exact HO.out, hnx⟩
        case measure => simp [intOf]; omega
    · have hk' : k = T := by omega
      go_wp2_with fail
      go_ret2
      exact ⟨_, rfl, by rw [hk', HT.out] at hown; exact hown, hnx⟩
end Go.Proofs.YtbjijdjffefafabDoor
