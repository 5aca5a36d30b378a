/- sets.Sieve, for whatever function answers as p does. -/
import Derived.Test.YtgkkemlemnlchaaOwnQ
namespace Go.Proofs.Ytgkkemlemnlchaa
open Go.RowKit

/-- A function value that answers as p does below T, wherever nothing below B has turned. -/
def AnswersTo (B : Nat) (w : World) (g : Nat) (cs : Array Value) (T : Nat) (p : Nat → Bool) : Prop :=
  ∀ x, x < T → ∀ w1, Below B w w1 → B ≤ w1.heap.size → Calls Try.prog g (#[.int .i64 (x : Nat)] ++ cs) w1 fun e w2 => e = .returned (.bool (p x)) ∧ Below w1.heap.size w1 w2
/-- The function can be entered. -/
def Enters (g : Nat) : Prop := ∀ (args : Array Value) (w : World), (callFunc g args).run Try.prog w = .ok (.enter g args) w
theorem rg_hit {p : Nat → Bool} {k : Nat} (hp : p k = true) : (List.range (k + 1)).filter p = (List.range k).filter p ++ [k] := by
  rw [List.range_succ, List.filter_append]; simp [hp]
theorem rg_miss {p : Nat → Bool} {k : Nat} (hp : p k = false) : (List.range (k + 1)).filter p = (List.range k).filter p := by
  rw [List.range_succ, List.filter_append]; simp [hp]
theorem rg_le (p : Nat → Bool) (k : Nat) : ((List.range k).filter p).length ≤ k := by
  have := List.length_filter_le p (List.range k)
  rwa [List.length_range] at this

set_option maxHeartbeats 1600000 in
theorem Sieve_any (n g : Nat) (cs : Array Value) (p : Nat → Bool) (w : World) (hn : n ≤ 8) (eg : Enters g) (hg : AnswersTo w.heap.size w g cs (2 ^ n) p) :
    Calls Try.prog 14 #[.int .i64 n, .func (.func g) #[] cs] w fun e w' => ∃ r, e = .returned r ∧ Own w.heap.size w' r ((List.range (2 ^ n)).filter p) ∧ Below w.heap.size w w' := by
  obtain ⟨i0, hi, hz0, hz1, hz2⟩ := info_parts Try.infoInt
  have HG := hid hg
  clear hg
  unfold Enters at eg
  obtain ⟨T, HT, hT2, hT⟩ : ∃ T : Nat, Hid (T = 2 ^ n) ∧ T ≤ 256 ∧ wrap64 (2 ^ n) = (T : Int) := ⟨2 ^ n, rfl, (pow_wrap _ hn).2, (pow_wrap _ hn).1⟩
  rw [← HT.out] at HG ⊢
  go_enter Try.func14, Try.ntmps14
  go_wp2_with fail
  try rw [hT]
  go_loopw [5, 9] (fun u i wr => ∃ k : Nat, k ≤ T ∧ i = .int .i64 k ∧ Own w.heap.size wr u ((List.range k).filter p) ∧ Below w.heap.size w wr) (fun _ i _ => T - (intOf i).toNat)
  case atStart => exact ⟨0, Nat.zero_le _, rfl, Own.nil _ _, Below.refl _ _⟩
  case round =>
    obtain ⟨k, hk, rfl, hown, hnx⟩ := hrel
    have hsz := hnx.size
    by_cases hlt : k < T
    · have Hhit := hid (fun hp => rg_hit (p := p) (k := k) hp)
      have Hmiss := hid (fun hp => rg_miss (p := p) (k := k) hp)
      have hfl := rg_le p k
      have HO := hid hown
      have G := hid (HG.out k hlt wr hnx hsz)
      clear hown
      generalize (List.range k).filter p = acc at *
      rcases hq : p k with _ | _
      · have HQ := hid hq
        clear hq
        go_wp2_with fail
        refine G.out.mono ?_
        rw [HQ.out]
        rintro e w2 ⟨rfl, hb2⟩
        have R1 := hid (HO.out.below hb2)
        have R2 := hid (hnx.trans (hb2.mono hsz))
        clear hb2
        go_wp2_with fail
        go_roundw
        case rel => exact ⟨k + 1, by omega, by go_num, by rw [Hmiss.out HQ.out]; exact R1.out, R2.out⟩
        case measure => simp [intOf]; omega
      · have HQ := hid hq
        clear hq
        go_wp2_with fail
        refine G.out.mono ?_
        rw [HQ.out]
        rintro e w2 ⟨rfl, hb2⟩
        have R1 := hid (HO.out.below hb2)
        have R2 := hnx.trans (hb2.mono hsz)
        have hs2 := hb2.size
        clear hb2
        go_wp2_with (at_builtin; refine wpList_append_own _ rfl _ _ 25 rfl w.heap.size 3 i0 (.int .i64 0) 1 8 Try.underlying25 hi hz0 hz1 hz2 rfl (by decide) _ _ _ rfl (R1.out.alloc _) ⟨w2.heap.size, 0, none⟩ 1 1 [.int .i64 (k : Nat)] rfl rfl ?c1 ?c2 ?c3 ?c4 ?c5 ?_)
        case c1 => exact cell_one_new _ _ _
        case c2 => intro u hu; simp at hu; subst hu; rfl
        case c3 => unfold maxLen; omega
        case c4 => omega
        case c5 => simp; omega
        intro v' w3 hown' hgrow _
        have R3 := hid (Own.snoc hown')
        have R4 := hid (Own.grown R1.out R2 (by omega) hgrow)
        clear hown' hgrow
        go_wp2_with fail
        go_roundw
        case rel => exact ⟨k + 1, by omega, by go_num, by rw [Hhit.out HQ.out]; exact R3.out, R4.out⟩
        case measure => simp [intOf]; omega
    · have hk' : k = T := by omega
      subst hk'
      go_wp2_with fail
      go_ret
      exact ⟨_, rfl, hown, hnx⟩
end Go.Proofs.Ytgkkemlemnlchaa
