/- Contracts of sets.Blocker and sets.Choose. -/
import Derived.Deep.QuietTactic
import Derived.BigQuiet
import Derived.Test.YthkdcjoecpemdaaFamQ
import Derived.Test.YthkdcjoecpemdaaSieveQ
import Derived.Test.YthkdcjoecpemdaaQuietQ
namespace Go.Proofs.Ythkdcjoecpemdaa
open Go.RowKit

theorem range_hit {p : Nat → Bool} {k : Nat} (hp : p k = true) : (List.range (k + 1)).filter p = (List.range k).filter p ++ [k] := by
  rw [List.range_succ, List.filter_append, List.filter_cons, hp]; simp
theorem range_miss {p : Nat → Bool} {k : Nat} (hp : p k = false) : (List.range (k + 1)).filter p = (List.range k).filter p := by
  rw [List.range_succ, List.filter_append, List.filter_cons, hp]; simp
theorem range_le (p : Nat → Bool) (k : Nat) : ((List.range k).filter p).length ≤ k := by
  have := List.length_filter_le p (List.range k); simpa using this
theorem famR_nat {n : Int} {zs : List Int} (h : famR n zs = 0) : ∃ m : Nat, n = m ∧ m ≤ 8 := by
  unfold famR at h
  split at h
  · rename_i g; exact ⟨n.toNat, by omega, by omega⟩
  · simp at h
theorem pow_T (n : Nat) (hn : n ≤ 8) : ∃ T : Nat, wrap64 (2 ^ n) = (T : Int) ∧ Hid (T = 2 ^ n) ∧ T ≤ 256 := ⟨2 ^ n, (pow_wrap _ hn).1, rfl, (pow_wrap _ hn).2⟩

theorem N_inj {l m : List Nat} (h : N l = N m) : l = m := by
  have := congrArg (List.map Int.toNat) h
  unfold N at this
  simpa [List.map_map, Function.comp_def] using this
theorem fam_nat {n : Nat} {l : List Nat} (h : famR n (N l) = 0) : Fam n l := by
  obtain ⟨m, l', h1, _, h2, h3⟩ := fam_of h
  have e : n = m := by omega
  subst e
  rw [N_inj h2]
  exact h3


theorem Choose_bad (n k : Int) (w : World) (h : ¬ (0 ≤ n ∧ n ≤ 8 ∧ 0 ≤ k ∧ k ≤ n)) :
    Calls Try.prog 19 #[.int .i64 n, .int .i64 k] w fun e w' => e = .returned (.tuple #[.slice none 0 0, .int .i64 1]) ∧ Below w.heap.size w w' := by
  have HB : Hid (Below w.heap.size w (w.alloc (.cells #[.int .i64 k] 3))) := (Below.refl _ _).alloc (Nat.le_refl _) _
  by_cases hn : 0 ≤ n ∧ n ≤ 8
  · obtain ⟨n0, n1⟩ := hn
    by_cases hk : k < 0
    · go_enter Try.func19, Try.ntmps19
      go_wp2_with fail
      refine (isGround_yes _ _ n0 n1).mono ?_
      rintro e w' ⟨rfl, rfl⟩
      go_wp2_with fail
      go_ret2
      exact ⟨rfl, HB.out⟩
    · have hk2 : n < k := by omega
      have hk3 : decide (k < 0) = false := by simpa using hk
      clear h
      go_enter Try.func19, Try.ntmps19
      go_wp2_with fail
      refine (isGround_yes _ _ n0 n1).mono ?_
      rintro e w' ⟨rfl, rfl⟩
      go_wp2_with fail
      go_ret2
      exact ⟨rfl, HB.out⟩
  · go_enter Try.func19, Try.ntmps19
    go_wp2_with fail
    refine (isGround_no _ _ (by omega)).mono ?_
    rintro e w' ⟨rfl, rfl⟩
    go_wp2_with fail
    go_ret2
    exact ⟨rfl, HB.out⟩
theorem ChooseQ_ok (s c bx : Nat) (w : World) (hs : s < 256) (hbx : w.cell? ⟨bx, 0, none⟩ = some (.int .i64 c)) :
    Calls Try.prog 30 #[.int .i64 s, .pointer (some ⟨bx, 0, none⟩)] w fun e w' => e = .returned (.bool (pop s == c)) ∧ Below w.heap.size w w' := by
  have HS := hid (fun w' => size_any s w' hs)
  go_enter Try.func30, Try.ntmps30
  go_wp2_with fail
  go_quiet ((go_at_call 23; refine (HS.out _).mono ?_; rintro e w' ⟨rfl, rfl⟩; exact ⟨rfl, _, rfl⟩))
  go_wp2_with fail
  go_ret
  exact ⟨ret_bool (by rw [Bool.eq_iff_iff, beq_iff_eq, beq_iff_eq]; omega), drewN_below _ _ _⟩
theorem Choose_good (n c : Nat) (w : World) (hn : n ≤ 8) (hc : c ≤ n) :
    Calls Try.prog 19 #[.int .i64 n, .int .i64 c] w fun e w' => ∃ r, e = .returned (.tuple #[r, .int .i64 0]) ∧ Own w.heap.size w' r ((List.range (2 ^ n)).filter fun s => pop s == c) ∧ Below w.heap.size w w' := by
  have hmf : ∀ (fn : Fn) (first cap : Array Value) (w : World), (Instr.makeFunc fn first cap).run Try.prog w = .ok (.func fn first cap) w := fun _ _ _ _ => rfl
  have hc1 : ¬ (c : Int) < 0 := by omega
  have hc2 : ¬ (n : Int) < (c : Int) := by omega
  have hc3 : decide ((c : Int) < 0) = false := by simp
  have hc4 : decide (n < c) = false := by simpa using hc
  have B0 : Below w.heap.size w (w.alloc (.cells #[.int .i64 c] 3)) := (Below.refl _ _).alloc (Nat.le_refl _) _
  have SV := hid (Sieve_any n 30 #[.pointer (some ⟨w.heap.size, 0, none⟩)] (fun s => pop s == c) (w.alloc (.cells #[.int .i64 c] 3)) hn (fun args w => enters_of Try.func30 (by kernel_rfl) rfl args w)
    (fun x hx w1 hb1 _ => ChooseQ_ok x c w.heap.size w1 (lt256 hn hx) ((hb1.cell (p := ⟨w.heap.size, 0, none⟩) (by simp)).trans (cellN w _ _).1)))
  have HB0 := hid B0
  clear B0
  generalize (List.range (2 ^ n)).filter (fun s => pop s == c) = acc at *
  go_enter Try.func19, Try.ntmps19
  go_wp2_with fail
  refine (isGround_yes _ _ (by omega) (by omega)).mono ?_
  rintro e w' ⟨rfl, rfl⟩
  go_wp2_with fail
  refine SV.out.mono ?_
  rintro e w2 ⟨r, rfl, ho, hb2⟩
  have HB := hid (HB0.out.trans (hb2.mono HB0.out.size))
  have HO := hid (ho.mono HB0.out.size : Own w.heap.size w2 r acc)
  clear hb2 ho
  go_wp2_with fail
  go_ret2
  exact ⟨_, rfl, HO.out, HB.out⟩
end Go.Proofs.Ythkdcjoecpemdaa
