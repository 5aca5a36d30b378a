/- Contracts of sets.Blocker and sets.Choose. -/
import Derived.Deep.QuietTactic
import Derived.BigQuiet
import Derived.Test.YthbldeloocmakaaCheckW
import Derived.Test.YthbldeloocmakaaSieveW
import Derived.Test.YthbldeloocmakaaQuietQ
import Derived.Test.YthbldeloocmakaaSpareQ
namespace Go.Proofs.Ythbldeloocmakaa
open Go.RowKit

theorem range_hit {p : Nat → Bool} {k : Nat} (hp : p k = true) : (List.range (k + 1)).filter p = (List.range k).filter p ++ [k] := by
  rw [List.range_succ, List.filter_append, List.filter_cons, hp]; simp
theorem range_miss {p : Nat → Bool} {k : Nat} (hp : p k = false) : (List.range (k + 1)).filter p = (List.range k).filter p := by
  rw [List.range_succ, List.filter_append, List.filter_cons, hp]; simp
theorem range_le (p : Nat → Bool) (k : Nat) : ((List.range k).filter p).length ≤ k := by
  have := List.length_filter_le p (List.range k); simpa using this
theorem famR_nat {n : Int} {zs : List Int} (h : famR n zs = 0) : ∃ m : Nat, n = m ∧ m ≤ 8 := by
  unfold famR at h
  split at h
  · rename_i g; exact ⟨n.toNat, by omega, by omega⟩
  · simp at h
theorem pow_T (n : Nat) (hn : n ≤ 8) : ∃ T : Nat, wrap64 (2 ^ n) = (T : Int) ∧ Hid (T = 2 ^ n) ∧ T ≤ 256 := ⟨2 ^ n, (pow_wrap _ hn).1, rfl, (pow_wrap _ hn).2⟩

theorem N_inj {l m : List Nat} (h : N l = N m) : l = m := by
  have := congrArg (List.map Int.toNat) h
  unfold N at this
  simpa [List.map_map, Function.comp_def] using this
theorem fam_nat {n : Nat} {l : List Nat} (h : famR n (N l) = 0) : Fam n l := by
  obtain ⟨m, l', h1, _, h2, h3⟩ := fam_of h
  have e : n = m := by omega
  subst e
  rw [N_inj h2]
  exact h3

theorem Blocker_bad (n : Int) (v : Value) (zs : List Int) (w : World) (h : Ints w v zs) (hf : famR n zs ≠ 0) :
    Calls Try.prog 74 #[.int .i64 n, v] w fun e w' => e = .returned (.tuple #[.slice none 0 0, .int .i64 1]) ∧ Below w.heap.size w w' := by
  obtain ⟨a, cap, hv, h1⟩ := family_err n v zs w h hf
  have HI := hid h
  have H1 := hid h1
  clear h h1 hf
  subst hv
  have B0 : Below w.heap.size w (w.alloc (.cells #[.slice a zs.length cap] 22)) := (Below.refl _ _).alloc (Nat.le_refl _) _
  have FA := hid (family_any n _ zs _ (HI.out.below B0))
  rw [H1.out] at FA
  have HB := hid B0
  clear B0
  go_enter Try.func74, Try.ntmps74
  go_wp2_with fail
  refine FA.out.mono ?_
  rintro e w' ⟨rfl, rfl⟩
  go_wp2_with fail
  go_ret2
  exact ⟨rfl, HB.out⟩
theorem Blocker_good (n : Nat) (v : Value) (l : List Nat) (w : World) (_ : Tabbed w) (hn : n ≤ 8) (_ : ∀ s ∈ l, s < 256) (h : Ints w v (N l)) (hf : famR n (N l) = 0) :
    Calls Try.prog 74 #[.int .i64 n, v] w fun e w' => ∃ r, e = .returned (.tuple #[r, .int .i64 0]) ∧ Own w.heap.size w' r ((List.range (2 ^ n)).filter (blockB l)) ∧ Below w.heap.size w w' := Blocker_fam n v l w hn (fam_nat hf) h

end Go.Proofs.Ythbldeloocmakaa
