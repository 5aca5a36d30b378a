/- hall.Check, hall.Lines, hall.Most. -/
import Derived.Test.YtbfklamboicddaaHaAQ
import Derived.Test.YtbfklamboicddaaPlainAll
import Derived.Test.YtbfklamboicddaaWholeQ
namespace Go.Proofs.Ytbfklamboicddaa
open Go.RowKit

theorem lis_good {n : Int} {zs : List Int} (h : lisR n zs = 0) : ∃ (m : Nat) (l : List Nat), n = m ∧ m ≤ 8 ∧ zs = N l ∧ l.length ≤ 8 ∧ ∀ x ∈ l, x < 2 ^ m := by
  unfold lisR at h
  by_cases hc : zs.all (fun s => setR n s == 0) = true ∧ 0 ≤ n ∧ n ≤ 8
  · rw [if_pos hc] at h
    obtain ⟨m, rfl⟩ := Int.eq_ofNat_of_zero_le hc.2.1
    obtain ⟨l, h1, h2⟩ := lis_nats hc.1
    by_cases h8 : 8 < zs.length
    · rw [if_pos h8] at h; cases h
    · subst h1
      rw [show (N l).length = l.length by simp [N]] at h8
      exact ⟨m, l, rfl, by omega, rfl, by omega, h2⟩
  · rw [if_neg hc] at h; cases h
theorem lis_ok {m : Nat} {l : List Nat} (hm : m ≤ 8) (hk : l.length ≤ 8) (hl : ∀ x ∈ l, x < 2 ^ m) : lisR m (N l) = 0 := by
  unfold lisR
  rw [if_pos, if_neg (by rw [show (N l).length = l.length by simp [N]]; omega)]
  refine ⟨?_, by omega, by omega⟩
  rw [List.all_eq_true]
  intro z hz
  obtain ⟨x, hx, rfl⟩ := List.mem_map.1 hz
  refine beq_iff_eq.2 ?_
  unfold setR
  rw [if_pos]
  refine ⟨by omega, by omega, by omega, ?_⟩
  rw [Int.toNat_natCast]
  have := hl x hx
  have e : ((2 ^ m : Nat) : Int) = (2 : Int) ^ m := by simp
  omega
theorem hcheck_any (n : Int) (v : Value) (zs : List Int) (w : World) (h : Ints w v zs) :
    Calls Try.prog 27 #[.int .i64 n, v] w fun e w' => e = .returned (.int .i64 (lisR n zs)) ∧ w' = w := by
  go_enter Try.func27, Try.ntmps27
  go_wp2_with fail
  refine (few_any n v zs _ h).mono ?_
  rintro e w' ⟨rfl, hw'⟩
  obtain rfl := hw'.symm
  go_wp2_with fail
  go_ret
  exact ⟨rfl, rfl⟩
end Go.Proofs.Ytbfklamboicddaa
