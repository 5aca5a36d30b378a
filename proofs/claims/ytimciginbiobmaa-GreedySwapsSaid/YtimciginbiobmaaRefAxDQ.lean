/- rotaref.Closure; rotalaw.one. -/
import Derived.Test.YtimciginbiobmaaRefAxBQ
namespace Go.Proofs.Ytimciginbiobmaa
open Go.RowKit

theorem one_bad (w : World) (e t : Int) (he : (e != 0) = true) : Calls Try.prog 42 #[.int .i64 0, .int .i64 e, .int .i64 t, .int .i64 e] w fun r w' => r = .returned (.bool true) ∧ w' = w := by
  have h2 : (e == e) = true := by simp
  go_enter Try.func42, Try.ntmps42
  go_wp2_with fail
  go_ret
  exact ⟨rfl, rfl⟩
theorem one_good (w : World) (t : Int) : Calls Try.prog 42 #[.int .i64 t, .int .i64 0, .int .i64 t, .int .i64 0] w fun r w' => r = .returned (.bool true) ∧ w' = w := by
  have h2 : (t == t) = true := by simp
  go_enter Try.func42, Try.ntmps42
  go_wp2_with fail
  go_ret
  exact ⟨ret_bool (by simp), rfl⟩

/-- What the document has added of the first i elements. -/
def outTo (c : List Nat) (s i : Nat) : Nat := (List.range i).foldl (fun o j => if addK c s j = true then o ||| 2 ^ j else o) s
theorem outTo_succ (c : List Nat) (s i : Nat) : outTo c s (i + 1) = if addK c s i = true then outTo c s i ||| bt i else outTo c s i := by
  unfold outTo bt
  rw [List.range_succ, List.foldl_append]
  rfl
theorem outTo_bit (c : List Nat) (s i j : Nat) : (outTo c s i).testBit j = (s.testBit j || (decide (j < i) && addK c s j)) := by
  unfold outTo
  rw [fold_bit (fun j => addK c s j = true)]
  have e1 : decide (j ∈ List.range i) = decide (j < i) := by rw [decide_eq_decide]; exact List.mem_range
  have e2 : decide (addK c s j = true) = addK c s j := by cases addK c s j <;> rfl
  rw [e1, e2]
theorem outTo_lt (c : List Nat) {s i : Nat} (hs : s < 256) (hi : i ≤ 8) : outTo c s i < 256 := lt_of_bits (n := 8) fun j hj => by
  rw [outTo_bit] at hj
  simp only [Bool.or_eq_true, Bool.and_eq_true, decide_eq_true_eq] at hj
  rcases hj with hj | hj
  · exact bit8 hs hj
  · omega
theorem outTo_cl {n : Nat} {l : List Nat} (hn : n ≤ 8) (hb : Bas l) {s : Nat} (hs : s < 2 ^ n) : outTo (cirL n l) s n = cl (rk l) n s := Nat.eq_of_testBit_eq fun j => by
  rw [outTo_bit, cl_bit hn hs]
  by_cases hj : j < n
  · rw [← add_iff hn hb hs hj]; simp [hj]
  · have : s.testBit j = false := by
      cases e : s.testBit j
      · rfl
      · exact absurd (bit_n hs e) hj
    simp [hj, this]
/-- One circuit adds i. -/
def addB (s i x : Nat) : Bool := x.testBit i && subB x (s ||| bt i)
theorem or_same (a b : Nat) : (a ||| b) ||| b = a ||| b := by rw [Nat.or_assoc, Nat.or_self]

end Go.Proofs.Ytimciginbiobmaa
