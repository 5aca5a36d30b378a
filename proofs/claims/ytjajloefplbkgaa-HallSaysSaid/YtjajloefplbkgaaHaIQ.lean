/- rotalaw.bad, one, list: for the laws of HALL. -/
import Derived.Test.YtjajloefplbkgaaRefQ
import Derived.Test.YtjajloefplbkgaaHaCQ
namespace Go.Proofs.Ytjajloefplbkgaa
open Go.RowKit

theorem bad_t (q : Int) (w : World) : Calls Try.prog 18 #[.bool true, .int .i64 q] w fun e w' => e = .returned (.int .i64 0) ∧ w' = w := by
  go_enter Try.func18, Try.ntmps18
  go_wp2_with fail
  go_ret
  exact ⟨rfl, rfl⟩
theorem bad_f (q : Int) (w : World) : Calls Try.prog 18 #[.bool false, .int .i64 q] w fun e w' => e = .returned (.int .i64 q) ∧ w' = w := by
  go_enter Try.func18, Try.ntmps18
  go_wp2_with fail
  go_ret
  exact ⟨rfl, rfl⟩
theorem bad_any (b : Bool) (q : Int) (w : World) : Calls Try.prog 18 #[.bool b, .int .i64 q] w fun e w' => e = .returned (.int .i64 (if b = true then 0 else q)) ∧ w' = w := by
  cases b
  · exact bad_f q w
  · exact bad_t q w
theorem one_same (n q : Int) (w : World) (h0 : q ≠ 0 → n = 0) : Calls Try.prog 15 #[.int .i64 n, .int .i64 q, .int .i64 n, .int .i64 q] w fun e w' => e = .returned (.bool true) ∧ w' = w := by
  by_cases hq : q = 0
  · subst hq
    clear h0
    have h1 : (n == n) = true := by simp
    go_enter Try.func15, Try.ntmps15
    go_wp2_with fail
    go_ret
    exact ⟨rfl, rfl⟩
  · obtain rfl := h0 hq
    have h1 : (q != 0) = true := by rw [bne_iff_ne]; exact hq
    have h2 : (q == q) = true := by simp
    clear h0
    go_enter Try.func15, Try.ntmps15
    go_wp2_with fail
    go_ret
    exact ⟨rfl, rfl⟩
theorem list_yes (u v : Value) (L : List Nat) (w : World) (h1 : Ints w u (N L)) (h2 : Ints w v (N L)) : Calls Try.prog 17 #[u, .int .i64 0, v, .int .i64 0] w fun e w' => e = .returned (.bool true) ∧ Below w.heap.size w w' := by
  have SM := hid (Same_any u v (N L) (N L) w h1 h2)
  rw [decide_eq_true rfl] at SM
  go_enter Try.func17, Try.ntmps17
  go_wp2_with fail
  refine SM.out.mono ?_
  rintro e w2 ⟨rfl, hb⟩
  have HB := hid hb
  clear hb
  go_wp2_with fail
  go_ret
  exact ⟨rfl, HB.out⟩
theorem list_no (q : Int) (a : Option Addr) (c : Nat) (v : Value) (w : World) (hq : q ≠ 0) : Calls Try.prog 17 #[.slice a 0 c, .int .i64 q, v, .int .i64 q] w fun e w' => e = .returned (.bool true) ∧ Below w.heap.size w w' := by
  have h1 : (q != 0) = true := by rw [bne_iff_ne]; exact hq
  have h2 : (q == q) = true := by simp
  go_enter Try.func17, Try.ntmps17
  go_wp2_with fail
  go_ret
  exact ⟨rfl, Below.refl _ _⟩
end Go.Proofs.Ytjajloefplbkgaa
