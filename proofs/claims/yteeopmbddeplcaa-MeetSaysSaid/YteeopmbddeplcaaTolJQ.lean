/- Answers with and without an error, in one form. -/
import Derived.Test.YteeopmbddeplcaaRefFamQ
import Derived.Test.YteeopmbddeplcaaEqQ
namespace Go.Proofs.Yteeopmbddeplcaa
open Go.RowKit

theorem oneJ_bad (w : World) (e t : Int) (he : (e != 0) = true) : Calls Try.prog 19 #[.int .i64 0, .int .i64 e, .int .i64 t, .int .i64 e] w fun r w' => r = .returned (.bool true) ∧ w' = w := by
  have h2 : (e == e) = true := by simp
  go_enter Try.func19, Try.ntmps19
  go_wp2_with fail
  go_ret
  exact ⟨rfl, rfl⟩
theorem oneJ_good (w : World) (t : Int) : Calls Try.prog 19 #[.int .i64 t, .int .i64 0, .int .i64 t, .int .i64 0] w fun r w' => r = .returned (.bool true) ∧ w' = w := by
  have ht : (t == t) = true := by simp
  go_enter Try.func19, Try.ntmps19
  go_wp2_with fail
  go_ret
  exact ⟨ret_bool (by simp), rfl⟩
/-- A number, told on both sides. -/
theorem oneJ (q e : Int) (w : World) (h : e ≠ 0 → q = 0) : Calls Try.prog 19 #[.int .i64 q, .int .i64 e, .int .i64 q, .int .i64 e] w fun r w' => r = .returned (.bool true) ∧ w' = w := by
  by_cases he : e = 0
  · subst he
    exact oneJ_good w q
  · rw [h he]
    exact oneJ_bad w e 0 (by simp [he])
/-- A list, or nothing where there is an error. -/
def ToldJ (B : Nat) (w : World) (q : Int) (r : Value) (l : List Nat) : Prop := (q ≠ 0 ∧ r = .slice none 0 0) ∨ (q = 0 ∧ Own B w r l)
theorem ToldJ.below {B : Nat} {w w' : World} {q : Int} {r : Value} {l : List Nat} (h : ToldJ B w q r l) (hb : Below w.heap.size w w') : ToldJ B w' q r l := by
  rcases h with h | ⟨h1, h2⟩
  · exact .inl h
  · exact .inr ⟨h1, h2.below hb⟩
theorem ToldJ.mono {B B' : Nat} {w : World} {q : Int} {r : Value} {l : List Nat} (h : ToldJ B w q r l) (hb : B' ≤ B) : ToldJ B' w q r l := by
  rcases h with h | ⟨h1, h2⟩
  · exact .inl h
  · exact .inr ⟨h1, h2.mono hb⟩
theorem ToldJ.form {B : Nat} {w : World} {q : Int} {r : Value} {l : List Nat} (h : ToldJ B w q r l) : ∃ a L c, r = .slice a L c := by
  rcases h with ⟨_, rfl⟩ | ⟨_, h2⟩
  · exact ⟨_, _, _, rfl⟩
  · obtain ⟨a, c, e⟩ := ownsRow_form' h2
    exact ⟨a, _, c, e⟩
theorem listJ {B B' : Nat} {q : Int} {r r' : Value} {l : List Nat} (w : World) (h : ToldJ B w q r l) (h' : ToldJ B' w q r' l) (hl : l.length ≤ 256) : Calls Try.prog 20 #[r, .int .i64 q, r', .int .i64 q] w fun e w' => e = .returned (.bool true) ∧ Below w.heap.size w w' := by
  rcases h with ⟨h1, rfl⟩ | ⟨rfl, h2⟩
  · refine (list_bad w _ q rfl (by simp [h1]) r').mono ?_
    rintro e w' ⟨rfl, rfl⟩
    exact ⟨rfl, Below.refl _ _⟩
  · rcases h' with ⟨h1, _⟩ | ⟨_, h3⟩
    · exact absurd rfl h1
    · exact list_good w _ _ _ (h2.ints (by omega)) (h3.ints (by omega))
/-- A matroid, or nothing where there is an error. -/
def GoodJ (B : Nat) (W : World) (q n : Int) (l : List Nat) (nn : Int) (vv : Value) : Prop := (q = 0 ∧ nn = n ∧ Own B W vv l) ∨ (q ≠ 0 ∧ nn = 0 ∧ vv = .slice none 0 0)
theorem GoodJ.below {B : Nat} {W W' : World} {q n : Int} {l : List Nat} {nn : Int} {vv : Value} (h : GoodJ B W q n l nn vv) (hb : Below W.heap.size W W') : GoodJ B W' q n l nn vv :=
  h.imp (fun ⟨h1, h2, h4⟩ => ⟨h1, h2, h4.below hb⟩) id
theorem GoodJ.form {B : Nat} {W : World} {q n : Int} {l : List Nat} {nn : Int} {vv : Value} (h : GoodJ B W q n l nn vv) : ∃ a L c, vv = .slice a L c := by
  rcases h with ⟨_, _, h4⟩ | ⟨_, _, rfl⟩
  · obtain ⟨a, c, e⟩ := ownsRow_form' h4
    exact ⟨a, _, c, e⟩
  · exact ⟨_, _, _, rfl⟩
end Go.Proofs.Yteeopmbddeplcaa
