/- Answers with and without an error, in one form. -/
import Derived.Test.YthbldeloocmakabGreatRefFamQ
import Derived.Test.YthbldeloocmakabGreatEqQ
import Derived.Deep.QuietTactic
import Derived.BigQuiet
import Derived.Test.YthbldeloocmakabGreatIndQ
namespace Go.Proofs.YthbldeloocmakabGreat
open Go.RowKit

theorem toldJ_bad (q : Int) (w : World) (hq : q ≠ 0) :
    Calls Tryz.prog 23 #[.agg #[.int .i64 0, .slice none 0 0], .int .i64 q, .agg #[.int .i64 0, .slice none 0 0], .int .i64 q] w fun e w' => e = .returned (.bool true) ∧ Below w.heap.size w w' := by
  have hq' : (q == 0) = false := by rw [beq_eq_false_iff_ne]; exact hq
  have hqq : (q == q) = true := by simp
  have HB0 : Hid (Below w.heap.size w ((w.alloc (.cells #[.int .i64 0, .slice none 0 0] 24)).alloc (.cells #[.int .i64 0, .slice none 0 0] 24))) := ((Below.refl _ _).alloc (Nat.le_refl _) _).alloc (by simp) _
  go_enter Tryz.func23, Tryz.ntmps23
  go_wp2_with fail
  go_ret
  exact ⟨rfl, HB0.out⟩
theorem toldJ_good (n : Int) (u v : Value) (zs : List Int) (w : World) (h1 : Ints w u zs) (h2 : Ints w v zs) :
    Calls Tryz.prog 23 #[.agg #[.int .i64 n, u], .int .i64 0, .agg #[.int .i64 n, v], .int .i64 0] w fun e w' => e = .returned (.bool true) ∧ Below w.heap.size w w' := by
  have hB0 : Below w.heap.size w ((w.alloc (.cells #[.int .i64 n, u] 24)).alloc (.cells #[.int .i64 n, v] 24)) := ((Below.refl _ _).alloc (Nat.le_refl _) _).alloc (by simp) _
  have SM := hid (SameMatroid_any n n u v zs zs _ (h1.below hB0) (h2.below hB0))
  rw [show (decide (n = n) && decide (zs = zs)) = true by simp] at SM
  have HB0 := hid hB0
  obtain ⟨a, cap, rfl, _, _⟩ := h1
  obtain ⟨a2, cap2, rfl, _, _⟩ := h2
  clear hB0
  go_enter Tryz.func23, Tryz.ntmps23
  go_wp2_with fail
  refine SM.out.mono ?_
  rintro e w2 ⟨rfl, hb2⟩
  have HB := hid (HB0.out.trans (hb2.mono HB0.out.size))
  clear hb2
  go_wp2_with fail
  go_ret
  exact ⟨rfl, HB.out⟩
/-- A list, or nothing where there is an error. -/
def ToldJ (B : Nat) (w : World) (q : Int) (r : Value) (l : List Nat) : Prop := (q ≠ 0 ∧ r = .slice none 0 0) ∨ (q = 0 ∧ Own B w r l)
theorem ToldJ.below {B : Nat} {w w' : World} {q : Int} {r : Value} {l : List Nat} (h : ToldJ B w q r l) (hb : Below w.heap.size w w') : ToldJ B w' q r l := by
  rcases h with h | ⟨h1, h2⟩
  · exact .inl h
  · exact .inr ⟨h1, h2.below hb⟩
theorem ToldJ.mono {B B' : Nat} {w : World} {q : Int} {r : Value} {l : List Nat} (h : ToldJ B w q r l) (hb : B' ≤ B) : ToldJ B' w q r l := by
  rcases h with h | ⟨h1, h2⟩
  · exact .inl h
  · exact .inr ⟨h1, h2.mono hb⟩
theorem ToldJ.form {B : Nat} {w : World} {q : Int} {r : Value} {l : List Nat} (h : ToldJ B w q r l) : ∃ a L c, r = .slice a L c := by
  rcases h with ⟨_, rfl⟩ | ⟨_, h2⟩
  · exact ⟨_, _, _, rfl⟩
  · obtain ⟨a, c, e⟩ := ownsRow_form' h2
    exact ⟨a, _, c, e⟩
theorem listJ {B B' : Nat} {q : Int} {r r' : Value} {l : List Nat} (w : World) (h : ToldJ B w q r l) (h' : ToldJ B' w q r' l) (hl : l.length ≤ 256) : Calls Tryz.prog 24 #[r, .int .i64 q, r', .int .i64 q] w fun e w' => e = .returned (.bool true) ∧ Below w.heap.size w w' := by
  rcases h with ⟨h1, rfl⟩ | ⟨rfl, h2⟩
  · refine (list_bad w _ q rfl (by simp [h1]) r').mono ?_
    rintro e w' ⟨rfl, rfl⟩
    exact ⟨rfl, Below.refl _ _⟩
  · rcases h' with ⟨h1, _⟩ | ⟨_, h3⟩
    · exact absurd rfl h1
    · exact list_good w _ _ _ (h2.ints (by omega)) (h3.ints (by omega))
/-- A matroid, or nothing where there is an error. -/
def GoodJ (B : Nat) (W : World) (q n : Int) (l : List Nat) (nn : Int) (vv : Value) : Prop := (q = 0 ∧ nn = n ∧ Own B W vv l) ∨ (q ≠ 0 ∧ nn = 0 ∧ vv = .slice none 0 0)
theorem GoodJ.below {B : Nat} {W W' : World} {q n : Int} {l : List Nat} {nn : Int} {vv : Value} (h : GoodJ B W q n l nn vv) (hb : Below W.heap.size W W') : GoodJ B W' q n l nn vv :=
  h.imp (fun ⟨h1, h2, h4⟩ => ⟨h1, h2, h4.below hb⟩) id
theorem GoodJ.form {B : Nat} {W : World} {q n : Int} {l : List Nat} {nn : Int} {vv : Value} (h : GoodJ B W q n l nn vv) : ∃ a L c, vv = .slice a L c := by
  rcases h with ⟨_, _, h4⟩ | ⟨_, _, rfl⟩
  · obtain ⟨a, c, e⟩ := ownsRow_form' h4
    exact ⟨a, _, c, e⟩
  · exact ⟨_, _, _, rfl⟩
/-- A matroid and an error are handed back. -/
def ResJ (w : World) (q n : Int) (l : List Nat) (e : Ending) (w' : World) : Prop := ∃ nn a L c, e = .returned (.tuple #[.agg #[.int .i64 nn, .slice a L c], .int .i64 q]) ∧ GoodJ w.heap.size w' q n l nn (.slice a L c) ∧ Below w.heap.size w w'
/-- A list and an error are handed back. -/
def ResL (w : World) (q : Int) (l : List Nat) (e : Ending) (w' : World) : Prop := ∃ a L c, e = .returned (.tuple #[.slice a L c, .int .i64 q]) ∧ ToldJ w.heap.size w' q (.slice a L c) l ∧ Below w.heap.size w w'
/-- A number and an error are handed back. -/
def ResN (w : World) (q d : Int) (e : Ending) (w' : World) : Prop := e = .returned (.tuple #[.int .i64 d, .int .i64 q]) ∧ Below w.heap.size w w'
theorem toldJ {B B' : Nat} {q n : Int} {l : List Nat} {n1 n2 : Int} {v1 v2 : Value} (w : World) (h1 : GoodJ B w q n l n1 v1) (h2 : GoodJ B' w q n l n2 v2) (hl : l.length ≤ 256) :
    Calls Tryz.prog 23 #[.agg #[.int .i64 n1, v1], .int .i64 q, .agg #[.int .i64 n2, v2], .int .i64 q] w fun e w' => e = .returned (.bool true) ∧ Below w.heap.size w w' := by
  rcases h1 with ⟨rfl, rfl, ho⟩ | ⟨hq, rfl, rfl⟩
  · rcases h2 with ⟨_, rfl, ho2⟩ | ⟨hq, _, _⟩
    · exact toldJ_good _ _ _ _ w (ho.ints (by omega)) (ho2.ints (by omega))
    · exact absurd rfl hq
  · rcases h2 with ⟨rfl, _, _⟩ | ⟨_, rfl, rfl⟩
    · exact absurd rfl hq
    · exact toldJ_bad q w hq
end Go.Proofs.YthbldeloocmakabGreat

namespace Go.Proofs.YthbldeloocmakabGreat
open Go.RowKit

/-- The worlds in which all that lay in w lies as it lay. -/
structure Later (w : World) where
  now : World
  kept : Below w.heap.size w now
theorem Later.on {w : World} (x : Later w) {w' : World} (h : Below x.now.heap.size x.now w') : ∃ y : Later w, w' = y.now := ⟨⟨w', x.kept.trans (h.mono x.kept.size)⟩, rfl⟩
instance (w : World) : Nonempty (Later w) := ⟨⟨w, Below.refl _ _⟩⟩
theorem region_later {P : Program} {id : Nat} {Q : Exit → Act → World → Prop} {a : Act} {w : World} {l : List Oper} (hm : P.follows .mixedOrders = true) (hB : Region.lexB .any l.toArray = true)
    (h : wpQuiet P l.toArray (fun w' => ∃ x : Later w, w' = x.now) (fun a' => ∀ w', (∃ x : Later w, w' = x.now) → Q .normal a' w') l a) : (Code.region id l.toArray true).wp P Q a w :=
  wp_region_quiet (C := fun w' => ∃ x : Later w, w' = x.now) hm hB ⟨⟨_, (Below.refl _ _).drew⟩, rfl⟩ (by simpa using h)
end Go.Proofs.YthbldeloocmakabGreat
