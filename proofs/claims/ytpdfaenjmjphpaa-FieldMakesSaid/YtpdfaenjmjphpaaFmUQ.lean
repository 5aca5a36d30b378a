/- What Determinant, Times and Turned answer of a matrix, in one form each; rotalaw.bad, one. -/
import Derived.Test.YtpdfaenjmjphpaaFdDbQ
import Derived.Test.YtpdfaenjmjphpaaFdZQ
import Derived.Test.YtpdfaenjmjphpaaFdSQ
import Derived.Test.YtpdfaenjmjphpaaFdLQ
namespace Go.Proofs.Ytpdfaenjmjphpaa
open Go.RowKit

def dtE (c : Nat) (R : List (List Int)) : Int := if R.length = c then 0 else 3
def dtN (p : Int) (c : Nat) (R : List (List Int)) : Int := if R.length = c then detL p c R (2 ^ c - 1) else 0
theorem Det_u (p : Int) (c : Nat) (v : Value) (R : List (List Int)) (w : World) (h : RowsI w v R) (hcp : ∀ a L c, v = .slice a L c → L ≤ c) (hm : MatOK p c R) :
    Calls Try.prog 5 #[.agg #[.int .i64 p, .int .i64 c, v]] w fun e w' => e = .returned (.tuple #[.int .i64 (dtN p c R), .int .i64 (dtE c R)]) ∧ Below w.heap.size w w' := by
  unfold dtN dtE
  by_cases hl : R.length = c
  · rw [if_pos hl, if_pos hl]; exact Determinant_ok p c v R w h hcp hm hl
  · rw [if_neg hl, if_neg hl]; exact Determinant_shape p c v R w h hm hl
/-- Times' error, the first matrix being one. -/
def tmE (p : Int) (c : Nat) (p2 c2 : Int) (R2 : List (List Int)) : Int := if matR p2 c2 R2 = 0 then (if p = p2 ∧ c = R2.length then 0 else 3) else 1
/-- The three cells of a product. -/
structure TmU (w : World) (q p c2 : Int) (T : List (List Int)) (tp tc : Int) (u : Value) : Prop where
  ok : q = 0 → tp = p ∧ tc = c2 ∧ RowsI w u T
  no : q ≠ 0 → tp = 0 ∧ tc = 0 ∧ u = .slice none 0 0
  fm : ∃ a n cap, u = .slice a n cap
theorem TmU.below {w w' : World} {q p c2 : Int} {T : List (List Int)} {tp tc : Int} {u : Value} (h : TmU w q p c2 T tp tc u) (hb : Below w.heap.size w w') : TmU w' q p c2 T tp tc u := ⟨fun h0 => ⟨(h.ok h0).1, (h.ok h0).2.1, (h.ok h0).2.2.below hb⟩, h.no, h.fm⟩
theorem Times_u (p : Int) (c : Nat) (p2 c2 : Int) (v v2 : Value) (R R2 : List (List Int)) (w : World) (h : RowsI w v R) (h2 : RowsI w v2 R2) (hm : MatOK p c R) :
    Calls Try.prog 6 #[.agg #[.int .i64 p, .int .i64 c, v], .agg #[.int .i64 p2, .int .i64 c2, v2]] w fun e w' => ∃ tp tc u, e = .returned (.tuple #[.agg #[.int .i64 tp, .int .i64 tc, u], .int .i64 (tmE p c p2 c2 R2)]) ∧ TmU w' (tmE p c p2 c2 R2) p c2 (timL p c c2.toNat R R2) tp tc u ∧ Below w.heap.size w w' := by
  unfold tmE
  rcases matR_01 p2 c2 R2 with h0 | h0
  · have hm2 := MatOK.of h0
    obtain ⟨k, rfl⟩ : ∃ k : Nat, c2 = k := ⟨c2.toNat, by have := hm2.c0; omega⟩
    rw [if_pos h0]
    by_cases hp : p = p2
    · by_cases hc : c = R2.length
      · rw [if_pos ⟨hp, hc⟩]
        refine (Times_ok p c p2 k v v2 R R2 w h h2 hm hm2 hp hc).mono ?_
        rintro e w' ⟨u, rfl, hr, hb⟩
        exact ⟨_, _, _, rfl, ⟨fun _ => ⟨rfl, rfl, hr.rows⟩, fun h => absurd rfl h, by obtain ⟨a, n, e⟩ := hr.form; exact ⟨a, _, n, e⟩⟩, hb⟩
      · rw [if_neg fun h => hc h.2]
        refine (Times_shape2 p c p2 k v v2 R R2 w h h2 hm hm2 hp hc).mono ?_
        rintro e w' ⟨rfl, hb⟩
        exact ⟨_, _, _, rfl, ⟨fun h => absurd h (by decide), fun _ => ⟨rfl, rfl, rfl⟩, _, _, _, rfl⟩, hb⟩
    · rw [if_neg fun h => hp h.1]
      refine (Times_shape1 p c p2 k v v2 R R2 w h h2 hm hm2 hp).mono ?_
      rintro e w' ⟨rfl, hb⟩
      exact ⟨_, _, _, rfl, ⟨fun h => absurd h (by decide), fun _ => ⟨rfl, rfl, rfl⟩, _, _, _, rfl⟩, hb⟩
  · rw [if_neg (by rw [h0]; decide)]
    refine (Times_bad2 p c p2 c2 v v2 R R2 w h h2 (MatOK.iff.2 hm) h0).mono ?_
    rintro e w' ⟨rfl, hb⟩
    exact ⟨_, _, _, rfl, ⟨fun h => absurd h (by decide), fun _ => ⟨rfl, rfl, rfl⟩, _, _, _, rfl⟩, hb⟩
def trE (c : Nat) : Int := if c ≤ 6 then 0 else 2
theorem Turned_u (p : Int) (c : Nat) (v : Value) (R : List (List Int)) (w : World) (h : RowsI w v R) (hm : MatOK p c R) :
    Calls Try.prog 7 #[.agg #[.int .i64 p, .int .i64 c, v]] w fun e w' => ∃ tp tc u, e = .returned (.tuple #[.agg #[.int .i64 tp, .int .i64 tc, u], .int .i64 (trE c)]) ∧ TmU w' (trE c) p R.length (turL c R) tp tc u ∧ Below w.heap.size w w' := by
  unfold trE
  by_cases hc : c ≤ 6
  · rw [if_pos hc]
    refine (Turned_ok p c v R w h hm hc).mono ?_
    rintro e w' ⟨u, rfl, hr, hb⟩
    exact ⟨_, _, _, rfl, ⟨fun _ => ⟨rfl, rfl, hr.rows⟩, fun h => absurd rfl h, by obtain ⟨a, n, e⟩ := hr.form; exact ⟨a, _, n, e⟩⟩, hb⟩
  · rw [if_neg hc]
    refine (Turned_large p c v R w h hm (by omega)).mono ?_
    rintro e w' ⟨rfl, hb⟩
    exact ⟨_, _, _, rfl, ⟨fun h => absurd h (by decide), fun _ => ⟨rfl, rfl, rfl⟩, _, _, _, rfl⟩, hb⟩
theorem bad_t (q : Int) (w : World) : Calls Try.prog 8 #[.bool true, .int .i64 q] w fun e w' => e = .returned (.int .i64 0) ∧ w' = w := by
  go_enter Try.func8, Try.ntmps8
  go_wp2_with fail
  go_ret
  exact ⟨rfl, rfl⟩
theorem bad_f (q : Int) (w : World) : Calls Try.prog 8 #[.bool false, .int .i64 q] w fun e w' => e = .returned (.int .i64 q) ∧ w' = w := by
  go_enter Try.func8, Try.ntmps8
  go_wp2_with fail
  go_ret
  exact ⟨rfl, rfl⟩
theorem bad_any (b : Bool) (q : Int) (w : World) : Calls Try.prog 8 #[.bool b, .int .i64 q] w fun e w' => e = .returned (.int .i64 (if b = true then 0 else q)) ∧ w' = w := by
  cases b
  · exact bad_f q w
  · exact bad_t q w
theorem one_same (n q : Int) (w : World) (h0 : q ≠ 0 → n = 0) : Calls Try.prog 11 #[.int .i64 n, .int .i64 q, .int .i64 n, .int .i64 q] w fun e w' => e = .returned (.bool true) ∧ w' = w := by
  by_cases hq : q = 0
  · subst hq
    clear h0
    have h1 : (n == n) = true := by simp
    go_enter Try.func11, Try.ntmps11
    go_wp2_with fail
    go_ret
    exact ⟨rfl, rfl⟩
  · obtain rfl := h0 hq
    have h1 : (q != 0) = true := by rw [bne_iff_ne]; exact hq
    have h2 : (q == q) = true := by simp
    clear h0
    go_enter Try.func11, Try.ntmps11
    go_wp2_with fail
    go_ret
    exact ⟨rfl, rfl⟩
end Go.Proofs.Ytpdfaenjmjphpaa
