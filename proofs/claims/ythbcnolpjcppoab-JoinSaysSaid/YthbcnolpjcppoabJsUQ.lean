/- What package join answers, whatever is handed in, in one form. -/
import Derived.Test.YthbcnolpjcppoabQBelW
import Derived.Test.YthbcnolpjcppoabWholeW
import Derived.Test.YthbcnolpjcppoabCvDQ
import Derived.Test.YthbcnolpjcppoabPlainAll
import Derived.Test.YthbcnolpjcppoabRfUQ
import Derived.Test.YthbcnolpjcppoabRfCQ
import Derived.Test.YthbcnolpjcppoabJcLawW
import Derived.Test.YthbcnolpjcppoabRfTQ
import Derived.Test.YthbcnolpjcppoabPkDQ
namespace Go.Proofs.Ythbcnolpjcppoab
open Go.RowKit

/-- A matroid and an error are handed back. -/
def ResJ (w : World) (q n : Int) (l : List Nat) (e : Ending) (w' : World) : Prop := ∃ nn a L c, e = .returned (.tuple #[.agg #[.int .i64 nn, .slice a L c], .int .i64 q]) ∧ GoodJ w.heap.size w' q n l nn (.slice a L c) ∧ Below w.heap.size w w'
/-- A list and an error are handed back. -/
def ResL (w : World) (q : Int) (l : List Nat) (e : Ending) (w' : World) : Prop := ∃ a L c, e = .returned (.tuple #[.slice a L c, .int .i64 q]) ∧ ToldJ w.heap.size w' q (.slice a L c) l ∧ Below w.heap.size w w'
/-- A number and an error are handed back. -/
def ResN (w : World) (q d : Int) (e : Ending) (w' : World) : Prop := e = .returned (.tuple #[.int .i64 d, .int .i64 q]) ∧ Below w.heap.size w w'
/-- Union. -/
theorem union_is (n k : Int) (zs ys : List Int) : ∃ L : List Nat, L.length ≤ 256 ∧
    (∀ v u w, Ints w v zs → Ints w u ys → Calls Try.prog 36 #[.agg #[.int .i64 n, v], .agg #[.int .i64 k, u]] w (ResJ w (uniQ n zs k ys) n L)) ∧
    (uniQ n zs k ys = 0 → ∀ v u w, Ints w v zs → Ints w u ys → Calls Try.prog 31 #[.agg #[.int .i64 n, v], .agg #[.int .i64 k, u]] w fun e w' => ∃ a c, e = .returned (.agg #[.int .i64 n, .slice a L.length c]) ∧ Own w.heap.size w' (.slice a L.length c) L ∧ Below w.heap.size w w') := by
  by_cases hq : uniQ n zs k ys = 0
  · obtain ⟨m, l, l', rfl, rfl, hm, rfl, rfl, hf, hb, hf', hb'⟩ := uni_of hq
    refine ⟨uniN m l l', fam_len hm (basR_fam m _), fun v u w h h' => ?_, fun _ v u w h h' => ?_⟩
    · refine (Union_ok m v u l l' w hm hf hb h hf' hb' h').mono ?_
      rintro e w' ⟨r, rfl, ho, hb⟩
      obtain ⟨a, c, rfl⟩ := ownsRow_form' ho
      exact ⟨m, a, _, c, by rw [hq], .inl ⟨hq, rfl, ho⟩, hb⟩
    · refine (United_ok m v u l l' w hm hf hb h hf' hb' h').mono ?_
      rintro e w' ⟨r, rfl, ho, hb⟩
      obtain ⟨a, c, rfl⟩ := ownsRow_form' ho
      exact ⟨a, c, rfl, ho, hb⟩
  · refine ⟨[], by simp, fun v u w h h' => ?_, fun e => absurd e hq⟩
    refine (uni_none n k v u zs ys w h h' hq).mono ?_
    rintro e w' ⟨rfl, hb⟩
    exact ⟨0, none, 0, 0, rfl, .inr ⟨hq, rfl, rfl⟩, hb⟩
/-- Cover and Dense. -/
theorem covers_is (n : Int) (zs : List Int) : ∃ (L : List Nat) (d : Int), L.length ≤ 256 ∧ (rwlQ n zs ≠ 0 → d = 0) ∧
    (∀ v w, Ints w v zs → Calls Try.prog 37 #[.agg #[.int .i64 n, v]] w (ResL w (rwlQ n zs) L)) ∧
    (∀ v w, Ints w v zs → Calls Try.prog 38 #[.agg #[.int .i64 n, v]] w (ResN w (rwlQ n zs) d)) ∧
    (chkR n zs = 0 → ∃ ok : Bool, rwlQ n zs = (if ok = true then 0 else 5) ∧
      (∀ v w, Ints w v zs → Calls Try.prog 32 #[.agg #[.int .i64 n, v]] w fun e w' => ∃ a L' c, e = .returned (.tuple #[.slice a L' c, .bool ok]) ∧ ToldJ w.heap.size w' (rwlQ n zs) (.slice a L' c) L ∧ Below w.heap.size w w') ∧
      (∀ v w, Ints w v zs → Calls Try.prog 33 #[.agg #[.int .i64 n, v]] w fun e w' => e = .returned (.tuple #[.int .i64 d, .bool ok]) ∧ Below w.heap.size w w')) := by
  by_cases hq : rwlQ n zs = 0
  · obtain ⟨m, l, rfl, hm, rfl, hf, hb, hl⟩ := rwlQ_of hq
    refine ⟨covL m (rk l), ((deS (rk l) (2 ^ m)).1 : Nat), Nat.le_trans cov_len9 (by decide), fun e => absurd hq e, fun v w h => ?_, fun v w h => ?_, fun _ => ⟨true, by rw [hq]; rfl, fun v w h => ?_, fun v w h => ?_⟩⟩
    · refine (Cover_ok m v l w hm hf hb h hl).mono ?_
      rintro e w' ⟨u, rfl, ho, hb⟩
      obtain ⟨a, c, rfl⟩ := ownsRow_form' ho
      exact ⟨a, _, c, by rw [hq], .inr ⟨hq, ho⟩, hb⟩
    · refine (Dense_ok m v l w hm hf hb h hl).mono ?_
      rintro e w' ⟨rfl, hb⟩
      exact ⟨by rw [hq], hb⟩
    · refine (Covered_ok m v l w hm hf hb h hl).mono ?_
      rintro e w' ⟨u, rfl, ho, hb⟩
      obtain ⟨a, c, rfl⟩ := ownsRow_form' ho
      exact ⟨a, _, c, rfl, .inr ⟨hq, ho⟩, hb⟩
    · refine (Thick_ok m v l w hm hf h).mono ?_
      rintro e w' ⟨⟨_, rfl⟩ | ⟨h1, _⟩, hb⟩
      · exact ⟨rfl, hb⟩
      · exact absurd hl h1
  · refine ⟨[], 0, by simp, fun _ => rfl, fun v w h => ?_, fun v w h => ?_, fun hc => ?_⟩
    · refine (Cover_bad n v zs w h hq).mono ?_
      rintro e w' ⟨rfl, hb⟩
      exact ⟨none, 0, 0, rfl, .inl ⟨hq, rfl⟩, hb⟩
    · exact Dense_bad n v zs w h hq
    · obtain ⟨m, l, rfl, hm, rfl, hf, hb⟩ := chk_of hc
      have e : rwlQ m (N l) = if loopB m (rk l) = true then 5 else 0 := by
        unfold rwlQ
        rw [if_neg (by rw [hc]; exact fun h => h rfl), toNats, Int.toNat_natCast]
      have hlp : loopB m (rk l) = true := by
        cases h : loopB m (rk l)
        · rw [e, h] at hq
          exact absurd rfl hq
        · rfl
      have hl : ¬ NoLoop m (rk l) := fun h => by
        rw [loop_none hm h] at hlp
        cases hlp
      refine ⟨false, by rw [e, hlp]; rfl, fun v w h => ?_, fun v w h => ?_⟩
      · refine (Covered_bad m v l w hm hf hb h hl).mono ?_
        rintro e w' ⟨rfl, hb⟩
        exact ⟨none, 0, 0, rfl, .inl ⟨hq, rfl⟩, hb⟩
      · refine (Thick_ok m v l w hm hf h).mono ?_
        rintro e w' ⟨⟨h1, _⟩ | ⟨_, rfl⟩, hb⟩
        · exact absurd h1 hl
        · exact ⟨rfl, hb⟩
/-- What is told of the first of the bases. -/
theorem first_is {n : Int} {zs : List Int} (hc : chkR n zs = 0) : ∃ (m : Nat) (l : List Nat), n = m ∧ zs = N l ∧ 0 < l.length ∧ l.getD 0 0 < 256 ∧ ranQ n zs = if l.getD 0 0 = 0 then 5 else 0 := by
  obtain ⟨m, l, rfl, hm, rfl, hf, hb⟩ := chk_of hc
  obtain ⟨l0, lr, rfl⟩ : ∃ l0 lr, l = l0 :: lr := by
    cases l with
    | nil => exact absurd rfl hb.ne
    | cons x y => exact ⟨x, y, rfl⟩
  have hlt := hf.lt l0 (by simp)
  have h8 := hf.lt256 hm l0 (by simp)
  refine ⟨m, _, rfl, rfl, by simp, h8, ?_⟩
  rw [ranQ_eq hc]
  have e : rk (l0 :: lr) (2 ^ m - 1) = pop l0 := bas_top hf hb (by simp)
  rw [e]
  show (if pop l0 = 0 then (5 : Int) else 0) = if l0 = 0 then 5 else 0
  by_cases h0 : l0 = 0
  · rw [h0, if_pos rfl, if_pos (by decide)]
  · have := pop_pos l0 h8
    rw [if_neg h0, if_neg (by omega)]
end Go.Proofs.Ythbcnolpjcppoab
