/- What Swap, Ladder and Fundamental tell, in one form each. -/
import Derived.Test.YthbcnolpjcppoabGsLadW
import Derived.Test.YthbcnolpjcppoabGsBadQ
import Derived.Test.YthbcnolpjcppoabRefAxDQ
import Derived.Test.YthbcnolpjcppoabRefAxEQ
namespace Go.Proofs.Ythbcnolpjcppoab
open Go.RowKit

theorem memZ_of {x : Int} {l : List Nat} (h : memZ x (N l) = true) : ∃ y : Nat, x = y ∧ y ∈ l := by
  unfold memZ N at h
  rw [decide_eq_true_eq, List.mem_map] at h
  obtain ⟨y, h1, h2⟩ := h
  exact ⟨y, h2.symm, h1⟩
def natL (zs : List Int) : List Nat := zs.map Int.toNat
theorem natL_N (l : List Nat) : natL (N l) = l := N_back l
/-- A list, or what stands for it where there is an error. -/
def ToldL (B : Nat) (w : World) (q : Int) (r : Value) (l : List Nat) : Prop := (q ≠ 0 ∧ r = .slice none 0 0) ∨ (q = 0 ∧ Own B w r l)
theorem ToldL.below {B : Nat} {w w' : World} {q : Int} {r : Value} {l : List Nat} (h : ToldL B w q r l) (hb : Below w.heap.size w w') : ToldL B w' q r l := by
  rcases h with h | ⟨h1, h2⟩
  · exact .inl h
  · exact .inr ⟨h1, h2.below hb⟩
/-- There is a swap. -/
theorem swap_isU {m : Nat} {l : List Nat} (hm : m ≤ 8) (hf : Fam m l) (hb : Bas l) {a b x : Nat} (ha : a ∈ l) (hbb : b ∈ l) (hx : subB x (dif a b) = true) : ∃ y ys, (List.range (2 ^ m)).filter (swapB l a b x) = y :: ys ∧ swapB l a b x y = true ∧ y < 2 ^ m := by
  obtain ⟨y, h1, _, h2, h3⟩ := greene hm hf hb ha hbb hx
  have hm1 : y ∈ (List.range (2 ^ m)).filter (swapB l a b x) := by
    rw [List.mem_filter, List.mem_range]
    refine ⟨sub_lt h1 (difn_lt (hf.lt b hbb)), ?_⟩
    unfold swapB memB
    simp [h1, h2, h3]
  cases e : (List.range (2 ^ m)).filter (swapB l a b x) with
  | nil => rw [e] at hm1; simp at hm1
  | cons z zs =>
    have hz : z ∈ (List.range (2 ^ m)).filter (swapB l a b x) := by rw [e]; simp
    rw [List.mem_filter, List.mem_range] at hz
    exact ⟨z, zs, rfl, hz.2, hz.1⟩
theorem one_any (q e : Int) (w : World) (h : e ≠ 0 → q = 0) : Calls Try.prog 24 #[.int .i64 q, .int .i64 e, .int .i64 q, .int .i64 e] w fun r w' => r = .returned (.bool true) ∧ w' = w := by
  by_cases he : e = 0
  · subst he
    exact one_good w q
  · rw [h he]
    exact one_bad w e 0 (by simp [he])
theorem list_any {B B' : Nat} {q : Int} {r r' : Value} {l : List Nat} (w : World) (h : ToldL B w q r l) (h' : ToldL B' w q r' l) (hl : l.length ≤ 256) : Calls Try.prog 25 #[r, .int .i64 q, r', .int .i64 q] w fun e w' => e = .returned (.bool true) ∧ Below w.heap.size w w' := by
  rcases h with ⟨h1, rfl⟩ | ⟨rfl, h2⟩
  · refine (list_bad w _ q rfl (by simp [h1]) r').mono ?_
    rintro e w' ⟨rfl, rfl⟩
    exact ⟨rfl, Below.refl _ _⟩
  · rcases h' with ⟨h3, _⟩ | ⟨_, h4⟩
    · exact absurd rfl h3
    · exact list_good w r r' (N l) (h2.ints (by omega)) (h4.ints (by omega))
end Go.Proofs.Ythbcnolpjcppoab
