/- What Swap, Ladder and Fundamental tell, in one form each. -/
import Derived.Test.YtimciginbiobmaaGsLadQ
import Derived.Test.YtimciginbiobmaaGsBadQ
import Derived.Test.YtimciginbiobmaaRefAxDQ
import Derived.Test.YtimciginbiobmaaRefAxEQ
namespace Go.Proofs.Ytimciginbiobmaa
open Go.RowKit

theorem memZ_of {x : Int} {l : List Nat} (h : memZ x (N l) = true) : ∃ y : Nat, x = y ∧ y ∈ l := by
  unfold memZ N at h
  rw [decide_eq_true_eq, List.mem_map] at h
  obtain ⟨y, h1, h2⟩ := h
  exact ⟨y, h2.symm, h1⟩
theorem cb_of {n : Int} {zs ys : List Int} (h : cbR n zs ys = 0) : ∃ (m : Nat) (l : List Nat), n = m ∧ m ≤ 8 ∧ zs = N l ∧ Fam m l ∧ Bas l ∧ ∀ y ∈ ys, ∃ y' : Nat, y = y' ∧ y' ∈ l := by
  unfold cbR at h
  split at h
  · rename_i h1; exact absurd h h1
  · rename_i h1
    have h1 : chkR n zs = 0 := Decidable.byContradiction h1
    obtain ⟨m, l, rfl, hm, rfl, hf, hb⟩ := chk_of h1
    split at h
    · rename_i h2
      exact ⟨m, l, rfl, hm, rfl, hf, hb, fun y hy => memZ_of (List.all_eq_true.1 h2 y hy)⟩
    · cases h
def natL (zs : List Int) : List Nat := zs.map Int.toNat
theorem natL_N (l : List Nat) : natL (N l) = l := N_back l
/-- Swap's error and answer. -/
def swE (n : Int) (zs : List Int) (a b x : Int) : Int := if cbR n zs [a, b] ≠ 0 then cbR n zs [a, b] else if wiB x (dif a.toNat b.toNat) = true then 0 else 3
def swY (n : Int) (zs : List Int) (a b x : Int) : Int := if swE n zs a b x ≠ 0 then 0 else ((((List.range (2 ^ n.toNat)).filter (swapB (natL zs) a.toNat b.toNat x.toNat)).headD 0 : Nat) : Int)
def fdE (n : Int) (zs : List Int) (b i : Int) : Int := if cbR n zs [b] ≠ 0 then cbR n zs [b] else if outB n.toNat b.toNat i = true then 0 else 3
def fdC (n : Int) (zs : List Int) (b i : Int) : Int := if fdE n zs b i ≠ 0 then 0 else ((fund (natL zs) b.toNat i.toNat : Nat) : Int)
/-- A list, or what stands for it where there is an error. -/
def ToldL (B : Nat) (w : World) (q : Int) (r : Value) (l : List Nat) : Prop := (q ≠ 0 ∧ r = .slice none 0 0) ∨ (q = 0 ∧ Own B w r l)
theorem ToldL.below {B : Nat} {w w' : World} {q : Int} {r : Value} {l : List Nat} (h : ToldL B w q r l) (hb : Below w.heap.size w w') : ToldL B w' q r l := by
  rcases h with h | ⟨h1, h2⟩
  · exact .inl h
  · exact .inr ⟨h1, h2.below hb⟩
/-- There is a swap. -/
theorem swap_isU {m : Nat} {l : List Nat} (hm : m ≤ 8) (hf : Fam m l) (hb : Bas l) {a b x : Nat} (ha : a ∈ l) (hbb : b ∈ l) (hx : subB x (dif a b) = true) : ∃ y ys, (List.range (2 ^ m)).filter (swapB l a b x) = y :: ys ∧ swapB l a b x y = true ∧ y < 2 ^ m := by
  obtain ⟨y, h1, _, h2, h3⟩ := greene hm hf hb ha hbb hx
  have hm1 : y ∈ (List.range (2 ^ m)).filter (swapB l a b x) := by
    rw [List.mem_filter, List.mem_range]
    refine ⟨sub_lt h1 (difn_lt (hf.lt b hbb)), ?_⟩
    unfold swapB memB
    simp [h1, h2, h3]
  cases e : (List.range (2 ^ m)).filter (swapB l a b x) with
  | nil => rw [e] at hm1; simp at hm1
  | cons z zs =>
    have hz : z ∈ (List.range (2 ^ m)).filter (swapB l a b x) := by rw [e]; simp
    rw [List.mem_filter, List.mem_range] at hz
    exact ⟨z, zs, rfl, hz.2, hz.1⟩
theorem sw_good {n : Int} {zs : List Int} {a b x : Int} (hx1 : -9223372036854775808 ≤ x) (hx2 : x ≤ 9223372036854775807) (h : swE n zs a b x = 0) : ∃ (m : Nat) (l : List Nat) (a' b' x' y : Nat) (ys : List Nat), n = m ∧ m ≤ 8 ∧ zs = N l ∧ Fam m l ∧ Bas l ∧ a = a' ∧ b = b' ∧ x = x' ∧ a' ∈ l ∧ b' ∈ l ∧ subB x' (dif a' b') = true ∧ (List.range (2 ^ m)).filter (swapB l a' b' x') = y :: ys ∧ swY n zs a b x = y := by
  have hY : swY n zs a b x = ((((List.range (2 ^ n.toNat)).filter (swapB (natL zs) a.toNat b.toNat x.toNat)).headD 0 : Nat) : Int) := by unfold swY; rw [if_neg (by simp [h])]
  unfold swE at h
  split at h
  · rename_i h1; exact absurd h h1
  · rename_i h1
    obtain ⟨m, l, rfl, hm, rfl, hf, hb, hy⟩ := cb_of (Decidable.byContradiction h1)
    obtain ⟨a', rfl, ha'⟩ := hy a (by simp)
    obtain ⟨b', rfl, hb'⟩ := hy b (by simp)
    split at h
    · rename_i h2
      have e : dif (a' : Int).toNat (b' : Int).toNat = dif a' b' := rfl
      rw [e] at h2
      obtain ⟨x', rfl, hx'⟩ := (wi_wr (dif_lt (b := b') (hb.lt a' ha')) hx1 hx2).2 h2
      obtain ⟨y, ys, hys, _, _⟩ := swap_isU hm hf hb ha' hb' hx'
      refine ⟨m, l, a', b', x', y, ys, rfl, hm, rfl, hf, hb, rfl, rfl, rfl, ha', hb', hx', hys, ?_⟩
      rw [hY, natL_N]
      show ((((List.range (2 ^ m)).filter (swapB l a' b' x')).headD 0 : Nat) : Int) = _
      rw [hys]
      rfl
    · cases h
theorem SwapU (n : Int) (v : Value) (zs : List Int) (a b x : Int) (w : World) (h : Ints w v zs) (hx1 : -9223372036854775808 ≤ x) (hx2 : x ≤ 9223372036854775807) :
    Calls Try.prog 39 #[.agg #[.int .i64 n, v], .int .i64 a, .int .i64 b, .int .i64 x] w fun e w' => e = .returned (.tuple #[.int .i64 (swY n zs a b x), .int .i64 (swE n zs a b x)]) ∧ Below w.heap.size w w' := by
  by_cases hq : swE n zs a b x = 0
  · rw [hq]
    obtain ⟨m, l, a', b', x', y, ys, rfl, hm, rfl, hf, hb, rfl, rfl, rfl, ha', hb', hx', hys, hY⟩ := sw_good hx1 hx2 hq
    rw [hY]
    exact Swap_ok m a' b' x' v l w h hm hf hb ha' hb' hx' y ys hys
  · have hY : swY n zs a b x = 0 := by unfold swY; rw [if_pos hq]
    rw [hY]
    by_cases hc : cbR n zs [a, b] = 0
    · obtain ⟨m, l, rfl, hm, rfl, hf, hb, hy⟩ := cb_of hc
      obtain ⟨a', rfl, ha'⟩ := hy a (by simp)
      obtain ⟨b', rfl, hb'⟩ := hy b (by simp)
      have hw : wiB x (dif a' b') = false := by
        cases e : wiB x (dif a' b') with
        | false => rfl
        | true =>
          exfalso
          apply hq
          unfold swE
          rw [if_neg (by simp [hc]), if_pos (show wiB x (dif (a' : Int).toNat (b' : Int).toNat) = true from e)]
      have hE : swE m (N l) a' b' x = 3 := by
        unfold swE
        rw [if_neg (by simp [hc]), if_neg (by rw [show dif (a' : Int).toNat (b' : Int).toNat = dif a' b' from rfl, hw]; simp)]
      rw [hE]
      exact Swap_shape m a' b' x v (N l) w h hc (hb.lt a' ha') (hb.lt b' hb') hw
    · have hE : swE n zs a b x = cbR n zs [a, b] := by unfold swE; rw [if_pos hc]
      rw [hE]
      exact Swap_bad n a b x v zs w h hc
theorem LadU (n : Int) (v : Value) (zs : List Int) (a b : Int) (w : World) (h : Ints w v zs) :
    Calls Try.prog 40 #[.agg #[.int .i64 n, v], .int .i64 a, .int .i64 b] w fun e w' => ∃ r, e = .returned (.tuple #[r, .int .i64 (cbR n zs [a, b])]) ∧ ToldL w.heap.size w' (cbR n zs [a, b]) r (ladder (natL zs) a.toNat b.toNat) ∧ Below w.heap.size w w' := by
  by_cases hc : cbR n zs [a, b] = 0
  · rw [hc]
    obtain ⟨m, l, rfl, hm, rfl, hf, hb, hy⟩ := cb_of hc
    obtain ⟨a', rfl, ha'⟩ := hy a (by simp)
    obtain ⟨b', rfl, hb'⟩ := hy b (by simp)
    rw [natL_N]
    refine (Ladder_ok m a' b' v l w h hm hf hb ha' hb').mono ?_
    rintro e w' ⟨r, rfl, h1, h2⟩
    exact ⟨r, rfl, .inr ⟨rfl, h1⟩, h2⟩
  · refine (Ladder_bad n a b v zs w h hc).mono ?_
    rintro e w' ⟨rfl, h2⟩
    exact ⟨_, rfl, .inl ⟨hc, rfl⟩, h2⟩
theorem fd_good {n : Int} {zs : List Int} {b i : Int} (h : fdE n zs b i = 0) : ∃ (m : Nat) (l : List Nat) (b' i' : Nat), n = m ∧ m ≤ 8 ∧ zs = N l ∧ Fam m l ∧ Bas l ∧ b = b' ∧ i = i' ∧ b' ∈ l ∧ i' < m ∧ b'.testBit i' = false ∧ fdC n zs b i = (fund l b' i' : Nat) := by
  have hY : fdC n zs b i = ((fund (natL zs) b.toNat i.toNat : Nat) : Int) := by unfold fdC; rw [if_neg (by simp [h])]
  unfold fdE at h
  split at h
  · rename_i h1; exact absurd h h1
  · rename_i h1
    obtain ⟨m, l, rfl, hm, rfl, hf, hb, hy⟩ := cb_of (Decidable.byContradiction h1)
    obtain ⟨b', rfl, hb'⟩ := hy b (by simp)
    split at h
    · rename_i h2
      unfold outB at h2
      simp only [Bool.and_eq_true, decide_eq_true_eq, Bool.not_eq_true'] at h2
      obtain ⟨⟨h3, h4⟩, h5⟩ := h2
      obtain ⟨i', rfl⟩ : ∃ i' : Nat, i = i' := ⟨i.toNat, by omega⟩
      have h4' : i' < m := by simpa using h4
      refine ⟨m, l, b', i', rfl, hm, rfl, hf, hb, rfl, rfl, hb', h4', h5, ?_⟩
      rw [hY, natL_N]
      rfl
    · cases h
theorem FundU (n : Int) (v : Value) (zs : List Int) (b i : Int) (w : World) (h : Ints w v zs) :
    Calls Try.prog 41 #[.agg #[.int .i64 n, v], .int .i64 b, .int .i64 i] w fun e w' => e = .returned (.tuple #[.int .i64 (fdC n zs b i), .int .i64 (fdE n zs b i)]) ∧ Below w.heap.size w w' := by
  by_cases hq : fdE n zs b i = 0
  · rw [hq]
    obtain ⟨m, l, b', i', rfl, hm, rfl, hf, hb, rfl, rfl, hb', hi', hbi, hC⟩ := fd_good hq
    rw [hC]
    exact Fund_ok m l b' i' v w h hm hf hb hb' hi' hbi
  · have hY : fdC n zs b i = 0 := by unfold fdC; rw [if_pos hq]
    rw [hY]
    by_cases hc : cbR n zs [b] = 0
    · obtain ⟨m, l, rfl, hm, rfl, hf, hb, hy⟩ := cb_of hc
      obtain ⟨b', rfl, hb'⟩ := hy b (by simp)
      have ho : outB m b' i = false := by
        cases e : outB m b' i with
        | false => rfl
        | true =>
          exfalso
          apply hq
          unfold fdE
          rw [if_neg (by simp [hc]), if_pos (show outB (m : Int).toNat (b' : Int).toNat i = true from e)]
      have hE : fdE m (N l) b' i = 3 := by
        unfold fdE
        rw [if_neg (by simp [hc]), if_neg (by rw [show outB (m : Int).toNat (b' : Int).toNat i = outB m b' i from rfl, ho]; simp)]
      rw [hE]
      exact Fund_shape m b' i v (N l) w h hm (hb.lt b' hb') hc ho
    · have hE : fdE n zs b i = cbR n zs [b] := by unfold fdE; rw [if_pos hc]
      rw [hE]
      exact Fund_bad n b i v zs w h hc
theorem one_any (q e : Int) (w : World) (h : e ≠ 0 → q = 0) : Calls Try.prog 42 #[.int .i64 q, .int .i64 e, .int .i64 q, .int .i64 e] w fun r w' => r = .returned (.bool true) ∧ w' = w := by
  by_cases he : e = 0
  · subst he
    exact one_good w q
  · rw [h he]
    exact one_bad w e 0 (by simp [he])
theorem list_any {B B' : Nat} {q : Int} {r r' : Value} {l : List Nat} (w : World) (h : ToldL B w q r l) (h' : ToldL B' w q r' l) (hl : l.length ≤ 256) : Calls Try.prog 43 #[r, .int .i64 q, r', .int .i64 q] w fun e w' => e = .returned (.bool true) ∧ Below w.heap.size w w' := by
  rcases h with ⟨h1, rfl⟩ | ⟨rfl, h2⟩
  · refine (list_bad w _ q rfl (by simp [h1]) r').mono ?_
    rintro e w' ⟨rfl, rfl⟩
    exact ⟨rfl, Below.refl _ _⟩
  · rcases h' with ⟨h3, _⟩ | ⟨_, h4⟩
    · exact absurd rfl h3
    · exact list_good w r r' (N l) (h2.ints (by omega)) (h4.ints (by omega))
end Go.Proofs.Ytimciginbiobmaa
