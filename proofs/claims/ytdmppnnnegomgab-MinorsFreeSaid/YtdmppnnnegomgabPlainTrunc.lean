/- Plain mathematics: what is truncated; sets under old numbers, element by element. -/
import Derived.Test.YtdmppnnnegomgabPlainMinor
namespace Go.Proofs.Ytdmppnnnegomgab

/-- The ranks of what is truncated. -/
def cutR (r : Nat → Nat) (k s : Nat) : Nat := min (r s) k
theorem cut_rkOn {n : Nat} {r : Nat → Nat} (h : RkOn n r) (k : Nat) : RkOn n (cutR r k) := by
  refine ⟨fun s hs => ?_, fun s t hs ht hst => ?_, fun s t hs ht => ?_⟩
  · have := h.le s hs
    unfold cutR
    omega
  · have := h.mono s t hs ht hst
    unfold cutR
    omega
  · have h1 := h.sub s t hs ht
    have h2 := h.mono s (s ||| t) hs (Nat.or_lt_two_pow hs ht) (sub_or s t)
    have h3 := h.mono t (s ||| t) ht (Nat.or_lt_two_pow hs ht) (by rw [Nat.or_comm]; exact sub_or t s)
    have h4 := h.mono (s &&& t) s (and_ltn hs) hs (subB_iff.2 fun i hi => by rw [and_bit] at hi; simp at hi; exact hi.1)
    have h5 := h.mono (s &&& t) t (and_ltn hs) ht (subB_iff.2 fun i hi => by rw [and_bit] at hi; simp at hi; exact hi.2)
    unfold cutR
    omega
def cutL (n : Nat) (l : List Nat) (k : Nat) : List Nat := basR n (cutR (rk l) k)
theorem cut_fam (n : Nat) (l : List Nat) (k : Nat) : Fam n (cutL n l k) := basR_fam _ _
theorem cut_bas {n : Nat} {l : List Nat} (hn : n ≤ 8) (hb : Bas l) (k : Nat) : Bas (cutL n l k) := (cut_rkOn (hb.rkOn n) k).bas hn
theorem cut_ind {r : Nat → Nat} {k s : Nat} (h : r s ≤ pop s) : (r s == pop s && decide (pop s ≤ k)) = (cutR r k s == pop s) := by
  unfold cutR
  rw [Bool.eq_iff_iff, Bool.and_eq_true, beq_iff_eq, beq_iff_eq, decide_eq_true_eq]
  omega
/-- The elements below i that stay. -/
def stayL (g i : Nat) : List Nat := (List.range i).filter fun j => !g.testBit j
theorem stayL_hit {g i : Nat} (h : g.testBit i = false) : stayL g (i + 1) = stayL g i ++ [i] := by unfold stayL; rw [List.range_succ, List.filter_append]; simp [h]
theorem stayL_miss {g i : Nat} (h : g.testBit i = true) : stayL g (i + 1) = stayL g i := by unfold stayL; rw [List.range_succ, List.filter_append]; simp [h]
theorem stayL_len (g i : Nat) : (stayL g i).length ≤ i := by
  have := List.length_filter_le (fun j => !g.testBit j) (List.range i)
  rwa [List.length_range] at this
theorem stayL_all {n : Nat} (hn : n ≤ 8) (g : Nat) : stayL g n = els (dif (2 ^ n - 1) g) := by
  refine sorted_ext (List.Pairwise.sublist List.filter_sublist List.pairwise_lt_range) (els_up _) fun j => ?_
  rw [mem_els (kept_lt hn g), dif_bit, full_bit]
  unfold stayL
  rw [List.mem_filter, List.mem_range]
  simp
theorem stayL_8 {g i : Nat} (hi : i ≤ 8) : ∀ x ∈ stayL g i, x < 8 := fun x hx => by
  unfold stayL at hx
  rw [List.mem_filter, List.mem_range] at hx
  omega
theorem kept_pop {n s : Nat} (hn : n ≤ 8) (hs : s < 2 ^ n) : pop (dif (2 ^ n - 1) s) + pop s = n := by
  have h := pop_dif (2 ^ n - 1) s
  rw [show (2 ^ n - 1) &&& s = s by rw [Nat.and_comm]; exact sub_and (full_sub hs)] at h
  have h2 : pop (2 ^ n - 1) = n := by
    have : ∀ n : Nat, n ≤ 8 → pop (2 ^ n - 1) = n := by decide +kernel
    exact this n hn
  omega
theorem min_zero {l : List Nat} (hb : Bas l) (k t : Nat) : minR (rk l) k 0 t = rk l (old (els k) t) := by
  unfold minR
  rw [Nat.or_zero, hb.rk.zero, Nat.sub_zero]
end Go.Proofs.Ytdmppnnnegomgab
