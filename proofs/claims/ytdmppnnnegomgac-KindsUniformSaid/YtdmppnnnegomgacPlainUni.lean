/- Plain mathematics: the matroids whose bases are all sets of one size, their duals, cuts and free extensions. -/
import Derived.Test.YtdmppnnnegomgacPlainFree
namespace Go.Proofs.Ytdmppnnnegomgac

def uniL (n k : Nat) : List Nat := (List.range (2 ^ n)).filter fun s => pop s == k
theorem pop_rkOn (n : Nat) : RkOn n pop := ⟨fun s _ => Nat.le_refl _, fun s t _ _ h => pop_sub h, fun s t _ _ => by have := pop_or_and s t; omega⟩
theorem pop_len {n s : Nat} (hn : n ≤ 8) (hs : s < 2 ^ n) : pop s ≤ n := by
  have := pop_cpl hs
  rw [pop_full n hn] at this
  omega
theorem uni_eq {n k : Nat} (hn : n ≤ 8) (hk : k ≤ n) : basR n (cutR pop k) = uniL n k := by
  unfold basR uniL
  refine List.filter_congr fun s hs => ?_
  have h1 := pop_len hn (List.mem_range.1 hs)
  unfold cutR
  rw [pop_full n hn, Bool.eq_iff_iff, Bool.and_eq_true, beq_iff_eq, beq_iff_eq, beq_iff_eq]
  omega
theorem uni_fam (n k : Nat) : Fam n (uniL n k) := Fam.range n _
theorem uni_bas {n k : Nat} (hn : n ≤ 8) (hk : k ≤ n) : Bas (uniL n k) := by
  rw [← uni_eq hn hk]
  exact (cut_rkOn (pop_rkOn n) k).bas hn
theorem uni_rk {n k s : Nat} (hn : n ≤ 8) (hk : k ≤ n) (hs : s < 2 ^ n) : rk (uniL n k) s = min (pop s) k := by
  rw [← uni_eq hn hk]
  exact (cut_rkOn (pop_rkOn n) k).rk_eq hn hs
theorem uni_top {n k : Nat} (hn : n ≤ 8) (hk : k ≤ n) : rk (uniL n k) (2 ^ n - 1) = k := by
  rw [uni_rk hn hk (full_lt n), pop_full n hn]
  omega
theorem uni_dual {n k : Nat} (hn : n ≤ 8) (hk : k ≤ n) : cmp n (uniL n k) = uniL n (n - k) := by
  rw [← basR_cmp hn (uni_fam n k) (uni_bas hn hk), ← uni_eq hn (by omega : n - k ≤ n)]
  refine basR_congr fun s hs => ?_
  unfold dualR
  rw [uni_top hn hk, uni_rk hn hk cpl_lt]
  have := pop_cpl hs
  rw [pop_full n hn] at this
  unfold cutR
  omega
theorem uni_cut {n k j : Nat} (hn : n ≤ 8) (hk : k ≤ n) (hj : j ≤ k) : cutL n (uniL n k) j = uniL n j := by
  rw [← uni_eq hn (by omega : j ≤ n)]
  refine basR_congr fun s hs => ?_
  unfold cutR
  rw [uni_rk hn hk hs]
  omega
theorem uni_free {n k : Nat} (hn : n < 8) (hk : k ≤ n) : feL n (uniL n k) = uniL (n + 1) k := by
  rw [← uni_eq (by omega) (by omega : k ≤ n + 1)]
  refine basR_congr fun s hs => ?_
  unfold freeR cutR
  rw [uni_top (by omega) hk]
  by_cases hb : s.testBit n = true
  · rw [if_pos hb, uni_rk (by omega) hk (rm_ltn hs)]
    have h1 := pop_rm' (lt256 (by omega) hs) hb
    omega
  · rw [if_neg hb, uni_rk (by omega) hk (lt_of_nbit hs (by simpa using hb))]
end Go.Proofs.Ytdmppnnnegomgac
