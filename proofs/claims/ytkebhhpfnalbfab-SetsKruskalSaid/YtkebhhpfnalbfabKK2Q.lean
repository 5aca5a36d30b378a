/- KRUSKAL, KATONA for families as lists. -/
import Derived.Test.YtkebhhpfnalbfabPlainAll
import Derived.Test.YtkebhhpfnalbfabOkQ
namespace Go.Proofs.Ytkebhhpfnalbfab

theorem full_facts : ∀ n : Nat, n < 9 → 2 ^ n - 1 < 256 ∧ pop (2 ^ n - 1) = n ∧ 2 ^ n ≤ 256 := by decide +kernel
theorem sub_full {n s : Nat} (hs : s < 2 ^ n) : subB s (2 ^ n - 1) = true := subB_iff.2 fun i hi => by
  rw [Nat.testBit_two_pow_sub_one]
  simpa using bit_lt hs hi
theorem card_list {n : Nat} (hn : n ≤ 8) {l : List Nat} (h : Fam n l) : card (fun s => memB s l) = l.length := by
  unfold card
  rw [List.countP_eq_length_filter]
  congr 1
  refine sorted_ext (List.pairwise_lt_range.filter _) h.up fun s => ?_
  simp only [List.mem_filter, List.mem_range, memB, decide_eq_true_eq]
  exact ⟨fun h => h.2, fun hs => ⟨h.lt256 hn s hs, hs⟩⟩
theorem card_sha {n : Nat} (hn : n ≤ 8) {l : List Nat} (h : Fam n l) : card (sha fun s => memB s l) = (shd n l).length := by
  have p8 := (full_facts n (by omega)).2.2
  unfold card shd
  rw [← shad_eq hn h, List.countP_eq_length_filter]
  congr 1
  refine sorted_ext (List.pairwise_lt_range.filter _) (Fam.range n _).up fun s => ?_
  simp only [List.mem_filter, List.mem_range, sha, shadK, List.any_eq_true, Bool.and_eq_true, Bool.not_eq_true']
  constructor
  · rintro ⟨hs, i, hi, h1, h2⟩
    have hm : s + 2 ^ i ∈ l := by simpa [memB] using h2
    have hlt := h.lt _ hm
    have hb := (up_bits i hi s hs h1).2.2 i hi
    have hin := bit_lt hlt (by rw [hb]; simp)
    exact ⟨Nat.lt_of_le_of_lt (Nat.le_add_right s (2 ^ i)) hlt, i, hin, h1, h2⟩
  · rintro ⟨hs, i, hi, h1, h2⟩
    exact ⟨by omega, i, by omega, h1, h2⟩
theorem chs_len : ∀ n : Nat, n < 9 → ∀ k : Nat, k < 9 → (chs n k).length = binT n k ∧ (k ≤ n → 0 < binT n k) := by decide +kernel
theorem kk_list {n k : Nat} (hn : n ≤ 8) (hk : k ≤ 8) {l : List Nat} (h : Fam n l) (hp : ∀ s ∈ l, pop s = k) : l.length ≤ (chs n k).length ∧ sh k l.length ≤ (shd n l).length := by
  obtain ⟨f1, f2, _⟩ := full_facts n (by omega)
  have := kk n (2 ^ n - 1) k (fun s => memB s l) f1 f2 ⟨fun s _ hs => by
    have hm : s ∈ l := by simpa [memB] using hs
    exact ⟨sub_full (h.lt s hm), hp s hm⟩⟩
  rw [card_list hn h, card_sha hn h] at this
  rw [(chs_len n (by omega) k (by omega)).1]
  exact this

/-- The shadow as one number. -/
def dmask (t : Nat) : Nat := (els t).foldr (fun i a => a ||| 2 ^ rm t i) 0
def smask (l : List Nat) : Nat := l.foldr (fun t a => a ||| dmask t) 0
theorem dmask_bit (t s : Nat) : (dmask t).testBit s = downB t s := by
  unfold dmask downB
  induction els t with
  | nil => simp
  | cons i l ih =>
    rw [List.foldr_cons, Nat.testBit_or, ih, Nat.testBit_two_pow, List.any_cons, Bool.or_comm]
    congr 1
theorem smask_bit (l : List Nat) (s : Nat) : (smask l).testBit s = l.any fun t => downB t s := by
  unfold smask
  induction l with
  | nil => simp
  | cons t l ih => rw [List.foldr_cons, Nat.testBit_or, ih, dmask_bit, List.any_cons, Bool.or_comm]
def popc (M : Nat) : Nat := card fun s => M.testBit s
def goM (k : Nat) : List Nat → Nat → Nat → Bool
  | [], M, m => decide (popc M ≤ sh k m)
  | t :: l, M, m => decide (popc M ≤ sh k m) && goM k l (M ||| dmask t) (m + 1)
theorem goM_all {k : Nat} : ∀ (l : List Nat) (M m : Nat), goM k l M m = true → ∀ j, j ≤ l.length → popc (M ||| smask (l.take j)) ≤ sh k (m + j)
  | [], M, m, h, j, hj => by
    have : j = 0 := by simpa using hj
    subst this
    simpa [goM, smask] using h
  | t :: l, M, m, h, 0, _ => by
    simp only [goM, Bool.and_eq_true, decide_eq_true_eq] at h
    simpa [smask] using h.1
  | t :: l, M, m, h, j + 1, hj => by
    simp only [goM, Bool.and_eq_true] at h
    have := goM_all l (M ||| dmask t) (m + 1) h.2 j (by simpa using hj)
    have e : M ||| smask ((t :: l).take (j + 1)) = M ||| dmask t ||| smask (l.take j) := by
      rw [List.take_succ_cons]
      show M ||| (smask (l.take j) ||| dmask t) = _
      rw [Nat.or_comm (smask (l.take j)), Nat.or_assoc]
    rw [e, show m + (j + 1) = m + 1 + j by omega]
    exact this
theorem goM_fact : ∀ n : Nat, n < 9 → ∀ k : Nat, k < 9 → goM k (chs n k) 0 0 = true := by decide +kernel
theorem fam_chs (n k : Nat) : Fam n (chs n k) := Fam.range n _
theorem fam_take {n : Nat} {l : List Nat} (h : Fam n l) (m : Nat) : Fam n (l.take m) := ⟨h.up.sublist (List.take_sublist m l), fun s hs => h.lt s (List.mem_of_mem_take hs)⟩
theorem shade_le {n k m : Nat} (hn : n ≤ 8) (hk : k ≤ 8) (hm : m ≤ (chs n k).length) : ((List.range (2 ^ n)).filter (shadK n ((chs n k).take m))).length ≤ sh k m := by
  rw [shad_eq hn (fam_take (fam_chs n k) m)]
  have h1 := goM_all (chs n k) 0 0 (goM_fact n (by omega) k (by omega)) m hm
  rw [Nat.zero_add, Nat.zero_or] at h1
  refine Nat.le_trans ?_ h1
  have p8 := (full_facts n (by omega)).2.2
  unfold popc card
  rw [← List.countP_eq_length_filter]
  have hsub : (List.range (2 ^ n)).Sublist (List.range 256) := List.range_sublist.2 p8
  refine Nat.le_trans (hsub.countP_le) ?_
  exact List.countP_mono_left fun s _ hs => by rw [smask_bit]; exact hs
end Go.Proofs.Ytkebhhpfnalbfab
