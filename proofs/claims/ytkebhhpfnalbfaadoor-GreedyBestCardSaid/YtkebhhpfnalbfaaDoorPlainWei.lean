/- Plain mathematics: what a set weighs; the best basis of a matroid and of its Dual. -/
import Derived.Test.YtkebhhpfnalbfaaDoorPlainSort
namespace Go.Proofs.YtkebhhpfnalbfaaDoor

/-- What the elements of a set among the first k weigh. -/
def weiTo (w : Nat → Int) (s : Nat) : Nat → Int
  | 0 => 0
  | k + 1 => weiTo w s k + if s.testBit k = true then w k else 0
theorem weiTo_le {w : Nat → Int} (h : ∀ i, -1000 ≤ w i ∧ w i ≤ 1000) (s : Nat) : ∀ k : Nat, -(1000 * (k : Int)) ≤ weiTo w s k ∧ weiTo w s k ≤ 1000 * (k : Int)
  | 0 => by simp [weiTo]
  | k + 1 => by
    have ih := weiTo_le h s k
    have hk := h k
    unfold weiTo
    split <;> omega
theorem wSum_append (w : Nat → Int) (s : Nat) : ∀ a b : List Nat, wSum w s (a ++ b) = wSum w s a + wSum w s b
  | [], b => by simp [wSum]
  | x :: a, b => by simp only [List.cons_append, wSum, wSum_append w s a b]; omega
theorem wSum_range (w : Nat → Int) (s : Nat) : ∀ k : Nat, wSum w s (List.range k) = weiTo w s k
  | 0 => rfl
  | k + 1 => by
    rw [List.range_succ, wSum_append, wSum_range w s k]
    simp [wSum, weiTo]
theorem wSum_perm (w : Nat → Int) (s : Nat) {a b : List Nat} (h : a.Perm b) : wSum w s a = wSum w s b := by
  induction h with
  | nil => rfl
  | cons x _ ih => simp only [wSum, ih]
  | swap x y l => simp only [wSum]; omega
  | trans _ _ ih1 ih2 => rw [ih1, ih2]
theorem order_perm {n : Nat} {o : List Nat} (hB : Beg n o) (hall : ∀ i, i < n → i ∈ o) : o.Perm (List.range n) := by
  rw [List.perm_ext_iff_of_nodup hB.once List.nodup_range]
  intro x
  rw [List.mem_range]
  exact ⟨fun h => hB.lt x h, fun h => hall x h⟩
theorem wSum_order (w : Nat → Int) (s : Nat) {n : Nat} {o : List Nat} (hB : Beg n o) (hall : ∀ i, i < n → i ∈ o) : wSum w s o = weiTo w s n := by
  rw [wSum_perm w s (order_perm hB hall), wSum_range]
/-- Best's basis weighs the most. -/
theorem best_most {n : Nat} {l : List Nat} (hn : n ≤ 8) (hf : Fam n l) (hb : Bas l) {w : Nat → Int} {o : List Nat} (ho : ByW n w o) {t : Nat} (ht : t ∈ l) : weiTo w t n ≤ weiTo w (grS (rk l) 0 o) n := by
  have hg := gr_bas hn hf hb ho.beg ho.all
  have h := gr_heavy hb.rk hn ho.beg ho.all w ho.desc (hf.lt t ht) ((bas_mem hn hf hb (hf.lt t ht)).1 ht).1 (hb.size t ht _ hg) (hf.lt _ hg)
  rwa [wSum_order w t ho.beg ho.all, wSum_order w _ ho.beg ho.all] at h
theorem weiTo_neg (w : Nat → Int) (s : Nat) : ∀ k, weiTo (fun i => -w i) s k = -weiTo w s k
  | 0 => rfl
  | k + 1 => by simp only [weiTo, weiTo_neg w s k]; split <;> omega
/-- All weights together. -/
def allTo (w : Nat → Int) : Nat → Int
  | 0 => 0
  | k + 1 => allTo w k + w k
theorem allTo_le {w : Nat → Int} (h : ∀ i, -1000 ≤ w i ∧ w i ≤ 1000) : ∀ k : Nat, -(1000 * (k : Int)) ≤ allTo w k ∧ allTo w k ≤ 1000 * (k : Int)
  | 0 => by simp [allTo]
  | k + 1 => by
    have ih := allTo_le h k
    have hk := h k
    unfold allTo
    omega
theorem weiTo_cpl (w : Nat → Int) {n s : Nat} (hs : s < 2 ^ n) : ∀ k, k ≤ n → weiTo w s k + weiTo w (2 ^ n - 1 - s) k = allTo w k
  | 0, _ => rfl
  | k + 1, hk => by
    have ih := weiTo_cpl w hs k (by omega)
    have hb := cpl_bit hs k
    have hkn : decide (k < n) = true := by simp; omega
    rw [hkn, Bool.true_and] at hb
    simp only [weiTo, allTo, hb]
    cases s.testBit k <;> simp <;> omega
/-- What the best basis leaves is, of the Dual, the best one of the weights turned. -/
theorem best_dual {n : Nat} {l : List Nat} (hn : n ≤ 8) (hf : Fam n l) (hb : Bas l) {w : Nat → Int} {o o' : List Nat} (ho : ByW n w o) (ho' : ByW n (fun i => -w i) o') : weiTo w (grS (rk l) 0 o) n - weiTo (fun i => -w i) (grS (rk (cmp n l)) 0 o') n = allTo w n := by
  have df := cmp_fam hf
  have db := dual_bas hn hf hb
  have g1 := gr_bas hn hf hb ho.beg ho.all
  have g2 := gr_bas hn df db ho'.beg ho'.all
  generalize hA : grS (rk l) 0 o = A at *
  generalize hC : grS (rk (cmp n l)) 0 o' = C at *
  have hA1 := hf.lt A g1
  have hC1 := df.lt C g2
  have m1 : 2 ^ n - 1 - A ∈ cmp n l := (mem_cmp hf.lt).2 ⟨cpl_lt, by rw [cpl_cpl hA1]; exact g1⟩
  have m2 : 2 ^ n - 1 - C ∈ l := ((mem_cmp hf.lt).1 g2).2
  have b1 := best_most hn hf hb ho m2
  have b2 := best_most hn df db ho' m1
  rw [hA] at b1
  rw [hC] at b2
  have c1 := weiTo_cpl w hA1 n (Nat.le_refl _)
  have c2 := weiTo_cpl w hC1 n (Nat.le_refl _)
  rw [weiTo_neg] at b2 ⊢
  rw [weiTo_neg] at b2
  omega
end Go.Proofs.YtkebhhpfnalbfaaDoor
