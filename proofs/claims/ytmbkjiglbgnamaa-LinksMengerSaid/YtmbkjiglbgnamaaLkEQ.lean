/- Graphs turned round. -/
import Derived.Test.YtmbkjiglbgnamaaLkDQ
import Derived.Test.YtmbkjiglbgnamaaFrAQ
namespace Go.Proofs.Ytmbkjiglbgnamaa
open Go.RowKit

def intE (E : List (Nat × Nat)) : List (Int × Int) := E.map fun e => ((e.1 : Int), (e.2 : Int))
theorem intE_len (E : List (Nat × Nat)) : (intE E).length = E.length := by unfold intE; simp
theorem intE_at {E : List (Nat × Nat)} {i : Nat} (hi : i < E.length) : (intE E).getD i (0, 0) = ((ea E i : Int), (eb E i : Int)) := by
  unfold intE ea eb
  simp [List.getD, hi]
theorem natE_intE (E : List (Nat × Nat)) : natE (intE E) = E := by
  unfold natE intE
  rw [List.map_map]
  refine (List.map_congr_left (g := id) fun e _ => ?_).trans (List.map_id _)
  simp
theorem EdgesAt.int {w : World} {v : Value} {E : List (Nat × Nat)} (h : EdgesAt w v E) : EdgesI w v (intE E) := by
  obtain ⟨a, cap, h1, h2, h3⟩ := h
  refine ⟨a, cap, by rw [intE_len]; exact h1, by rw [intE_len]; omega, fun hn => ?_⟩
  rw [intE_len] at hn
  obtain ⟨b, off, h4, h5, h6⟩ := h3 hn
  refine ⟨b, off, h4, h5, fun i hi => ?_⟩
  rw [intE_len] at hi
  rw [intE_at hi]
  exact h6 i hi
/-- The first j edges, turned round. -/
def bakE (E : List (Nat × Nat)) (j : Nat) : List (Nat × Nat) := (E.take j).map fun e => (e.2, e.1)
theorem bakE_len {E : List (Nat × Nat)} {j : Nat} (h : j ≤ E.length) : (bakE E j).length = j := by
  unfold bakE
  rw [List.length_map, List.length_take]
  omega
theorem bakE_succ {E : List (Nat × Nat)} {j : Nat} (h : j < E.length) : bakE E (j + 1) = bakE E j ++ [(eb E j, ea E j)] := by
  unfold bakE ea eb
  rw [List.take_add_one, List.map_append, List.getD_eq_getElem?_getD, List.getElem?_eq_getElem h]
  rfl
theorem bakE_at {E : List (Nat × Nat)} {j i : Nat} (h : j ≤ E.length) (hi : i < j) : ea (bakE E j) i = eb E i ∧ eb (bakE E j) i = ea E i := by
  unfold ea eb bakE
  rw [List.getD_eq_getElem?_getD, List.getElem?_map, List.getElem?_take, if_pos hi, List.getD_eq_getElem?_getD, List.getElem?_eq_getElem (by omega)]
  exact ⟨rfl, rfl⟩
theorem graph_bak {m : Nat} {E : List (Nat × Nat)} (h1 : 1 ≤ m) (h7 : m ≤ 7) (h8 : E.length ≤ 8) (hE : ∀ j, j < E.length → ea E j < m ∧ eb E j < m) : graphR m (intE (bakE E E.length)) = 0 := by
  unfold graphR
  rw [if_pos]
  refine ⟨by omega, by omega, by rw [intE_len, bakE_len (Nat.le_refl _)]; exact h8, ?_⟩
  rw [List.all_eq_true]
  intro e he
  obtain ⟨i, hi, rfl⟩ := List.mem_iff_getElem.1 he
  rw [intE_len, bakE_len (Nat.le_refl _)] at hi
  have h9 := intE_at (E := bakE E E.length) (i := i) (by rw [bakE_len (Nat.le_refl _)]; exact hi)
  rw [List.getD_eq_getElem?_getD, List.getElem?_eq_getElem (by rw [intE_len, bakE_len (Nat.le_refl _)]; exact hi)] at h9
  rw [Option.getD_some] at h9
  rw [h9, (bakE_at (Nat.le_refl _) hi).1, (bakE_at (Nat.le_refl _) hi).2]
  have := hE i hi
  unfold edgeB inB
  simp
  omega
/-- As many ways against the edges. -/
theorem lnk_back {m a b : Nat} {F : List (Int × Int)} (hm : m ≤ 8) : lnkR (nxE (intE (bakE (natE F) (natE F).length))) m (2 ^ m - 1) a b = lnkR (nxE F) m (2 ^ m - 1) b a := by
  unfold lnkR
  rw [few_back (N := nxE F) (M := nxE (intE (bakE (natE F) (natE F).length))) (fun u v => ?_) (cutV_few (F := a) (T := b) hm (full_lt m)) (cutV_few (F := b) (T := a) hm (full_lt m))]
  unfold nxE
  rw [natE_intE, nx_bit, nx_bit, bakE_len (Nat.le_refl _)]
  constructor
  · rintro ⟨j, h1, h2, h3⟩
    exact ⟨j, h1, (bakE_at (Nat.le_refl _) h1).1.trans h3, (bakE_at (Nat.le_refl _) h1).2.trans h2⟩
  · rintro ⟨j, h1, h2, h3⟩
    exact ⟨j, h1, (bakE_at (Nat.le_refl _) h1).2.symm.trans h3, (bakE_at (Nat.le_refl _) h1).1.symm.trans h2⟩
/-- A vertex more never takes any away. -/
theorem lnk_one {m a b i : Nat} {f : Nat → Nat} (hm : m ≤ 8) (ha : a < 2 ^ m) (hi : i < m) : lnkR f m (2 ^ m - 1) b (a ||| 2 ^ i) = lnkR f m (2 ^ m - 1) b a ∨ lnkR f m (2 ^ m - 1) b (a ||| 2 ^ i) = lnkR f m (2 ^ m - 1) b a + 1 := by
  have hr := (lnkR_few (f := f) (T := b) hm (full_lt m)).rkOn (full_lt m)
  have hi2 : 2 ^ i < 2 ^ m := Nat.pow_lt_pow_right (by decide) hi
  have h1 := hr.rk.step a i
  simp only [mask_in (Nat.or_lt_two_pow ha hi2), mask_in ha] at h1
  have h2 := hr.mono a _ ha (Nat.or_lt_two_pow ha hi2) (sub_or a _)
  omega
theorem lnk_le {m a b : Nat} {f : Nat → Nat} (hm : m ≤ 8) : lnkR f m (2 ^ m - 1) b a ≤ 8 := pop_le _ (lt256 hm (cutV_lt hm (full_lt m)))
theorem setR_nat {m x : Nat} (hm : m ≤ 8) (hx : x < 2 ^ m) : setR m x = 0 := by
  unfold setR
  rw [if_pos]
  have e : ((2 ^ m : Nat) : Int) = (2 : Int) ^ m := by simp
  refine ⟨by omega, by omega, by omega, ?_⟩
  rw [Int.toNat_natCast]
  omega
theorem lnk_graph {n s t : Int} {F : List (Int × Int)} (h : lnkE n F s t = 0) : graphR n F = 0 := by
  unfold lnkE at h
  split at h
  · assumption
  · exact h
theorem lnk_mk {m x y : Nat} {F : List (Int × Int)} (hm : m ≤ 8) (hg : graphR m F = 0) (hx : x < 2 ^ m) (hy : y < 2 ^ m) : lnkE m F x y = 0 := by
  unfold lnkE
  rw [if_pos hg, if_pos (setR_nat hm hx), setR_nat hm hy]
end Go.Proofs.Ytmbkjiglbgnamaa
