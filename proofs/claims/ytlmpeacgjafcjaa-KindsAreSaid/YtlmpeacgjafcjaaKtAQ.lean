/- KindsTotal's mathematics: the matrix of a graph. -/
import Derived.Test.YtlmpeacgjafcjaaKLbQ
import Derived.Test.YtlmpeacgjafcjaaPlainAll
namespace Go.Proofs.Ytlmpeacgjafcjaa
open Go.RowKit

/-- What edge j has at vertex v. -/
def entR (p : Int) (F : List (Int × Int)) (v j : Nat) : Int := if (F.getD j (0, 0)).1 = (v : Int) then (if (F.getD j (0, 0)).2 = (v : Int) then 0 else 1) else (if (F.getD j (0, 0)).2 = (v : Int) then p - 1 else 0)
def rowK (p : Int) (F : List (Int × Int)) (v : Nat) : List Int := (List.range F.length).map (entR p F v)
def totR (p : Int) (k : Nat) (F : List (Int × Int)) : List (List Int) := (List.range k).map (rowK p F)
theorem rowK_len (p : Int) (F : List (Int × Int)) (v : Nat) : (rowK p F v).length = F.length := by simp [rowK]
theorem totR_len (p : Int) (k : Nat) (F : List (Int × Int)) : (totR p k F).length = k := by simp [totR]
theorem totR_get {p : Int} {k : Nat} {F : List (Int × Int)} {r : Nat} (h : r < k) : (totR p k F).getD r [] = rowK p F r := by simp [totR, List.getD, h]
theorem tot_at (p : Int) (k : Nat) (F : List (Int × Int)) (j r : Nat) : mtF (totR p k F) j r = if r < k ∧ j < F.length then entR p F r j else 0 := by
  unfold mtF
  by_cases hr : r < k
  · rw [totR_get hr]
    by_cases hj : j < F.length
    · rw [if_pos ⟨hr, hj⟩]; simp [rowK, List.getD, hj]
    · rw [if_neg (fun h => hj h.2)]; simp [rowK, List.getD, hj]
  · rw [if_neg (fun h => hr h.1)]
    simp [totR, List.getD, hr]
theorem ent_in {p : Int} (hp : isP p) (F : List (Int × Int)) (v j : Nat) : 0 ≤ entR p F v j ∧ entR p F v j < p := by
  unfold isP at hp
  unfold entR
  split <;> split <;> omega
theorem tot_in {p : Int} (hp : isP p) (k : Nat) (F : List (Int × Int)) (j i : Nat) : 0 ≤ mtF (totR p k F) j i ∧ mtF (totR p k F) j i < p := by
  rw [tot_at]
  split
  · exact ent_in hp F i j
  · unfold isP at hp; omega
theorem tot_ok {p : Int} (hp : isP p) {k : Nat} (hk : k ≤ 6) {F : List (Int × Int)} (hF : F.length ≤ 8) : matR p (F.length : Int) (totR p k F) = 0 := by
  unfold matR
  rw [if_pos]
  refine ⟨(mduB_iff p).2 hp, by omega, by omega, by rw [totR_len]; exact hk, ?_⟩
  rw [List.all_eq_true]
  intro r hr
  unfold totR at hr
  obtain ⟨v, _, rfl⟩ := List.mem_map.1 hr
  unfold rowB
  rw [rowK_len]
  simp only [beq_self_eq_true, Bool.true_and, List.all_eq_true]
  intro x hx
  unfold rowK at hx
  obtain ⟨j, _, rfl⟩ := List.mem_map.1 hx
  have := ent_in hp F v j
  unfold inB
  simp; exact this
theorem graph_edges {n : Nat} {F : List (Int × Int)} (h : graphR n F = 0) : 1 ≤ n ∧ n ≤ 7 ∧ F.length ≤ 8 ∧ ∀ j, j < F.length → 0 ≤ (F.getD j (0, 0)).1 ∧ (F.getD j (0, 0)).1 < n ∧ 0 ≤ (F.getD j (0, 0)).2 ∧ (F.getD j (0, 0)).2 < n := by
  unfold graphR at h
  split at h
  · rename_i hh
    refine ⟨by omega, by omega, hh.2.2.1, fun j hj => ?_⟩
    have := List.all_eq_true.1 hh.2.2.2 (F.getD j (0, 0)) (by simp [List.getD, hj])
    unfold edgeB inB at this
    simp only [Bool.and_eq_true, decide_eq_true_eq] at this
    exact ⟨this.1.1, this.1.2, this.2.1, this.2.2⟩
  · cases h
theorem tot_cg {p : Int} (hp : isP p) {n : Nat} {F : List (Int × Int)} (h : graphR n F = 0) (j : Nat) : Cg p (mtF (totR p (n - 1) F) j) fun r => vtx n (ea (natE F) j) r - vtx n (eb (natE F) j) r := fun r _ => by
  obtain ⟨h1, h2, h3, h4⟩ := graph_edges h
  rw [tot_at]
  unfold ea eb vtx
  by_cases hj : j < F.length
  · obtain ⟨a1, a2, a3, a4⟩ := h4 j hj
    rw [natE_at hj]
    dsimp only
    by_cases hr : r < n - 1
    · rw [if_pos ⟨hr, hj⟩]
      unfold entR
      unfold isP at hp
      by_cases e1 : (F.getD j (0, 0)).1 = (r : Int) <;> by_cases e2 : (F.getD j (0, 0)).2 = (r : Int)
      · rw [if_pos e1, if_pos e2, if_pos (by omega), if_pos (by omega)]; simp
      · rw [if_pos e1, if_neg e2, if_pos (by omega), if_neg (by omega)]; simp
      · rw [if_neg e1, if_pos e2, if_neg (by omega), if_pos (by omega)]; rcases hp with rfl | rfl | rfl | rfl <;> rfl
      · rw [if_neg e1, if_neg e2, if_neg (by omega), if_neg (by omega)]; simp
    · rw [if_neg (fun h => hr h.1), if_neg (by omega), if_neg (by omega)]; simp
  · rw [if_neg (fun h => hj h.2)]
    have : (natE F).getD j (0, 0) = (0, 0) := by simp [List.getD, natE, hj]
    rw [this]; simp
theorem tot_dep {p : Int} (hp : isP p) {n : Nat} {F : List (Int × Int)} (h : graphR n F = 0) : depG (natE F) = depC p (mtF (totR p (n - 1) F)) := by
  obtain ⟨h1, h2, h3, h4⟩ := graph_edges h
  funext s i
  refine propext (graph_cols (N := n) hp h2 (fun j _ => ?_) fun j _ => tot_cg hp h j)
  unfold ea eb
  by_cases hj : j < F.length
  · obtain ⟨a1, a2, a3, a4⟩ := h4 j hj
    rw [natE_at hj]
    dsimp only
    omega
  · have : (natE F).getD j (0, 0) = (0, 0) := by simp [List.getD, natE, hj]
    rw [this]; dsimp only; omega
theorem tot_same {p : Int} (hp : isP p) {n : Nat} {F : List (Int × Int)} (h : graphR n F = 0) : bigL F.length (fun s => linB p (totR p (n - 1) F) F.length s) = bigL F.length fun s => !ringB (natE F) s := by
  obtain ⟨h1, h2, h3, h4⟩ := graph_edges h
  have g := graph_basR (E := natE F) (by rw [natE_len]; exact h3) (fun j hj => by
    rw [natE_len] at hj
    obtain ⟨a1, a2, a3, a4⟩ := h4 j hj
    unfold ea eb
    rw [natE_at hj]; dsimp only; omega)
  rw [natE_len] at g
  rw [lin_basR hp (tot_in hp _ F) h3, g, tot_dep hp h]
end Go.Proofs.Ytlmpeacgjafcjaa
