/- A kernel's kernel, and its matroid, as lists. -/
import Derived.Test.YteeliinmpbleoaaFdOQ
import Derived.Test.YteeliinmpbleoaaPlainAll
import Derived.Test.YteeliinmpbleoaaKLbQ
namespace Go.Proofs.Yteeliinmpbleoaa
open Go.RowKit

variable {p : Int} {c : Nat} {R : List (List Int)}
theorem ker_congr {m N : Nat} {f0 g : Nat → Nat → Int} (hp : isP p) (h0 : ∀ i, i < N → ∀ r, r < m → 0 ≤ f0 i r ∧ f0 i r < p) (e : ∀ i, i < N → ∀ r, r < m → g i r = f0 i r) : kerC p m N g = kerC p m N f0 ∧ ∀ i, i < kerC p m N g → ∀ r, r < m → kerF p m N g i r = kerF p m N f0 i r := by
  have h1 : ∀ i, i < N → ∀ r, r < m → 0 ≤ g i r ∧ g i r < p := fun i hi r hr => by rw [e i hi r hr]; exact h0 i hi r hr
  obtain ⟨b, r1⟩ := ker_rref (p := p) (m := m) (N := N) (f0 := g) hp
  obtain ⟨b', r2⟩ := ker_rref (p := p) (m := m) (N := N) (f0 := f0) hp
  obtain ⟨e1, -, e2⟩ := r1.uniq hp r2 (fun j hj => ker_span hp h1 fun i hi => by
    rw [sm_congr fun r hr => by rw [e i hi r hr]]
    exact ker_nought hp h0 hi hj) fun j hj => ker_span hp h0 fun i hi => by
    rw [sm_congr fun r hr => by rw [← e i hi r hr]]
    exact ker_nought hp h1 hi hj
  exact ⟨e1, e2⟩
theorem ker_rank (hm : MatOK p c R) (hk : c ≤ (redL p c R).length + 6) : c ≤ (redL p c (kerL p c R)).length + 6 := by
  have h1 := kerL_len hm
  have h2 : redL p c (kerL p c R) = kerL p c R := redL_twice (acL_ok hm hk)
  rw [h2]
  have := (redL_ok hm).rl
  omega
theorem kerL_twice (hm : MatOK p c R) (hk : c ≤ (redL p c R).length + 6) : kerL p c (kerL p c R) = redL p c R := by
  have hK := kerL_ok hm hk
  have hl : (kerL p c R).length = kerC p c R.length (rowF R) := by rw [kerL_is hm, matL_len]
  obtain ⟨e1, e2⟩ := ker_congr (m := c) (N := kerC p c R.length (rowF R)) (g := rowF (kerL p c R)) (f0 := kerF p c R.length (rowF R)) hm.pr (fun i hi r hr => kerF_in hm.pr hi hr) fun i hi r hr => kerL_rowF hm (by rw [hl]; exact hi) hr
  rw [kerL_is hK, hl, e1, ker_num hm.pr hm.rowc]
  refine matL_congr fun i hi r hr => ?_
  rw [e2 i (by rw [e1, ker_num hm.pr hm.rowc]; exact hi) r hr, ker_ker hm.pr hm.rowc i hi r hr]
theorem MatOK.inF (hm : MatOK p c R) (j i : Nat) : 0 ≤ mtF R j i ∧ mtF R j i < p := by
  have hp2 := isP_pos hm.pr
  by_cases hi : i < R.length
  · by_cases hj : j < c
    · exact hm.rowc i hi j hj
    · have hl := hm.len i hi
      have : mtF R j i = 0 := by
        show (R.getD i []).getD j 0 = 0
        generalize R.getD i [] = l at hl
        rw [List.getD_eq_getElem?_getD, List.getElem?_eq_none (by omega)]; rfl
      omega
  · have : mtF R j i = 0 := by
      show (R.getD i []).getD j 0 = 0
      rw [List.getD_eq_getElem?_getD (l := R), List.getElem?_eq_none (by omega)]; rfl
    omega
theorem mt_out {j i : Nat} (hi : R.length ≤ i) : mtF R j i = 0 := by
  show (R.getD i []).getD j 0 = 0
  rw [List.getD_eq_getElem?_getD (l := R), List.getElem?_eq_none (by omega)]; rfl
/-- The bases of a kernel's matroid are what the bases leave. -/
theorem ker_dual (hm : MatOK p c R) (hk : c ≤ (redL p c R).length + 6) : cmp c (bigL c fun s => linB p R c s) = bigL c fun s => linB p (kerL p c R) c s := by
  have hK := kerL_ok hm hk
  have hl : (kerL p c R).length = kerC p c R.length (rowF R) := by rw [kerL_is hm, matL_len]
  rw [lin_basR hm.pr hm.inF hm.c8', lin_basR hK.pr hK.inF hm.c8']
  refine dual_is hm.pr hm.c8' (fun i j hi hj => ?_) (fun v hv => ?_) fun v hv => ?_
  · by_cases h1 : i < R.length
    · by_cases h2 : j < (kerL p c R).length
      · refine Em.trans (Em.of (sm_congr fun r hr => ?_)) (ker_nought hm.pr hm.rowc h1 (by rw [← hl]; exact h2))
        show rowF R i r * rowF (kerL p c R) j r = _
        rw [kerL_rowF hm h2 hr]
      · exact Em.sm0 fun r _ => by rw [mt_out (R := kerL p c R) (by omega), Int.mul_zero]; exact Em.refl _
    · exact Em.sm0 fun r _ => by rw [mt_out (R := R) (by omega), Int.zero_mul]; exact Em.refl _
  · obtain ⟨-, b, r1, r2, r3⟩ := red_ok hm.pr hm.rowc
    have h1 := ker_perp (v := v) hm.pr hm.rowc fun j hj => by
      have h2 : j < (kerL p c R).length := by rw [hl]; exact hj
      refine Em.trans (Em.of (sm_congr fun r hr => ?_)) (hv j (by have := hK.rl; omega))
      rw [← kerL_rowF hm h2 hr]
      rfl
    refine (h1.trans r2).trans fun i hi => ?_
    have := hm.rl
    exact InS.of (g := fun i r => mtF R r i) (show i < 6 by omega)
  · have h1 := ker_span (v := v) hm.pr hm.rowc fun i hi => hv i (by have := hm.rl; omega)
    refine h1.trans fun j hj => ?_
    have h2 : j < (kerL p c R).length := by rw [hl]; exact hj
    have := hK.rl
    exact (InS.of (g := fun i r => mtF (kerL p c R) r i) (show j < 6 by omega)).cg fun r hr => Em.of (kerL_rowF hm h2 hr).symm
end Go.Proofs.Yteeliinmpbleoaa
