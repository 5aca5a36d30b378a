/- Matrices as lists: what is reduced, multiplied and turned are matrices; rotalaw.Rows[int]. -/
import Derived.Test.YtcncaaeofcmefaaFdKW
import Derived.Test.YtcncaaeofcmefaaPlainAll
import Derived.Test.YtcncaaeofcmefaaRefQ
import Derived.Test.YtcncaaeofcmefaaKLmQ
namespace Go.Proofs.Ytcncaaeofcmefaa
open Go.RowKit

theorem rowF_matL {N c i r : Nat} (hi : i < N) (hr : r < c) (f : Nat → Nat → Int) : rowF (matL N c f) i r = f i r := matL_at hi hr f
theorem MatOK.mat {p : Int} {N c : Nat} {f : Nat → Nat → Int} (hp : isP p) (hc : c ≤ 8) (hN : N ≤ 6) (hr : ∀ i, i < N → ∀ r, r < c → 0 ≤ f i r ∧ f i r < p) : MatOK p c (matL N c f) :=
  ⟨hp, by omega, by omega, by rw [matL_len]; exact hN, fun k hk => by rw [matL_len] at hk; rw [matL_row hk]; simp, fun k hk r hr2 => by rw [matL_len] at hk; rw [rowF_matL hk (by omega)]; exact hr k hk r (by omega)⟩
theorem MatOK.rowc {p : Int} {c : Nat} {R : List (List Int)} (h : MatOK p c R) : ∀ i, i < R.length → ∀ r, r < c → 0 ≤ rowF R i r ∧ rowF R i r < p := fun i hi r hr => h.rng i hi r (by omega)
theorem MatOK.c8' {p : Int} {c : Nat} {R : List (List Int)} (h : MatOK p c R) : c ≤ 8 := by have := h.c8; omega
/-- A matrix is known by its numbers. -/
theorem MatOK.mat_self {p : Int} {c : Nat} {R : List (List Int)} (h : MatOK p c R) : matL R.length c (rowF R) = R := by
  refine List.ext_getElem (by rw [matL_len]) fun i h1 h2 => ?_
  have hl := h.len i h2
  have e : R.getD i [] = R[i] := by simp [List.getD, h2]
  rw [e] at hl
  have e2 := matL_row (c := c) h2 (rowF R)
  rw [List.getD_eq_getElem?_getD, List.getElem?_eq_getElem h1] at e2
  rw [show (matL R.length c (rowF R))[i] = (List.range c).map (rowF R i) from e2]
  refine List.ext_getElem (by simp; omega) fun r g1 g2 => ?_
  rw [List.getElem_map, List.getElem_range]
  show (R.getD i []).getD r 0 = _
  rw [e]
  simp [List.getD, g2]
theorem redL_ok {p : Int} {c : Nat} {R : List (List Int)} (h : MatOK p c R) : MatOK p c (redL p c R) := by
  obtain ⟨h1, b, h2, -, -⟩ := red_ok h.pr h.rowc
  exact MatOK.mat h.pr h.c8' (Nat.le_trans h1 h.rl) h2.rng
theorem redL_rowF {p : Int} {c : Nat} {R : List (List Int)} {i r : Nat} (hi : i < (redL p c R).length) (hr : r < c) : rowF (redL p c R) i r = redF p c R.length (rowF R) i r := by
  rw [redL_len] at hi
  exact rowF_matL hi hr _
theorem redL_twice {p : Int} {c : Nat} {R : List (List Int)} (h : MatOK p c R) : redL p c (redL p c R) = redL p c R := by
  obtain ⟨-, b, r1, -, -⟩ := red_ok h.pr h.rowc
  have h2 := redL_ok h
  obtain ⟨-, b', q1, q2, q3⟩ := red_ok h2.pr h2.rowc
  rw [redL_len] at q1 q2 q3
  have hin : ∀ i, i < redN p c R.length (rowF R) → ∀ r, r < c → Em p (rowF (redL p c R) i r) (redF p c R.length (rowF R) i r) := fun i hi r hr => Em.of (rowF_matL hi hr _)
  obtain ⟨e1, -, e2⟩ := q1.uniq h.pr r1 (fun i hi => (q3 i hi).cg fun r hr => (hin i hi r hr).symm) fun i hi => (q2 i hi).trans fun j hj => (InS.of hj).cg fun r hr => hin j hj r hr
  have e3 : redL p c (redL p c R) = matL (redN p c (redN p c R.length (rowF R)) (rowF (redL p c R))) c (redF p c (redN p c R.length (rowF R)) (rowF (redL p c R))) := by
    show matL (redN p c (redL p c R).length (rowF (redL p c R))) c (redF p c (redL p c R).length (rowF (redL p c R))) = _
    rw [redL_len]
  rw [e3]
  unfold redL at e1 e2 ⊢
  rw [e1] at e2 ⊢
  exact matL_congr e2
theorem timL_len (p : Int) (c c2 : Nat) (R R2 : List (List Int)) : (timL p c c2 R R2).length = R.length := matL_len _ _ _
theorem timL_ok {p : Int} {c c2 : Nat} {R R2 : List (List Int)} (h : MatOK p c R) (h2 : MatOK p c2 R2) : MatOK p c2 (timL p c c2 R R2) := MatOK.mat h.pr h2.c8' h.rl fun i _ r _ => timF_in h.pr _ _ _ i r
theorem timL_rowF {p : Int} {c c2 : Nat} {R R2 : List (List Int)} {i r : Nat} (hi : i < R.length) (hr : r < c2) : rowF (timL p c c2 R R2) i r = timF p (rowF R) (rowF R2) c i r := rowF_matL hi hr _
theorem turL_len (c : Nat) (R : List (List Int)) : (turL c R).length = c := matL_len _ _ _
theorem turL_ok {p : Int} {c : Nat} {R : List (List Int)} (h : MatOK p c R) (hc : c ≤ 6) : MatOK p R.length (turL c R) := MatOK.mat h.pr (Nat.le_trans h.rl (by decide)) hc fun j hj i hi => h.rowc i hi j hj
theorem turL_rowF {c : Nat} {R : List (List Int)} {i j : Nat} (hj : j < c) (hi : i < R.length) : rowF (turL c R) j i = rowF R i j := rowF_matL hj hi _
/-- No product has a greater rank. -/
theorem rank_mul {p : Int} {c c2 : Nat} {R R2 : List (List Int)} (h : MatOK p c R) (h2 : MatOK p c2 R2) (he : c = R2.length) : (redL p c2 (timL p c c2 R R2)).length ≤ (redL p c R).length ∧ (redL p c2 (timL p c c2 R R2)).length ≤ (redL p c2 R2).length := by
  rw [redL_len, redL_len, redL_len, timL_len]
  subst he
  exact red_mul h.pr h.rowc h2.rowc (fun i hi r hr => by rw [timL_rowF hi hr]; exact timF_in h.pr _ _ _ i r) fun i hi r hr => by
    rw [timL_rowF hi hr]
    exact timF_em _ _ i r _
/-- Turned over, a product is turned round. -/
theorem tur_mul {p : Int} {c c2 : Nat} {R R2 : List (List Int)} (h : MatOK p c R) (he : c = R2.length) : timL p R2.length R.length (turL c2 R2) (turL c R) = turL c2 (timL p c c2 R R2) := by
  unfold timL
  conv => rhs; unfold turL
  rw [turL_len, matL_len]
  refine matL_congr fun j hj i hi => ?_
  rw [rowF_matL hi hj]
  refine Em.eq (p := p) ?_ (timF_in h.pr _ _ _ j i) (timF_in h.pr _ _ _ i j)
  refine (timF_em _ _ j i _).trans (Em.trans (Em.of ?_) (timF_em _ _ i j _).symm)
  rw [he]
  refine sm_congr fun l hl => ?_
  rw [turL_rowF hj hl, turL_rowF (by omega) hi, Int.mul_comm]
/-- Products hang on no brackets. -/
theorem mul_assoc' {p : Int} {c c2 c3 : Nat} {R R2 R3 : List (List Int)} (h : MatOK p c R) (he : c = R2.length) : timL p c2 c3 (timL p c c2 R R2) R3 = timL p c c3 R (timL p c2 c3 R2 R3) := by
  show matL (timL p c c2 R R2).length c3 (timF p (rowF (timL p c c2 R R2)) (rowF R3) c2) = matL R.length c3 (timF p (rowF R) (rowF (timL p c2 c3 R2 R3)) c)
  rw [timL_len]
  refine matL_congr fun i hi r hr => ?_
  refine Em.eq (p := p) ?_ (timF_in h.pr _ _ _ i r) (timF_in h.pr _ _ _ i r)
  refine (timF_em _ _ i r _).trans (Em.trans ?_ (timF_em _ _ i r _).symm)
  have h1 : Em p (sm c2 fun k => rowF (timL p c c2 R R2) i k * rowF R3 k r) (sm c2 fun k => sm c fun l => rowF R i l * (rowF R2 l k * rowF R3 k r)) := Em.sm fun k hk => by
    rw [timL_rowF hi hk]
    have := (timF_em (p := p) (rowF R) (rowF R2) i k c).mul (Em.refl (p := p) (rowF R3 k r))
    rw [Int.mul_comm (sm _ _), ← sm_mul] at this
    exact this.trans (Em.of (sm_congr fun l _ => by rw [Int.mul_comm, Int.mul_assoc]))
  have h2 : Em p (sm c fun l => rowF R i l * rowF (timL p c2 c3 R2 R3) l r) (sm c fun l => sm c2 fun k => rowF R i l * (rowF R2 l k * rowF R3 k r)) := Em.sm fun l hl => by
    rw [timL_rowF (by omega) hr, sm_mul]
    exact (Em.refl _).mul (timF_em _ _ l r _)
  rw [sm_swap] at h1
  exact h1.trans h2.symm
/-- A matrix of one row of one number, as a literal. -/
theorem RowsI.lit1 (w : World) (a : Int) : RowsI ((w.alloc (.cells #[.int .i64 a] 3)).alloc (.cells #[.slice (some ⟨w.heap.size, 0, none⟩) 1 1] 28)) (.slice (some ⟨w.heap.size + 1, 0, none⟩) 1 1) [[a]] := by
  refine ⟨_, 1, rfl, by simp, fun _ => ⟨w.heap.size + 1, 0, rfl, by simp, fun i hi => ?_⟩⟩
  obtain rfl : i = 0 := by simp at hi; exact hi
  refine ⟨_, by rw [World.cell?_alloc_at _ _ _ _ (by simp)]; rfl, ?_⟩
  exact (Ints.lit1 w a).below ((Below.refl _ _).alloc (Nat.le_refl _) _)
theorem box_keep {V V' : World} {b : Nat} {o : Obj} (h : V.heap[b]? = some o) (hb : Below V.heap.size V V') : V'.heap[b]? = some o := (hb.block _ (Array.getElem?_eq_some_iff.1 h).1).trans h
theorem RowsI.form {w : World} {v : Value} {R : List (List Int)} (h : RowsI w v R) : ∃ a cap, v = .slice a R.length cap := by
  obtain ⟨a, cap, h1, -⟩ := h
  exact ⟨a, cap, h1⟩
end Go.Proofs.Ytcncaaeofcmefaa

namespace Go.Proofs.Ytcncaaeofcmefaa
open Go.RowKit

/-- Is it a matrix? -/
def okM (p c : Int) (R : List (List Int)) : Bool := matR p c R == 0
theorem okM_ok {p c : Int} {R : List (List Int)} (h : MatOK p c R) : okM p c R = true := by
  unfold okM
  rw [MatOK.iff.2 h]; rfl
theorem okM_no {p c : Int} {R : List (List Int)} (h : matR p c R = 1) : okM p c R = false := by
  unfold okM
  rw [h]; rfl
theorem okM_bad {p c : Int} {R : List (List Int)} (h : ¬ (mduB p = true ∧ 0 ≤ c ∧ c ≤ 8 ∧ R.length ≤ 6)) : okM p c R = false := by
  unfold okM matR
  rw [if_neg fun e => h ⟨e.1, e.2.1, e.2.2.1, e.2.2.2.1⟩]; rfl
theorem okM_good {p c : Int} {R : List (List Int)} (h : mduB p = true ∧ 0 ≤ c ∧ c ≤ 8 ∧ R.length ≤ 6) : okM p c R = R.all (rowB p c) := by
  unfold okM matR
  by_cases e : R.all (rowB p c) = true
  · rw [if_pos ⟨h.1, h.2.1, h.2.2.1, h.2.2.2, e⟩, e]; rfl
  · rw [if_neg fun e2 => e e2.2.2.2.2, show R.all (rowB p c) = false by simpa using e]; rfl
theorem all_step {f : List Int → Bool} {R : List (List Int)} {i : Nat} (hi : i < R.length) : (R.drop i).all f = (f (R.getD i []) && (R.drop (i + 1)).all f) := by
  have e := List.drop_eq_getElem_cons hi
  rw [e, List.all_cons, show R.getD i [] = R[i] by simp [List.getD, hi]]
theorem all_stepI {f : Int → Bool} {R : List Int} {i : Nat} (hi : i < R.length) : (R.drop i).all f = (f (R.getD i 0) && (R.drop (i + 1)).all f) := by
  have e := List.drop_eq_getElem_cons hi
  rw [e, List.all_cons, show R.getD i 0 = R[i] by simp [List.getD, hi]]
end Go.Proofs.Ytcncaaeofcmefaa
