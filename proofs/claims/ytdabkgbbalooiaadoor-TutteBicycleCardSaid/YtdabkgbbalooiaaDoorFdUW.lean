/- rotaref.IsReduced, rotaref.Nought. -/
import Derived.Test.YtdabkgbbalooiaaDoorFdSW
import Derived.Test.YtdabkgbbalooiaaDoorFdRQ
import Derived.Test.YtdabkgbbalooiaaDoorFdOQ
namespace Go.Proofs.YtdabkgbbalooiaaDoor
open Go.RowKit

theorem RowsI.reads {w : World} {v : Value} {Q : List (List Int)} {c : Nat} (h : RowsI w v Q) (hl : ∀ k, k < Q.length → (Q.getD k []).length = c) : ∃ a cap, v = .slice a Q.length cap ∧ ∀ k, k < Q.length → ∃ b off, a = some ⟨b, off, none⟩ ∧ ∃ ra rc, ∀ wr, Below w.heap.size w wr → wr.cell? ⟨b, off + k, none⟩ = some (.slice ra c rc) ∧ Ints wr (.slice ra c rc) ((List.range c).map (rowF Q k)) ∧ ∀ m, m < c → ∃ rb ro, ra = some ⟨rb, ro, none⟩ ∧ wr.cell? ⟨rb, ro + m, none⟩ = some (.int .i64 (rowF Q k m)) := by
  obtain ⟨a, cap, rfl, -, hcc⟩ := h
  refine ⟨a, cap, rfl, fun k hk => ?_⟩
  obtain ⟨b, off, h1, h2, h3⟩ := hcc (by omega)
  obtain ⟨u, h4, h5⟩ := h3 k hk
  have hl2 := hl k hk
  have e : (List.range c).map (rowF Q k) = Q.getD k [] := by
    refine List.ext_getElem (by rw [List.length_map, List.length_range, hl2]) fun r g1 g2 => ?_
    rw [List.getElem_map, List.getElem_range]
    show (Q.getD k []).getD r 0 = _
    generalize Q.getD k [] = l at *
    simp [List.getD, g2]
  have h5' := h5
  obtain ⟨ra, rc, rfl, -, -⟩ := h5
  rw [hl2] at h4 h5'
  refine ⟨b, off, h1, ra, rc, fun wr hbw => ⟨?_, by rw [e]; exact h5'.below hbw, fun m hmc => ?_⟩⟩
  · rw [hbw.cell (p := ⟨b, off + k, none⟩) h2, h4]
  · obtain ⟨ra2, rc2, e1, -, e3⟩ := h5'.below hbw
    have e1' := e1
    cases e1'
    obtain ⟨rb, ro, e4, -, e6⟩ := e3 (by omega)
    exact ⟨rb, ro, e4, e6 m (by omega)⟩
theorem MatOK.lens {p : Int} {c : Nat} {Q : List (List Int)} (hm : MatOK p c Q) : ∀ k, k < Q.length → (Q.getD k []).length = c := fun k hk => by have := hm.len k hk; omega
/-- Where the row ahead begins. -/
def lastI (b : Nat → Nat) : Nat → Int
  | 0 => -1
  | i + 1 => b i
theorem sm_le {n : Nat} {f : Nat → Int} {m : Int} (h : ∀ i, i < n → 0 ≤ f i ∧ f i ≤ m) : ∀ j, j ≤ n → 0 ≤ sm j f ∧ sm j f ≤ j * m
  | 0, _ => ⟨Int.le_refl 0, by show (0 : Int) ≤ 0 * m; rw [Int.zero_mul]; exact Int.le_refl 0⟩
  | j + 1, hj => by
    have ih := sm_le h j (by omega)
    have h1 := h j (by omega)
    have e : ((j + 1 : Nat) : Int) * m = j * m + m := by rw [Int.natCast_add, Int.add_mul]; simp
    show 0 ≤ sm j f + f j ∧ sm j f + f j ≤ _
    rw [e]
    omega
end Go.Proofs.YtdabkgbbalooiaaDoor

namespace Go.Proofs.YtdabkgbbalooiaaDoor
open Go.RowKit

/-- v is a slice of the call's own, of rows that lay already in w0. -/
def RowsO (w0 w : World) (v : Value) (R : List (List Int)) : Prop := ∃ us : List Value, us.length = R.length ∧ w.ownsRow w0.heap.size 28 1 v R.length us ∧ ∀ i, i < R.length → ∃ u, us[i]? = some u ∧ u.oneCell' = true ∧ Ints w0 u (R.getD i [])
theorem RowsO.nil (w0 w : World) : RowsO w0 w (.slice none 0 0) [] := ⟨[], rfl, World.ownsRow_nil _ _ _ _, fun i hi => by simp at hi⟩
theorem RowsO.rows {w0 w : World} {v : Value} {R : List (List Int)} (h : RowsO w0 w v R) (hb : Below w0.heap.size w0 w) (hl : R.length ≤ 256) : RowsI w v R := by
  obtain ⟨us, h1, h2, h3⟩ := h
  rcases Go.Joins.ownsRow_forms h2 with ⟨rfl, h0⟩ | ⟨g, cap, rfl⟩
  · exact ⟨none, 0, by rw [h0], by omega, fun hh => by omega⟩
  · refine ⟨_, cap, rfl, by omega, fun _ => ⟨g, 0, rfl, (World.ownsRow.lt h2 g rfl).2, fun i hi => ?_⟩⟩
    obtain ⟨u, h5, -, h6⟩ := h3 i hi
    refine ⟨u, ?_, h6.below hb⟩
    have := World.ownsRow.cellAt h2 i (by omega)
    rw [Nat.zero_add, this, h5]
theorem ints_one {w : World} {u : Value} {l : List Int} (h : Ints w u l) : u.oneCell' = true := by
  obtain ⟨a, c, rfl, -⟩ := h
  rfl
theorem run_appR {w0 w : World} {v u : Value} {R R2 : List (List Int)} (ty : TypeId) (hb : Below w0.heap.size w0 w) (hv : RowsO w0 w v R) (hu : RowsI w0 u R2) (hl : R.length ≤ 64) (hl2 : R2.length ≤ 64) : ∃ v' w', (Builtin.append_ #[22, 22] ty #[v, u]).run Tryd.prog w = .ok v' w' ∧ RowsO w0 w' v' (R ++ R2) ∧ Below w0.heap.size w0 w' := by
  obtain ⟨i0, hi, hz0, hz1, hz2⟩ := info_parts Tryd.infoRowI
  obtain ⟨us, h1, h2, h3⟩ := hv
  obtain ⟨a, cap, rfl, -, hc⟩ := hu
  have key : ∀ (x : Addr) (us2 : List Value), a = some x → us2.length = R2.length → (∀ i, i < R2.length → ∃ u, us2[i]? = some u ∧ w0.cell? (x.add i) = some u ∧ x.block < w0.heap.size ∧ Ints w0 u (R2.getD i [])) → ∃ v' w', (Builtin.append_ #[22, 22] ty #[v, .slice a R2.length cap]).run Tryd.prog w = .ok v' w' ∧ RowsO w0 w' v' (R ++ R2) ∧ Below w0.heap.size w0 w' := by
    intro x us2 hx hl3 h4
    subst hx
    obtain ⟨v', w', hrun, r1, r2, -⟩ := run_append_own (P := Tryd.prog) w w0.heap.size 22 ty 28 i0 (.slice none 0 0) 1 24 Tryd.undRowsI hi hz0 hz1 hz2 rfl (by decide) v R.length us h2 x R2.length cap us2
      (by rw [hl3, Nat.mul_one]) (fun j u hj => by
        have hj2 : j < R2.length := by rw [← hl3]; exact (List.getElem?_eq_some_iff.1 hj).1
        obtain ⟨u', e1, e2, e3, -⟩ := h4 j hj2
        rw [e1] at hj
        cases hj
        rw [← e2]
        exact hb.cell (p := x.add j) (by
          unfold Addr.add
          split <;> exact e3))
      (fun u hu => by
        obtain ⟨j, hj, rfl⟩ := List.getElem_of_mem hu
        obtain ⟨u', e1, -, -, e4⟩ := h4 j (by omega)
        rw [List.getElem?_eq_getElem hj] at e1
        cases e1
        exact ints_one e4) (by unfold maxLen; omega) (by omega) hb.size
    refine ⟨v', w', hrun, ⟨us ++ us2, by simp [h1, hl3], by rw [List.length_append]; exact r1, fun i hi => ?_⟩, hb.grown r2 hb.size (fun k e => (World.ownsRow.lt h2 k e).1)⟩
    rw [List.length_append] at hi
    by_cases e : i < R.length
    · obtain ⟨u, g1, g2, g3⟩ := h3 i e
      refine ⟨u, by rw [List.getElem?_append_left (by omega)]; exact g1, g2, ?_⟩
      rw [show (R ++ R2).getD i [] = R.getD i [] by simp [List.getD, List.getElem?_append_left e]]
      exact g3
    · obtain ⟨u, g1, -, -, g3⟩ := h4 (i - R.length) (by omega)
      refine ⟨u, by rw [List.getElem?_append_right (by omega), h1]; exact g1, ints_one g3, ?_⟩
      rw [show (R ++ R2).getD i [] = R2.getD (i - R.length) [] by simp [List.getD, List.getElem?_append_right (show R.length ≤ i by omega)]]
      exact g3
  by_cases h0 : 0 < R2.length
  · obtain ⟨b, off, rfl, hbs, hcell⟩ := hc h0
    have hch : ∀ i, ∃ u, i < R2.length → w0.cell? ⟨b, off + i, none⟩ = some u ∧ Ints w0 u (R2.getD i []) := fun i => by
      by_cases hi : i < R2.length
      · obtain ⟨u, e⟩ := hcell i hi
        exact ⟨u, fun _ => e⟩
      · exact ⟨undef, fun h => absurd h hi⟩
    obtain ⟨U, hU⟩ := Classical.axiomOfChoice hch
    refine key ⟨b, off, none⟩ ((List.range R2.length).map U) rfl (by simp) fun i hi => ?_
    obtain ⟨e1, e2⟩ := hU i hi
    refine ⟨U i, by simp [hi], ?_, hbs, e2⟩
    rw [← e1]
    simp only [Addr.add]
    split
    · rename_i e; simp_all
    · simp
  · have hz : R2 = [] := List.length_eq_zero_iff.1 (by omega)
    subst hz
    rcases a with _ | x
    · refine ⟨v, w, ?_, by rw [List.append_nil]; exact ⟨us, h1, h2, h3⟩, hb⟩
      have h2' := h2
      obtain ⟨g0, g1⟩ := h2
      rcases g1 with ⟨rfl, g2⟩ | ⟨g, cp, cur, rfl, g3, g4, g5, g6⟩
      · simp [Builtin.append_, run_underlying Tryd.undRowsI, sizeOf, typeInfo, hi, Builtin.lenOf, run_firstCells_none]
      · have hle : R.length ≤ cp := by first | exact g5 | omega
        simp [Builtin.append_, run_underlying Tryd.undRowsI, sizeOf, typeInfo, hi, Builtin.lenOf, run_firstCells_none, hle, storeCells]
    · exact key x [] rfl rfl fun i hi => by simp at hi
theorem step_appR {w0 w : World} {R R2 : List (List Int)} {ops : Array Oper} {o : Oper} {a : Act} {K : Act → World → Prop} {Q : Exit → Act → World → Prop} {E : Prop}
    (hw : Region.wanted o (yielded ops a.tmps) = true) (s x : Operand) (hop : o.op = Op.call { callee := Callee.builtin Builtin.append, args := #[s, x], argTypes := #[22, 22] })
    (hb : Below w0.heap.size w0 w) (hv : RowsO w0 w (a.eval s) R) (hu : RowsI w0 (a.eval x) R2) (hl : R.length ≤ 64) (hl2 : R2.length ≤ 64)
    (hK : ∀ v' w', RowsO w0 w' v' (R ++ R2) → Below w0.heap.size w0 w' → K (a.put o.dst v') w') :
    if Region.wanted o (yielded ops a.tmps) = true then Oper.wp Tryd.prog o a w K Q else E := by
  rw [if_pos hw]
  obtain ⟨v', w', hrun, r1, r2⟩ := run_appR (v := a.eval s) (u := a.eval x) o.type hb hv hu hl hl2
  unfold Oper.wp
  simp [execOp, hop, resolve, invoke, builtin, hrun, Result.andThen]
  exact hK v' w' r1 r2
theorem rowF_left {A B : List (List Int)} {i r : Nat} (h : i < A.length) : rowF (A ++ B) i r = rowF A i r := by
  unfold rowF
  rw [show (A ++ B).getD i [] = A.getD i [] by simp [List.getD, List.getElem?_append_left h]]
theorem rowF_right {A B : List (List Int)} {i r : Nat} (h : A.length ≤ i) : rowF (A ++ B) i r = rowF B (i - A.length) r := by
  unfold rowF
  rw [show (A ++ B).getD i [] = B.getD (i - A.length) [] by simp [List.getD, List.getElem?_append_right h]]
variable {p : Int} {c : Nat} {R : List (List Int)}
/-- Rows that hang on others add nothing. -/
theorem rank_app (hm : MatOK p c R) : redN p c (redL p c R ++ R).length (rowF (redL p c R ++ R)) = (redL p c R).length := by
  have hR := redL_ok hm
  obtain ⟨-, b, r1, r2, r3⟩ := red_ok hm.pr hm.rowc
  rw [redL_len]
  have hrow : ∀ i, i < (redL p c R ++ R).length → ∀ r, r < c → 0 ≤ rowF (redL p c R ++ R) i r ∧ rowF (redL p c R ++ R) i r < p := fun i hi r hr => by
    rw [List.length_append] at hi
    by_cases e : i < (redL p c R).length
    · rw [rowF_left e]; exact hR.rowc i e r hr
    · rw [rowF_right (by omega)]; exact hm.rowc _ (by omega) r hr
  refine (red_uniq hm.pr hrow hm.rowc (fun i hi => ?_) fun i hi => ?_).1
  · rw [List.length_append] at hi
    by_cases e : i < (redL p c R).length
    · exact (r2 i (by rw [← redL_len]; exact e)).cg fun r hr => Em.of (by rw [rowF_left e, redL_rowF e hr])
    · exact (InS.of (show i - (redL p c R).length < R.length by omega)).cg fun r hr => Em.of (rowF_right (by omega))
  · exact (InS.of (show (redL p c R).length + i < (redL p c R ++ R).length by rw [List.length_append]; omega)).cg fun r hr => Em.of (by rw [rowF_right (by omega), Nat.add_sub_cancel_left])
theorem app_rows (hm : MatOK p c R) : (∀ k, k < (redL p c R ++ R).length → ((redL p c R ++ R).getD k []).length = c) ∧ ∀ k, k < (redL p c R ++ R).length → ∀ r, r < c → 0 ≤ rowF (redL p c R ++ R) k r ∧ rowF (redL p c R ++ R) k r < p := by
  have hR := redL_ok hm
  constructor
  · intro k hk
    rw [List.length_append] at hk
    by_cases e : k < (redL p c R).length
    · rw [show (redL p c R ++ R).getD k [] = (redL p c R).getD k [] by simp [List.getD, List.getElem?_append_left e]]
      exact hR.lens k e
    · rw [show (redL p c R ++ R).getD k [] = R.getD (k - (redL p c R).length) [] by simp [List.getD, List.getElem?_append_right (show (redL p c R).length ≤ k by omega)]]
      exact hm.lens _ (by omega)
  · intro k hk r hr
    rw [List.length_append] at hk
    by_cases e : k < (redL p c R).length
    · rw [rowF_left e]; exact hR.rowc k e r hr
    · rw [rowF_right (by omega)]; exact hm.rowc _ (by omega) r hr
theorem ker_rref' (hm : MatOK p c R) (hk : c ≤ (redL p c R).length + 6) : Rref p c (kerL p c R).length (rowF (kerL p c R)) fun i => bgN c (rowF (kerL p c R) i) := red_rref (acL_ok hm hk)
theorem ker_zero (hm : MatOK p c R) : ∀ i k, i < R.length → k < (kerL p c R).length → Em p (sm c fun r => rowF R i r * rowF (kerL p c R) k r) 0 := fun i k hi hk => by
  have hl : (kerL p c R).length = kerC p c R.length (rowF R) := by rw [kerL_is hm, matL_len]
  refine Em.trans (Em.of (sm_congr fun r hr => ?_)) (ker_nought hm.pr hm.rowc hi (by rw [← hl]; exact hk))
  rw [kerL_rowF hm hk hr]
end Go.Proofs.YtdabkgbbalooiaaDoor
