/- The bicycle theorem for a matrix of package field: the law's number. -/
import Derived.Test.YtdabkgbbalooiaaDoorPlainAll1
import Derived.Test.YtdabkgbbalooiaaDoorFdSW
import Derived.Test.YtdabkgbbalooiaaDoorFdUW
namespace Go.Proofs.YtdabkgbbalooiaaDoor

variable {c : Nat} {R : List (List Int)}
theorem both_rows {p : Int} {A B : List (List Int)} (hA : MatOK p c A) (hB : MatOK p c B) : (∀ k, k < (A ++ B).length → ((A ++ B).getD k []).length = c) ∧ ∀ k, k < (A ++ B).length → ∀ r, r < c → 0 ≤ rowF (A ++ B) k r ∧ rowF (A ++ B) k r < p := by
  constructor
  · intro k hk
    rw [List.length_append] at hk
    by_cases e : k < A.length
    · rw [show (A ++ B).getD k [] = A.getD k [] by simp [List.getD, List.getElem?_append_left e]]
      exact hA.lens k e
    · rw [show (A ++ B).getD k [] = B.getD (k - A.length) [] by simp [List.getD, List.getElem?_append_right (show A.length ≤ k by omega)]]
      exact hB.lens _ (by omega)
  · intro k hk r hr
    rw [List.length_append] at hk
    by_cases e : k < A.length
    · rw [rowF_left e]; exact hA.rowc k e r hr
    · rw [rowF_right (by omega)]; exact hB.rowc _ (by omega) r hr
theorem bic_rank (hm : MatOK 2 c R) (hk : c ≤ (redL 2 c R).length + 6) : redN 2 c (R ++ kerL 2 c R).length (rowF (R ++ kerL 2 c R)) ≤ c := by
  have := ker_len hm.pr (both_rows hm (kerL_ok hm hk)).2
  omega
theorem bic_is (hm : MatOK 2 c R) (hk : c ≤ (redL 2 c R).length + 6) :
    pvZ c (bigL c fun s => linB 2 R c s) (-1) (-1) = (-1) ^ c * (-2) ^ (c - redN 2 c (R ++ kerL 2 c R).length (rowF (R ++ kerL 2 c R))) := by
  have hK := kerL_ok hm hk
  have hl : (kerL 2 c R).length = kerC 2 c R.length (rowF R) := by rw [kerL_is hm, matL_len]
  have hc8 := hm.c8'
  have hle := bic_rank hm hk
  rw [lin_basR hm.pr hm.inF hm.c8']
  have hlen : (R ++ kerL 2 c R).length = R.length + (kerL 2 c R).length := List.length_append
  obtain ⟨-, b, r1, r2, r3⟩ := red_ok hm.pr (both_rows hm hK).2
  have hR6 := hm.rl
  refine bicycle (c := (kerL 2 c R).length) (H := rowF (kerL 2 c R)) hm.c8' (ker_rref' hm hk).free (fun i hi s hs => ?_) (fun v hv => ?_) (by omega) ?_
  · by_cases h1 : i < R.length
    · refine Em.trans (Em.of (sm_congr fun r hr => ?_)) (ker_nought hm.pr hm.rowc h1 (by rw [← hl]; exact hs))
      show rowF R i r * rowF (kerL 2 c R) s r = _
      rw [kerL_rowF hm hs hr]
    · exact Em.sm0 fun r _ => by rw [mt_out (R := R) (by omega), Int.zero_mul]; exact Em.refl _
  · have h1 := ker_span (v := v) hm.pr hm.rowc fun i hi => hv i (by omega)
    refine h1.trans fun j hj => ?_
    have h2 : j < (kerL 2 c R).length := by rw [hl]; exact hj
    exact (InS.of (g := rowF (kerL 2 c R)) h2).cg fun r hr => Em.of (kerL_rowF hm h2 hr).symm
  · rw [cn_span (f := redF 2 c (R ++ kerL 2 c R).length (rowF (R ++ kerL 2 c R))) (k := redN 2 c (R ++ kerL 2 c R).length (rowF (R ++ kerL 2 c R))) (fun i hi => ?_) fun i hi => ?_]
    · have h3 := cn_free r1.free _ (Nat.le_refl _)
      have h6 : (2 : Int) ^ c = 2 ^ (c - redN 2 c (R ++ kerL 2 c R).length (rowF (R ++ kerL 2 c R))) * 2 ^ (redN 2 c (R ++ kerL 2 c R).length (rowF (R ++ kerL 2 c R))) := by rw [← Int.pow_add, Nat.sub_add_cancel hle]
      rw [h6] at h3
      exact Int.eq_of_mul_eq_mul_right (Int.ne_of_gt (Int.pow_pos (by decide))) h3
    · by_cases e : i < (kerL 2 c R).length
      · rw [both_lo e]
        refine (r3 (R.length + i) (by omega)).cg fun r _ => Em.of ?_
        rw [rowF_right (by omega), Nat.add_sub_cancel_left]
      · obtain ⟨j, rfl⟩ : ∃ j, i = (kerL 2 c R).length + j := ⟨i - (kerL 2 c R).length, by omega⟩
        rw [both_hi]
        by_cases h1 : j < R.length
        · refine (r3 j (by omega)).cg fun r _ => Em.of ?_
          rw [rowF_left h1]
          rfl
        · exact InS.zero.cg fun r _ => Em.of (mt_out (by omega))
    · refine (r2 i hi).trans fun j hj => ?_
      rw [hlen] at hj
      by_cases e : j < R.length
      · refine (InS.of (show (kerL 2 c R).length + j < (kerL 2 c R).length + 6 by omega)).cg fun r _ => Em.of ?_
        rw [both_hi, rowF_left e]
        rfl
      · refine (InS.of (show j - R.length < (kerL 2 c R).length + 6 by omega)).cg fun r _ => Em.of ?_
        rw [both_lo (by omega), rowF_right (by omega)]
theorem bic_neg {c d : Nat} (hd : d ≤ 8) (hc : c ≤ 8) : (if c % 2 = 1 then -((-2 : Int) ^ d) else (-2) ^ d) = (-1) ^ c * (-2) ^ d := by
  have key : ∀ c, c < 9 → ∀ d, d < 9 → (if c % 2 = 1 then -((-2 : Int) ^ d) else (-2) ^ d) = (-1) ^ c * (-2) ^ d := by decide +kernel
  exact key c (by omega) d (by omega)
theorem pow_small {d : Nat} (hd : d ≤ 8) : -512 ≤ (-2 : Int) ^ d ∧ (-2 : Int) ^ d ≤ 512 := by
  have key : ∀ d, d < 9 → -512 ≤ (-2 : Int) ^ d ∧ (-2 : Int) ^ d ≤ 512 := by decide +kernel
  exact key d (by omega)
end Go.Proofs.YtdabkgbbalooiaaDoor

namespace Go.Proofs.YtdabkgbbalooiaaDoor
open Go.RowKit

theorem wpList_appR {w0 w : World} {R R2 : List (List Int)} {ops : Array Oper} {rest : List Oper} {o : Oper} {a : Act} {Q : Exit → Act → World → Prop} (hgd : o.guard = none) (s x : Operand)
    (ho : o.op = .call { callee := .builtin .append, args := #[s, x], argTypes := #[22, 22] }) (hb : Below w0.heap.size w0 w) (hv : RowsO w0 w (a.eval s) R) (hu : RowsI w0 (a.eval x) R2) (hl : R.length ≤ 64) (hl2 : R2.length ≤ 64)
    (hK : ∀ v' w', RowsO w0 w' v' (R ++ R2) → Below w0.heap.size w0 w' → wpList Tryd.prog ops Q rest (a.put o.dst v') w') : wpList Tryd.prog ops Q (o :: rest) a w := by
  refine wpList_plain hgd fun K hk => ?_
  obtain ⟨v', w', hrun, r1, r2⟩ := run_appR (v := a.eval s) (u := a.eval x) o.type hb hv hu hl hl2
  unfold Oper.wp
  simp [execOp, ho, resolve, invoke, builtin, hrun, Result.andThen]
  exact hk _ _ (hK v' w' r1 r2)
set_option maxHeartbeats 1000000 in
theorem CloneRows_ok (R : List (List Int)) (v : Value) (w0 w : World) (hb0 : Below w0.heap.size w0 w) (h : RowsI w0 v R) (hR : R.length ≤ 64) :
    Calls Tryd.prog 9 #[v] w fun e w' => ∃ u, e = .returned u ∧ RowsO w0 w' u R ∧ Below w0.heap.size w0 w' := by
  have HI := hid h
  have HB0 := hid hb0
  have hs0 := hid hb0.size
  clear hb0
  obtain ⟨a, cap, rfl, hlen, hc⟩ := h
  rcases a with _ | x
  · obtain rfl : R = [] := by
      rcases R with _ | ⟨r, R⟩
      · rfl
      · obtain ⟨b, off, e, -⟩ := hc (by simp); cases e
    have hnil : ∀ W, (binOp .eql 22 (.slice none 0 cap) (.slice none 0 0)).run Tryd.prog W = .ok (.bool true) W := fun W => Lib.run_eql_slice_nil W _ _ _ _ _ _ _ Tryd.underlying22
    clear hc
    go_enter Tryd.func9, Tryd.ntmps9
    go_wp2_with fail
    go_ret
    exact ⟨_, rfl, RowsO.nil _ _, HB0.out⟩
  · have hnil : ∀ W, (binOp .eql 22 (.slice (some x) R.length cap) (.slice none 0 0)).run Tryd.prog W = .ok (.bool false) W := fun W => Lib.run_eql_slice_nil W _ _ _ _ _ _ _ Tryd.underlying22
    have OE : RowsO w0 (w.alloc (.cells #[] 28)) (.slice (some ⟨w.heap.size, 0, none⟩) 0 0) [] := ⟨[], rfl, ⟨rfl, .inr ⟨w.heap.size, 0, #[], rfl, hs0.out, World.alloc_heap_new w _, Nat.le_refl _, Nat.zero_le _, rfl, rfl⟩⟩, fun i hi => by simp at hi⟩
    have HOE := hid OE
    have HBE := hid (HB0.out.alloc hs0.out (.cells #[] 28))
    clear hc OE
    go_enter Tryd.func9, Tryd.ntmps9
    go_wp2_with (at_builtin; refine wpList_appR (w0 := w0) (R := []) (R2 := R) rfl _ _ rfl HBE.out HOE.out HI.out (by simp) hR ?_)
    intro v' w' ho hb
    have HO := hid ho
    have HB := hid hb
    clear ho hb
    go_wp2_with fail
    go_ret
    exact ⟨_, rfl, HO.out, HB.out⟩
end Go.Proofs.YtdabkgbbalooiaaDoor
