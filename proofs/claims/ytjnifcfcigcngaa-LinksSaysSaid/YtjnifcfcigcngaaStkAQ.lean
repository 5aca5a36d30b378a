/- Copies of lists by append; worlds in which all but one block stay. -/
import Derived.Test.YtjnifcfcigcngaaEqQ
import Derived.Maps.AppendAt
import Derived.Maps.RangeWalk
import Derived.Laws.AppendOwnNone
import Derived.RangeFuncNested
namespace Go.Proofs.Ytjnifcfcigcngaa
open Go.RowKit

theorem Own.but {B gb : Nat} {w W : World} {v : Value} {l : List Nat} (h : Own B w v l) (hg : w.grownBy W (some gb)) (hB : gb < B) : Own B W v l := by
  obtain ⟨h0, h1⟩ := h
  rcases h1 with ⟨rfl, h2⟩ | ⟨g, cap, cur, rfl, h3, hheap, h4⟩
  · exact ⟨h0, .inl ⟨rfl, h2⟩⟩
  · exact ⟨h0, .inr ⟨g, cap, cur, rfl, h3, (hg.block g (Array.getElem?_eq_some_iff.1 hheap).1 (fun e => by cases e; omega)).trans hheap, h4⟩⟩
theorem Own.keep {B : Nat} {w W : World} {v : Value} {l : List Nat} (h : Own B w v l) (hg : w.grownBy W none) : Own B W v l :=
  h.below ((Below.refl _ w).grown hg (Nat.le_refl _) (fun _ e => by cases e))
theorem grown_below {w W : World} (hg : w.grownBy W none) : Below w.heap.size w W := (Below.refl _ w).grown hg (Nat.le_refl _) (fun _ e => by cases e)
theorem grown_drew (w : World) (row : Option Nat) : w.grownBy w.drew row := ⟨rfl, rfl, rfl, Nat.le_refl _, fun _ _ _ => rfl⟩
/-- append(nil, now...): a copy. -/
theorem run_copy {B : Nat} {w : World} {v : Value} {l : List Nat} (h : Own B w v l) (hl : l.length ≤ 8) (ty : TypeId) :
    ∃ v' w', (Builtin.append_ #[43, 43] ty #[.slice none 0 0, v]).run Try.prog w = .ok v' w' ∧ Own w.heap.size w' v' l ∧ w.grownBy w' none := by
  obtain ⟨i0, hi, hz0, hz1, hz2⟩ := info_parts Try.infoInt
  rcases Go.Joins.ownsRow_forms h with ⟨rfl, h0⟩ | ⟨g, cap, rfl⟩
  · obtain rfl : l = [] := List.eq_nil_of_length_eq_zero h0
    exact ⟨_, w, run_append_owned_none (P := Try.prog) (w := w) w.heap.size 43 ty 3 i0 1 Try.underlying43 hi _ 0 [] (World.ownsRow_nil _ _ _ _), Own.nil _ _, ⟨rfl, rfl, rfl, Nat.le_refl _, fun _ _ _ => rfl⟩⟩
  · obtain ⟨v', w', hrun, r1, r2, r3⟩ := run_append_own (P := Try.prog) w w.heap.size 43 ty 3 i0 (.int .i64 0) 1 8 Try.underlying43 hi hz0 hz1 hz2 rfl (by decide) (.slice none 0 0) 0 [] (World.ownsRow_nil _ _ _ _) ⟨g, 0, none⟩ l.length cap (V l)
      (by rw [V_len, Nat.mul_one]) (fun j u hu => by
        have hj : j < (V l).length := (List.getElem?_eq_some_iff.1 hu).1
        rw [V_len] at hj
        rw [← hu]
        have := World.ownsRow.cellAt h j (by rw [Nat.mul_one]; exact hj)
        rw [← this]
        simp only [Addr.add]
        split
        · rename_i e; simp_all
        · simp)
      (fun u hu => by obtain ⟨x, _, rfl⟩ := List.mem_map.1 hu; rfl) (by unfold maxLen; omega) (by omega) (Nat.le_refl _)
    refine ⟨v', w', hrun, ?_, r2⟩
    simpa [Own] using r1
theorem wpList_copy {B : Nat} {w : World} {l : List Nat} {v : Value} {ops : Array Oper} {rest : List Oper} {o : Oper} {a : Act} {Q : Exit → Act → World → Prop} (hgd : o.guard = none) (x : Operand)
    (ho : o.op = .call { callee := .builtin .append, args := #[.const (.slice none 0 0), x], argTypes := #[43, 43] }) (hx : a.eval x = v) (h : Own B w v l) (hl : l.length ≤ 8)
    (hK : ∀ v' w', Own w.heap.size w' v' l → w.grownBy w' none → wpList Try.prog ops Q rest (a.put o.dst v') w') : wpList Try.prog ops Q (o :: rest) a w := by
  refine wpList_plain hgd fun K hk => ?_
  obtain ⟨v', w', hrun, h1, h2⟩ := run_copy h hl o.type
  have hn : a.eval (.const (.slice none 0 0)) = .slice none 0 0 := rfl
  unfold Oper.wp
  simp [execOp, ho, resolve, invoke, builtin, hn, hx, hrun, Result.andThen]
  exact hk _ _ (hK v' w' h1 h2)
theorem step_copy {B : Nat} {w : World} {l : List Nat} {v : Value} {ops : Array Oper} {o : Oper} {a : Act} {K : Act → World → Prop} {Q : Exit → Act → World → Prop} {E : Prop} (hg : o.guard = none) (x : Operand)
    (ho : o.op = .call { callee := .builtin .append, args := #[.const (.slice none 0 0), x], argTypes := #[43, 43] }) (hx : a.eval x = v) (h : Own B w v l) (hl : l.length ≤ 8)
    (hK : ∀ v' w', Own w.heap.size w' v' l → w.grownBy w' none → K (a.put o.dst v') w') :
    if Region.wanted o (yielded ops a.tmps) = true then Oper.wp Try.prog o a w K Q else E := by
  have hw : Region.wanted o (yielded ops a.tmps) = true := by simp [Region.wanted, hg]
  rw [if_pos hw]
  obtain ⟨v', w', hrun, h1, h2⟩ := run_copy h hl o.type
  have hn : a.eval (.const (.slice none 0 0)) = .slice none 0 0 := rfl
  unfold Oper.wp
  simp [execOp, ho, resolve, invoke, builtin, hn, hx, hrun, Result.andThen]
  exact hK v' w' h1 h2
/-- append of one number, as one step of a region that draws. -/
theorem step_snoc {B : Nat} {w : World} {l : List Nat} {v : Value} {b : Nat} {ad : Addr} {ops : Array Oper} {o : Oper} {a : Act} {K : Act → World → Prop} {Q : Exit → Act → World → Prop} {E : Prop} (hg : o.guard = none) (s x : Operand)
    (ho : o.op = .call { callee := .builtin .append, args := #[s, x], argTypes := #[43, 43] }) (hs : a.eval s = v) (hx : a.eval x = .slice (some ad) 1 1) (h : Own B w v l) (hc : w.cell? ad = some (.int .i64 b)) (hl : l.length ≤ 8) (hB : B ≤ w.heap.size)
    (hK : ∀ v' w', Own B w' v' (l ++ [b]) → w.grownBy w' v.ownBlock → K (a.put o.dst v') w') :
    if Region.wanted o (yielded ops a.tmps) = true then Oper.wp Try.prog o a w K Q else E := by
  obtain ⟨i0, hi, hz0, hz1, hz2⟩ := info_parts Try.infoInt
  have hw : Region.wanted o (yielded ops a.tmps) = true := by simp [Region.wanted, hg]
  rw [if_pos hw]
  obtain ⟨v', w', hrun, r1, r2, r3⟩ := run_append_own (P := Try.prog) w B 43 o.type 3 i0 (.int .i64 0) 1 8 Try.underlying43 hi hz0 hz1 hz2 rfl (by decide) v l.length (V l) h ad 1 1 [.int .i64 b] rfl
      (fun j u hu => by
        have hj : j < 1 := (List.getElem?_eq_some_iff.1 hu).1
        obtain rfl : j = 0 := by omega
        simp only [List.getElem?_cons_zero] at hu
        rw [← hu, ← hc]
        simp [Addr.add])
      (by intro u hu; simp at hu; subst hu; rfl) (by unfold maxLen; omega) (by omega) hB
  unfold Oper.wp
  simp [execOp, ho, resolve, invoke, builtin, hs, hx, hrun, Result.andThen]
  exact hK v' w' (Own.snoc r1) r2
end Go.Proofs.Ytjnifcfcigcngaa
