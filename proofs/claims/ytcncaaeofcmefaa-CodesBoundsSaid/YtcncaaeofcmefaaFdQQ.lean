/- rotaref.lead, rotaref.Hang. -/
import Derived.Test.YtcncaaeofcmefaaFdMQ
import Derived.Test.YtcncaaeofcmefaaFdNQ
import Derived.Test.YtcncaaeofcmefaaPlainAll2
namespace Go.Proofs.Ytcncaaeofcmefaa
open Go.RowKit

/-- Rows that are laid, each with room of its own. -/
def TotC (W : World) (B : Nat) (v : Value) (n k : Nat) (f : Nat → Nat → Int) : Prop := ∃ us : List Value, us.length = k ∧ W.ownsRow B 28 1 v k us ∧ ∀ i, i < k → ∃ b cp, us[i]? = some (.slice (some ⟨b, 0, none⟩) n cp) ∧ RowB W b n (f i)
theorem TotC.below {W W' : World} {B : Nat} {v : Value} {n k : Nat} {f : Nat → Nat → Int} (h : TotC W B v n k f) (hb : Below W.heap.size W W') : TotC W' B v n k f := by
  obtain ⟨us, h1, ⟨h2, h3⟩, h4⟩ := h
  refine ⟨us, h1, ⟨h2, h3.imp_right ?_⟩, fun i hi => ?_⟩
  · rintro ⟨g, cap, cur, hv, hg, hheap, hr⟩
    exact ⟨g, cap, cur, hv, hg, (hb.block g (Array.getElem?_eq_some_iff.1 hheap).1).trans hheap, hr⟩
  · obtain ⟨b, cp, h5, h6⟩ := h4 i hi
    exact ⟨b, cp, h5, h6.below hb⟩
theorem TotC.snoc {W W' : World} {B : Nat} {v v' : Value} {n k : Nat} {f : Nat → Nat → Int} {us : List Value} {o : Obj} (h1 : us.length = k) (h2 : W.ownsRow B 28 1 v k us) (h3 : ∀ i, i < k → ∃ b cp, us[i]? = some (.slice (some ⟨b, 0, none⟩) n cp) ∧ RowB W b n (f i)) {g cg : Nat} (hg : RowB W g n (f k)) (hown : W'.ownsRow B 28 1 v' (k + 1) (us ++ [.slice (some ⟨g, 0, none⟩) n cg])) (hgr : (W.alloc o).grownBy W' v.ownBlock) : TotC W' B v' n (k + 1) f := by
  have keep : ∀ b m ff, RowB W b m ff → RowB W' b m ff := fun b m ff hr => by
    have hs : W.heap.size ≤ W'.heap.size := Nat.le_trans (by simp) hgr.size
    refine hr.same ?_ hs
    have h5 : (W.alloc o).heap[b]? = W.heap[b]? := Below.heap_alloc _ _ _ hr.tbl.size
    rw [← h5]
    refine hgr.block b (by have := hr.tbl.size; simp; omega) fun e => ?_
    obtain ⟨c, hc⟩ := hr.ty
    obtain ⟨-, h7⟩ := h2
    rcases h7 with ⟨rfl, -⟩ | ⟨g', cap, cur, rfl, -, hh, -⟩
    · cases e
    · have : g' = b := by simpa [Value.ownBlock] using e.symm
      subst this
      rw [hc] at hh
      simp at hh
  refine ⟨us ++ [.slice (some ⟨g, 0, none⟩) n cg], by simp [h1], hown, fun i hi => ?_⟩
  by_cases e : i < k
  · obtain ⟨b, cp, h5, h6⟩ := h3 i e
    exact ⟨b, cp, by rw [List.getElem?_append_left (by omega)]; exact h5, keep _ _ _ h6⟩
  · obtain rfl : i = k := by omega
    exact ⟨g, cg, by rw [List.getElem?_append_right (by omega), h1]; simp, keep _ _ _ hg⟩
theorem TotC.nil (W : World) (B n : Nat) (f : Nat → Nat → Int) : TotC W B (.slice none 0 0) n 0 f := ⟨[], rfl, World.ownsRow_nil _ _ _ _, fun i hi => by omega⟩
theorem TotC.congr {W : World} {B : Nat} {v : Value} {n k : Nat} {f f' : Nat → Nat → Int} (h : TotC W B v n k f) (e : ∀ i, i < k → f' i = f i) : TotC W B v n k f' := by
  obtain ⟨us, h1, h2, h3⟩ := h
  exact ⟨us, h1, h2, fun i hi => by rw [e i hi]; exact h3 i hi⟩
theorem TotC.form {W : World} {B : Nat} {v : Value} {n k : Nat} {f : Nat → Nat → Int} (h : TotC W B v n k f) : ∃ a cap, v = .slice a k cap := by
  obtain ⟨us, h1, h2, h3⟩ := h
  rcases Go.Joins.ownsRow_forms h2 with ⟨rfl, h0⟩ | ⟨g, cap, rfl⟩
  · exact ⟨none, 0, by rw [h0]⟩
  · exact ⟨_, cap, rfl⟩
theorem TotC.at_ {W : World} {B : Nat} {a : Option Addr} {cap n k : Nat} {f : Nat → Nat → Int} (h : TotC W B (.slice a k cap) n k f) {i : Nat} (hi : i < k) : ∃ g b cp, a = some ⟨g, 0, none⟩ ∧ g < W.heap.size ∧ W.cell? ⟨g, i, none⟩ = some (.slice (some ⟨b, 0, none⟩) n cp) ∧ RowB W b n (f i) := by
  obtain ⟨us, h1, h2, h3⟩ := h
  obtain ⟨b, cp, h5, h6⟩ := h3 i hi
  rcases Go.Joins.ownsRow_forms h2 with ⟨e, h0⟩ | ⟨g, cap', e⟩
  · omega
  · cases e
    refine ⟨g, b, cp, rfl, (World.ownsRow.lt h2 g rfl).2, ?_, h6⟩
    have := World.ownsRow.cellAt h2 i (by omega)
    rw [this, h5]
theorem OwnZ.rowB {B : Nat} {w : World} {v : Value} {l : List Int} (h : OwnZ 3 B w v l) (hl : 0 < l.length) : ∃ g cap, v = .slice (some ⟨g, 0, none⟩) l.length cap ∧ B ≤ g ∧ RowB w g l.length (fun i => l.getD i 0) := by
  obtain ⟨g, cap, rfl, h1, h2⟩ := h.tblZ hl
  refine ⟨g, cap, rfl, h1, h2, ?_⟩
  obtain ⟨h0, h3⟩ := h
  rcases h3 with ⟨hv, h4⟩ | ⟨g', cap', cur, hv, hg, hheap, hr⟩
  · omega
  · obtain ⟨rfl, rfl⟩ : g = g' ∧ cap = cap' := by simpa using hv
    exact ⟨cur, hheap⟩
theorem RowB.drewN {W : World} {b n : Nat} {f : Nat → Int} (h : RowB W b n f) (k : Nat) : RowB (W.drewN k) b n f := ⟨h.tbl.drewN k, h.ty⟩
/-- append(nil, a list's all). -/
theorem run_copyZ (u : Value) (zs : List Int) (ty : TypeId) (w : World) (h : Ints w u zs) (hl : zs.length ≤ 256) : ∃ v' w', (Builtin.append_ #[28, 28] ty #[.slice none 0 0, u]).run Try.prog w = .ok v' w' ∧ OwnZ 3 w.heap.size w' v' zs ∧ Below w.heap.size w w' := by
  obtain ⟨i0, hi, hz0, hz1, hz2⟩ := info_parts Try.infoInt
  obtain ⟨a, cap, rfl, -, hc⟩ := h
  by_cases h0 : 0 < zs.length
  · obtain ⟨b, off, rfl, hb, hcell⟩ := hc h0
    obtain ⟨v', w', hrun, r1, r2, -⟩ := run_append_own (P := Try.prog) w w.heap.size 28 ty 3 i0 (.int .i64 0) 1 8 Try.underlying28 hi hz0 hz1 hz2 rfl (by decide) (.slice none 0 0) 0 [] (World.ownsRow_nil _ _ _ _) ⟨b, off, none⟩ zs.length cap (VZ zs)
      (by rw [VZ_len, Nat.mul_one]) (fun j u hu => by
        have hj : j < (VZ zs).length := (List.getElem?_eq_some_iff.1 hu).1
        rw [VZ_len] at hj
        rw [← hu]
        have e : (VZ zs)[j]? = some (.int .i64 (zs.getD j 0)) := by simp [VZ, List.getD, hj]
        rw [e, ← hcell j hj]
        simp only [Addr.add]
        split
        · rename_i e; simp_all
        · simp)
      (fun u hu => by obtain ⟨x, _, rfl⟩ := List.mem_map.1 hu; rfl) (by unfold maxLen; omega) (by omega) (Nat.le_refl _)
    refine ⟨v', w', hrun, ?_, (Below.refl _ w).grown r2 (Nat.le_refl _) (fun k e => by cases e)⟩
    rw [Nat.zero_add, List.nil_append] at r1
    exact r1
  · have hz : zs = [] := List.length_eq_zero_iff.1 (by omega)
    subst hz
    refine ⟨.slice none 0 0, w, ?_, OwnZ.nil _ _ _, Below.refl _ _⟩
    rcases a with _ | x
    · simp [Builtin.append_, run_underlying Try.underlying28, sizeOf, typeInfo, hi, Builtin.lenOf, run_firstCells_none]
    · have hf := run_firstCells_some (P := Try.prog) w 1 0 x 0 cap [] (by simp) (by simp)
      simp [Builtin.append_, run_underlying Try.underlying28, sizeOf, typeInfo, hi, hz1, Builtin.lenOf, hf]
theorem wpList_copyZ {w : World} {zs : List Int} {ops : Array Oper} {rest : List Oper} {o : Oper} {a : Act} {Q : Exit → Act → World → Prop} (hgd : o.guard = none) (x : Operand)
    (ho : o.op = .call { callee := .builtin .append, args := #[.const (.slice none 0 0), x], argTypes := #[28, 28] }) (h : Ints w (a.eval x) zs) (hl : zs.length ≤ 256)
    (hK : ∀ v' w', OwnZ 3 w.heap.size w' v' zs → Below w.heap.size w w' → wpList Try.prog ops Q rest (a.put o.dst v') w') : wpList Try.prog ops Q (o :: rest) a w := by
  refine wpList_plain hgd fun K hk => ?_
  obtain ⟨v', w', hrun, r1, r2⟩ := run_copyZ (a.eval x) zs o.type w h hl
  have hn : a.eval (.const (.slice none 0 0)) = .slice none 0 0 := rfl
  unfold Oper.wp
  simp [execOp, ho, resolve, invoke, builtin, hn, hrun, Result.andThen]
  exact hk _ _ (hK v' w' r1 r2)
/-- The first place that is not nought. -/
def LeadAt (zs : List Int) (r : Int) : Prop := (r = -1 ∧ ∀ j, j < zs.length → zs.getD j 0 = 0) ∨ ∃ i : Nat, r = i ∧ i < zs.length ∧ zs.getD i 0 ≠ 0 ∧ ∀ j, j < i → zs.getD j 0 = 0
theorem lead_of {c : Nat} {q : Nat → Int} {a : Nat} (ha : a < c) (h1 : q a ≠ 0) (h0 : ∀ r, r < a → q r = 0) {r : Int} (h : LeadAt ((List.range c).map q) r) : r = a := by
  have hl : ((List.range c).map q).length = c := by simp
  have hg : ∀ j, j < c → ((List.range c).map q).getD j 0 = q j := fun j hj => by simp [List.getD, hj]
  rcases h with ⟨-, h2⟩ | ⟨i, rfl, h2, h3, h4⟩
  · have := h2 a (by omega)
    rw [hg a ha] at this
    exact absurd this h1
  · rw [hl] at h2
    rw [hg i h2] at h3
    rcases Nat.lt_trichotomy i a with hl | hl | hl
    · exact absurd (h0 i hl) h3
    · omega
    · have := h4 a hl
      rw [hg a ha] at this
      exact absurd this h1
end Go.Proofs.Ytcncaaeofcmefaa
