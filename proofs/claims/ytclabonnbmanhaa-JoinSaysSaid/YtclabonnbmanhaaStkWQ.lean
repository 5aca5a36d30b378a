/- Copies of lists by append; worlds in which all but one block stay. -/
import Derived.Test.YtclabonnbmanhaaEqQ
import Derived.Maps.AppendAt
import Derived.Maps.RangeWalk
import Derived.Laws.AppendOwnNone
import Derived.RangeFuncNested
import Derived.Test.YtclabonnbmanhaaCmpWQ
import Derived.Test.YtclabonnbmanhaaPlainAll
import Derived.Deep.CutRange
import Derived.Deep.RegionHeld3
namespace Go.Proofs.Ytclabonnbmanhaa
open Go.RowKit

theorem Own.but {B gb : Nat} {w W : World} {v : Value} {l : List Nat} (h : Own B w v l) (hg : w.grownBy W (some gb)) (hB : gb < B) : Own B W v l := by
  obtain ⟨h0, h1⟩ := h
  rcases h1 with ⟨rfl, h2⟩ | ⟨g, cap, cur, rfl, h3, hheap, h4⟩
  · exact ⟨h0, .inl ⟨rfl, h2⟩⟩
  · exact ⟨h0, .inr ⟨g, cap, cur, rfl, h3, (hg.block g (Array.getElem?_eq_some_iff.1 hheap).1 (fun e => by cases e; omega)).trans hheap, h4⟩⟩
theorem Own.keep {B : Nat} {w W : World} {v : Value} {l : List Nat} (h : Own B w v l) (hg : w.grownBy W none) : Own B W v l :=
  h.below ((Below.refl _ w).grown hg (Nat.le_refl _) (fun _ e => by cases e))
theorem grown_below {w W : World} (hg : w.grownBy W none) : Below w.heap.size w W := (Below.refl _ w).grown hg (Nat.le_refl _) (fun _ e => by cases e)
theorem grown_drew (w : World) (row : Option Nat) : w.grownBy w.drew row := ⟨rfl, rfl, rfl, Nat.le_refl _, fun _ _ _ => rfl⟩
/-- append(nil, now...): a copy. -/
theorem run_copy {B : Nat} {w : World} {v : Value} {l : List Nat} (h : Own B w v l) (hl : l.length ≤ 8) (ty : TypeId) :
    ∃ v' w', (Builtin.append_ #[22, 22] ty #[.slice none 0 0, v]).run Try.prog w = .ok v' w' ∧ Own w.heap.size w' v' l ∧ w.grownBy w' none := by
  obtain ⟨i0, hi, hz0, hz1, hz2⟩ := info_parts Try.infoInt
  rcases Go.Joins.ownsRow_forms h with ⟨rfl, h0⟩ | ⟨g, cap, rfl⟩
  · obtain rfl : l = [] := List.eq_nil_of_length_eq_zero h0
    exact ⟨_, w, run_append_owned_none (P := Try.prog) (w := w) w.heap.size 22 ty 3 i0 1 Try.underlying22 hi _ 0 [] (World.ownsRow_nil _ _ _ _), Own.nil _ _, ⟨rfl, rfl, rfl, Nat.le_refl _, fun _ _ _ => rfl⟩⟩
  · obtain ⟨v', w', hrun, r1, r2, r3⟩ := run_append_own (P := Try.prog) w w.heap.size 22 ty 3 i0 (.int .i64 0) 1 8 Try.underlying22 hi hz0 hz1 hz2 rfl (by decide) (.slice none 0 0) 0 [] (World.ownsRow_nil _ _ _ _) ⟨g, 0, none⟩ l.length cap (V l)
      (by rw [V_len, Nat.mul_one]) (fun j u hu => by
        have hj : j < (V l).length := (List.getElem?_eq_some_iff.1 hu).1
        rw [V_len] at hj
        rw [← hu]
        have := World.ownsRow.cellAt h j (by rw [Nat.mul_one]; exact hj)
        rw [← this]
        simp only [Addr.add]
        split
        · rename_i e; simp_all
        · simp)
      (fun u hu => by obtain ⟨x, _, rfl⟩ := List.mem_map.1 hu; rfl) (by unfold maxLen; omega) (by omega) (Nat.le_refl _)
    refine ⟨v', w', hrun, ?_, r2⟩
    simpa [Own] using r1
theorem wpList_copy {B : Nat} {w : World} {l : List Nat} {v : Value} {ops : Array Oper} {rest : List Oper} {o : Oper} {a : Act} {Q : Exit → Act → World → Prop} (hgd : o.guard = none) (x : Operand)
    (ho : o.op = .call { callee := .builtin .append, args := #[.const (.slice none 0 0), x], argTypes := #[22, 22] }) (hx : a.eval x = v) (h : Own B w v l) (hl : l.length ≤ 8)
    (hK : ∀ v' w', Own w.heap.size w' v' l → w.grownBy w' none → wpList Try.prog ops Q rest (a.put o.dst v') w') : wpList Try.prog ops Q (o :: rest) a w := by
  refine wpList_plain hgd fun K hk => ?_
  obtain ⟨v', w', hrun, h1, h2⟩ := run_copy h hl o.type
  have hn : a.eval (.const (.slice none 0 0)) = .slice none 0 0 := rfl
  unfold Oper.wp
  simp [execOp, ho, resolve, invoke, builtin, hn, hx, hrun, Result.andThen]
  exact hk _ _ (hK v' w' h1 h2)
theorem step_copy {B : Nat} {w : World} {l : List Nat} {v : Value} {ops : Array Oper} {o : Oper} {a : Act} {K : Act → World → Prop} {Q : Exit → Act → World → Prop} {E : Prop} (hg : o.guard = none) (x : Operand)
    (ho : o.op = .call { callee := .builtin .append, args := #[.const (.slice none 0 0), x], argTypes := #[22, 22] }) (hx : a.eval x = v) (h : Own B w v l) (hl : l.length ≤ 8)
    (hK : ∀ v' w', Own w.heap.size w' v' l → w.grownBy w' none → K (a.put o.dst v') w') :
    if Region.wanted o (yielded ops a.tmps) = true then Oper.wp Try.prog o a w K Q else E := by
  have hw : Region.wanted o (yielded ops a.tmps) = true := by simp [Region.wanted, hg]
  rw [if_pos hw]
  obtain ⟨v', w', hrun, h1, h2⟩ := run_copy h hl o.type
  have hn : a.eval (.const (.slice none 0 0)) = .slice none 0 0 := rfl
  unfold Oper.wp
  simp [execOp, ho, resolve, invoke, builtin, hn, hx, hrun, Result.andThen]
  exact hK v' w' h1 h2
/-- append of one number, as one step of a region that draws. -/
theorem step_snoc {B : Nat} {w : World} {l : List Nat} {v : Value} {b : Nat} {ad : Addr} {ops : Array Oper} {o : Oper} {a : Act} {K : Act → World → Prop} {Q : Exit → Act → World → Prop} {E : Prop} (hg : o.guard = none) (s x : Operand)
    (ho : o.op = .call { callee := .builtin .append, args := #[s, x], argTypes := #[22, 22] }) (hs : a.eval s = v) (hx : a.eval x = .slice (some ad) 1 1) (h : Own B w v l) (hc : w.cell? ad = some (.int .i64 b)) (hl : l.length ≤ 8) (hB : B ≤ w.heap.size)
    (hK : ∀ v' w', Own B w' v' (l ++ [b]) → w.grownBy w' v.ownBlock → K (a.put o.dst v') w') :
    if Region.wanted o (yielded ops a.tmps) = true then Oper.wp Try.prog o a w K Q else E := by
  obtain ⟨i0, hi, hz0, hz1, hz2⟩ := info_parts Try.infoInt
  have hw : Region.wanted o (yielded ops a.tmps) = true := by simp [Region.wanted, hg]
  rw [if_pos hw]
  obtain ⟨v', w', hrun, r1, r2, r3⟩ := run_append_own (P := Try.prog) w B 22 o.type 3 i0 (.int .i64 0) 1 8 Try.underlying22 hi hz0 hz1 hz2 rfl (by decide) v l.length (V l) h ad 1 1 [.int .i64 b] rfl
      (fun j u hu => by
        have hj : j < 1 := (List.getElem?_eq_some_iff.1 hu).1
        obtain rfl : j = 0 := by omega
        simp only [List.getElem?_cons_zero] at hu
        rw [← hu, ← hc]
        simp [Addr.add])
      (by intro u hu; simp at hu; subst hu; rfl) (by unfold maxLen; omega) (by omega) hB
  unfold Oper.wp
  simp [execOp, ho, resolve, invoke, builtin, hs, hx, hrun, Result.andThen]
  exact hK v' w' (Own.snoc r1) r2
end Go.Proofs.Ytclabonnbmanhaa

namespace Go.Proofs.Ytclabonnbmanhaa
open Go.RowKit

/-- The function value that searches. -/
def fromV (gb gm gf : Nat) : Value := .func (.func 40) #[] #[.pointer (some ⟨gb, 0, none⟩), .pointer (some ⟨gm, 0, none⟩), .pointer (some ⟨gf, 0, none⟩)]
/-- One base more is looked at. -/
def stkF (l : List Nat) (f : Nat) (now : List Nat) (used : Nat) (bst : List Nat) (b : Nat) : List Nat := if nextB now used b = true then stk l f (now ++ [b]) (used ||| b) bst else bst
theorem stk_fold (l : List Nat) (f : Nat) (now : List Nat) (used : Nat) (best : List Nat) : stk l (f + 1) now used best = (l.take l.length).reverse.foldl (stkF l f now used) (if btB now best = true then now else best) := by
  rw [List.take_length]; rfl
theorem take_rev {l : List Nat} {t : Nat} (ht : t < l.length) : (l.take (t + 1)).reverse = l.getD t 0 :: (l.take t).reverse := by
  rw [List.take_add_one, List.getElem?_eq_getElem ht]
  simp [List.getD, ht]
theorem last_next {now : List Nat} {cur used b : Nat} : nextB (now ++ [cur]) used b = (b &&& used == 0 && decide (cur < b)) := by
  unfold nextB; simp
theorem nil_next {used b : Nat} : nextB [] used b = (b &&& used == 0) := by
  unfold nextB; simp
set_option maxRecDepth 20000 in
set_option maxHeartbeats 16000000 in
theorem from_ok (l : List Nat) (w0 : World) (mv : Value) (gb gm gf B : Nat) (hl8 : ∀ b ∈ l, 0 < b ∧ b < 256) (hlen : l.length ≤ 256) (hmv : Ints w0 mv (N l)) (hb0 : w0.heap.size ≤ gb) (hgm : gm ≠ gb) (hgf : gf ≠ gb) (hgB : gb < B) :
    ∀ (f : Nat) (now : List Nat) (used : Nat) (best : List Nat) (w : World) (v ub : Value), now.length + f = 9 → now.length ≤ pop used → used < 256 → best.length ≤ 8 →
      Own B w v now → Boxed w gb 22 ub → Own B w ub best → w.cell? ⟨gm, 1, none⟩ = some mv → w.cell? ⟨gf, 0, none⟩ = some (fromV gb gm gf) → Below w0.heap.size w0 w → B ≤ w.heap.size →
      Calls Try.prog 40 #[v, .int .i64 used, .pointer (some ⟨gb, 0, none⟩), .pointer (some ⟨gm, 0, none⟩), .pointer (some ⟨gf, 0, none⟩)] w fun e w' =>
        e = .returned (.tuple #[]) ∧ ∃ ub', Boxed w' gb 22 ub' ∧ Own B w' ub' (stk l f now used best) ∧ (stk l f now used best).length ≤ 8 ∧ w.grownBy w' (some gb) := by
  intro f
  induction f with
  | zero =>
    intro now used best w v ub hnf hnu hu8
    have := pop_le used hu8
    omega
  | succ f ih =>
    intro now used best w v ub hnf hnu hu8 hbl hv hbx hbo hcm hcf hbel hBw
    have hp8 := pop_le used hu8
    have hn8 : now.length ≤ 8 := by omega
    rw [stk_fold]
    obtain ⟨B0, HB0⟩ : ∃ B0, Hid ((if btB now best = true then now else best) = B0) := ⟨_, Eq.refl (if btB now best = true then now else best)⟩
    rw [HB0.out]
    obtain ⟨R, HR⟩ : ∃ R, Hid ((l.take l.length).reverse.foldl (stkF l f now used) B0 = R) := ⟨_, Eq.refl _⟩
    rw [HR.out]
    have HV := hid hv
    have HBX := hid hbx
    have HBO := hid hbo
    have IH := hid ih
    have HBEL := hid hbel
    have HMV := hid hmv
    have CM := hid (fun w' h1 h2 => Compare_any v ub now best w' h1 h2)
    obtain ⟨an, cn, rfl⟩ := ownsRow_form' hv
    obtain ⟨ab, cb, rfl⟩ := ownsRow_form' hbo
    obtain ⟨al, cl, rfl, -, hmc⟩ := hmv.nats
    have hcb := hbx.cell
    clear ih hv hbx hbo hbel hmv hmc
    go_enter Try.func40, Try.ntmps40
    go_step
    go_step
    go_cut [] from 9 to 28 (fun W => ∃ ub1, Hid (Boxed W gb 22 ub1) ∧ Hid (Own B W ub1 B0) ∧ B0.length ≤ 8 ∧ Hid (w.grownBy W (some gb)))
    case first =>
      have fit : ∀ W (x : Bool), btB now best = x → ∀ ub1, Boxed W gb 22 ub1 → Own B W ub1 (if x = true then now else best) → w.grownBy W (some gb) → ∃ ub1, Hid (Boxed W gb 22 ub1) ∧ Hid (Own B W ub1 B0) ∧ B0.length ≤ 8 ∧ Hid (w.grownBy W (some gb)) := by
        intro W x hx ub1 h1 h2 h3
        rw [← HB0.out, hx]
        refine ⟨ub1, h1, h2, ?_, h3⟩
        cases x
        · simpa using hbl
        · simpa using hn8
      have FIT := hid fit
      clear fit
      have hst : ∀ v1 w1, Own w.heap.size w1 v1 now → w.grownBy w1 none → w1.cell? ⟨gb, 0, none⟩ = some (.slice ab best.length cb) ∧ w1.frozen? ⟨gb, 0, none⟩ = false ∧ (btB now best = true → ∃ ub1, Hid (Boxed (w1.setCell ⟨gb, 0, none⟩ v1) gb 22 ub1) ∧ Hid (Own B (w1.setCell ⟨gb, 0, none⟩ v1) ub1 B0) ∧ B0.length ≤ 8 ∧ Hid (w.grownBy (w1.setCell ⟨gb, 0, none⟩ v1) (some gb))) := by
        intro v1 w1 h1 h2
        have hb := HBX.out.kept h2 (by simp)
        refine ⟨hb.cell, hb.frozen, fun hx => FIT.out _ true hx v1 (hb.set v1) ?_ ?_⟩
        · rw [if_pos rfl]
          exact (h1.mono hBw).but (Go.grownBy_setCell' w1 gb v1) hgB
        · exact (h2.but _).trans (Go.grownBy_setCell' w1 gb v1)
      have HST := hid hst
      clear hst
      have hgr : Hid (w.grownBy w (some gb)) := World.grownBy.refl w _
      rcases Nat.lt_trichotomy now.length best.length with c1 | c1 | c1
      · have hx : btB now best = false := by unfold btB; simp; omega
        have e1 : ¬ (best.length : Int) < (now.length : Int) := by omega
        have e2 : ¬ (now.length : Int) = (best.length : Int) := by omega
        have E := hid (FIT.out w false hx _ HBX.out HBO.out hgr.out)
        clear FIT HST hgr HB0 HR IH CM HMV HBEL
        go_wp2_with fail
        go_meet
        exact E.out
      · have e1 : ¬ (best.length : Int) < (now.length : Int) := by omega
        have e2 : ((now.length : Int) == (best.length : Int)) = true := by rw [beq_iff_eq]; omega
        have C := hid (CM.out w (HV.out.ints (by omega)) (HBO.out.ints (by omega)))
        by_cases c2 : cmpL now best < 0
        · have hx : btB now best = true := by unfold btB; simp [c1, c2]
          clear FIT hgr HB0 HR IH CM HMV HBEL c1
          generalize cmpL now best = q at *
          go_wp2_with fail
          refine C.out.mono ?_
          rintro e w' ⟨rfl, h1⟩
          obtain rfl := h1.symm
          go_wp2_with (at_builtin; refine wpList_copy rfl (.tmp 27) rfl rfl HV.out hn8 ?_)
          intro v1 w1 hv1 hg1
          obtain ⟨q1, q2, q3⟩ := HST.out v1 w1 hv1 hg1
          have E := hid (q3 hx)
          obtain ⟨a1, k1, rfl⟩ := ownsRow_form' hv1
          clear q3 hv1 hg1 HST
          go_wp2_with fail
          go_meet
          exact E.out
        · have hx : btB now best = false := by unfold btB; simp [c1, c2]
          have E := hid (FIT.out w false hx _ HBX.out HBO.out hgr.out)
          clear FIT HST hgr HB0 HR IH CM HMV HBEL c1
          generalize cmpL now best = q at *
          go_wp2_with fail
          refine C.out.mono ?_
          rintro e w' ⟨rfl, h1⟩
          obtain rfl := h1.symm
          go_wp2_with fail
          go_meet
          exact E.out
      · have hx : btB now best = true := by unfold btB; simp; omega
        have e1 : (best.length : Int) < (now.length : Int) := by omega
        clear FIT hgr HB0 HR IH CM HMV HBEL
        go_wp2_with (at_builtin; refine wpList_copy rfl (.tmp 27) rfl rfl HV.out hn8 ?_)
        intro v1 w1 hv1 hg1
        obtain ⟨q1, q2, q3⟩ := HST.out v1 w1 hv1 hg1
        have E := hid (q3 hx)
        obtain ⟨a1, k1, rfl⟩ := ownsRow_form' hv1
        clear q3 hv1 hg1 HST
        go_wp2_with fail
        go_meet
        exact E.out
    case rest =>
      obtain ⟨ub1, HB1, HO1, hl1, HG1⟩ := hcut
      clear HBX HBO hcb HB0 CM hbl
      have kcm : ∀ W, w.grownBy W (some gb) → W.cell? ⟨gm, 1, none⟩ = some (.slice al l.length cl) := fun W h => h.cell hcm (fun e => hgm (by cases e; rfl))
      have kcf : ∀ W, w.grownBy W (some gb) → W.cell? ⟨gf, 0, none⟩ = some (fromV gb gm gf) := fun W h => h.cell hcf (fun e => hgf (by cases e; rfl))
      have KCM := hid kcm
      have KCF := hid kcf
      have hc1 := kcm wc HG1.out
      clear kcm kcf hcm hcf
      go_wp2_with fail
      go_loopw [7, 8] (fun i _ wr => ∃ (t : Nat) (z : Int) (ub2 : Value) (bst : List Nat), t ≤ l.length ∧ z + 1 = t ∧ i = .int .i64 z ∧ bst.length ≤ 8 ∧ Hid (Boxed wr gb 22 ub2) ∧ Hid (Own B wr ub2 bst) ∧ Hid (w.grownBy wr (some gb)) ∧ Hid ((l.take t).reverse.foldl (stkF l f now used) bst = R)) (fun i _ _ => (intOf i + 1).toNat)
      case atStart => exact ⟨l.length, (l.length : Int) - 1, ub1, B0, Nat.le_refl _, by omega, rfl, hl1, HB1, HO1, HG1, HR⟩
      case round =>
        obtain ⟨t, z, ub2, bst, ht, hz, rfl, hl2, HB2, HO2, HG2, HF2⟩ := hrel
        by_cases ht0 : t = 0
        · subst ht0
          obtain rfl : z = -1 := by omega
          have HE : Hid (bst = R) := HF2.out
          clear HF2 IH KCM KCF HMV HBEL HV
          go_wp2_with fail
          go_end0
          exact ⟨rfl, ub2, HB2.out, by rw [← HE.out]; exact HO2.out, by rw [← HE.out]; exact hl2, HG2.out⟩
        · obtain ⟨t, rfl⟩ := Nat.exists_eq_succ_of_ne_zero ht0
          obtain rfl : z = (t : Int) := by omega
          have htl : t < l.length := by omega
          have htl2 : (t : Int) < (l.length : Int) := by omega
          rw [show t.succ = t + 1 from rfl, take_rev htl, List.foldl_cons] at HF2
          obtain ⟨hb1, hb2⟩ : 0 < l.getD t 0 ∧ l.getD t 0 < 256 := hl8 _ (by simp [List.getD, htl])
          have cM := KCM.out wr HG2.out
          have HBE2 := hid (HBEL.out.grown HG2.out HBEL.out.size (fun k e => by cases e; exact hb0))
          obtain ⟨a', cap', e', -, hc'⟩ := (HMV.out.below HBE2.out).nats
          obtain ⟨rfl, rfl⟩ : al = a' ∧ cl = cap' := by simpa using e'
          obtain ⟨mb, mo, rfl, -, hmc⟩ := hc' (by omega)
          have cB := hmc t htl
          clear hmc hc' e'
          generalize l.getD t 0 = b at *
          have hand : bits .and .i64 (b : Int) (used : Int) = ((b &&& used : Nat) : Int) := i64_and_nat _ _ (by omega) (by omega)
          have hsz : B ≤ wr.heap.size := Nat.le_trans hBw HG2.out.size
          have HVr : Hid (Own B wr.drew (.slice an now.length cn) now) := (HV.out.but HG2.out hgB).keep (grown_drew wr none)
          have hmeas : ((t : Int) - 1 + 1).toNat < ((t : Int) + 1).toNat := by omega
          clear HV HMV HBEL HR ht0
          go_upto_region 6 with fail
          go_cut [60] from 42 to 59 (fun x W => x = .bool (nextB now used b) ∧ W = wr)
          case first =>
            clear HF2 IH KCM KCF HBE2 HB2 HO2 HG2
            by_cases a1 : b &&& used = 0
            · have a1' : (((b &&& used : Nat) : Int) == 0) = true := by rw [a1]; rfl
              rcases List.eq_nil_or_concat now with hn0 | ⟨acc, cur, hn0⟩
              · have hl0 : ((now.length : Int) == 0) = true := by rw [hn0]; rfl
                have hnx : Hid (nextB now used b = true) := by show _ = _; rw [hn0, nil_next, a1]; rfl
                clear hn0 a1 HVr
                go_wp2_with fail
                go_meet
                exact ⟨by rw [hnx.out], rfl⟩
              · rw [List.concat_eq_append] at hn0
                have hl0 : ((now.length : Int) == 0) = false := by rw [hn0, beq_eq_false_iff_ne]; simp; omega
                have hp : now.length = acc.length + 1 := by rw [hn0]; simp
                obtain ⟨g, gc, hv'⟩ := Go.Joins.ownsRow_form HVr.out (by omega)
                obtain ⟨rfl, rfl⟩ : an = some ⟨g, 0, none⟩ ∧ cn = gc := by simpa using hv'
                have cL : wr.cell? ⟨g, acc.length, none⟩ = some (.int .i64 (cur : Nat)) := by
                  have h1 := World.ownsRow.cellAt HVr.out acc.length (by omega)
                  rw [show wr.cell? ⟨g, acc.length, none⟩ = wr.drew.cell? ⟨g, acc.length, none⟩ from rfl, h1, hn0]
                  simp [V]
                have hw1 : wrap64 ((now.length : Int) - 1) = (acc.length : Int) := by rw [hp, show ((acc.length + 1 : Nat) : Int) - 1 = (acc.length : Int) by omega, ← IntWalk.i64_left]; exact wrap_i64_nat _ (by omega)
                have hw2 : (now.length : Int) - 1 = (acc.length : Int) := by omega
                have hlt2 : (acc.length : Int) < (now.length : Int) := by omega
                have hnx : Hid (nextB now used b = decide (cur < b)) := by show _ = _; rw [hn0, last_next, a1]; simp
                clear hv' hp hn0 a1 HVr
                generalize acc.length = p at *
                by_cases a3 : cur < b
                · have a3' : (cur : Int) < (b : Int) := by omega
                  have hnx2 : Hid (nextB now used b = true) := by show _ = _; rw [hnx.out]; exact decide_eq_true a3
                  clear hnx
                  go_wp2_with fail
                  go_meet
                  exact ⟨by rw [hnx2.out], rfl⟩
                · have a3' : ¬ (cur : Int) < (b : Int) := by omega
                  have hnx2 : Hid (nextB now used b = false) := by show _ = _; rw [hnx.out]; exact decide_eq_false a3
                  clear hnx
                  go_wp2_with fail
                  go_meet
                  exact ⟨by rw [hnx2.out], rfl⟩
            · have a1' : (((b &&& used : Nat) : Int) == 0) = false := by rw [beq_eq_false_iff_ne]; omega
              have hnx : Hid (nextB now used b = false) := by show _ = _; unfold nextB; rw [show (b &&& used == 0) = false by rw [beq_eq_false_iff_ne]; exact a1, Bool.false_and]
              clear a1 HVr
              go_wp2_with fail
              go_meet
              exact ⟨by rw [hnx.out], rfl⟩
          case rest =>
            obtain ⟨rfl, hw⟩ := hcut
            obtain rfl := hw.symm
            by_cases hnx : nextB now used b = true
            · rw [hnx]
              have HF3 : Hid ((l.take t).reverse.foldl (stkF l f now used) (stk l f (now ++ [b]) (used ||| b) bst) = R) := by show _ = _; rw [← HF2.out, show stkF l f now used bst b = stk l f (now ++ [b]) (used ||| b) bst from if_pos hnx]
              have hnx2 := (next_iff.1 hnx).1
              clear hnx HF2
              have hpp := pop_disj (a := used) (b := b) (by rw [Nat.and_comm]; exact hnx2)
              have hp1 : 1 ≤ pop b := by have := pop_pos b hb2; omega
              have hub : used ||| b < 256 := or_lt hu8 hb2
              have hnu2 : (now ++ [b]).length ≤ pop (used ||| b) := by rw [List.length_append]; simp only [List.length_cons, List.length_nil]; omega
              have hnf2 : (now ++ [b]).length + f = 9 := by rw [List.length_append]; simp only [List.length_cons, List.length_nil]; omega
              have hor : bits .or .i64 (used : Int) (b : Int) = ((used ||| b : Nat) : Int) := i64_or_nat _ _ (by omega) (by omega)
              have cF : wr.drew.cell? ⟨gf, 0, none⟩ = some (.func (.func 40) #[] #[.pointer (some ⟨gb, 0, none⟩), .pointer (some ⟨gm, 0, none⟩), .pointer (some ⟨gf, 0, none⟩)]) := KCF.out wr HG2.out
              go_wp2_with fail
              refine wp_region_noPanic ?_
              refine wp_region_held_drew (S := fun w' => w'.cell? ⟨gf, 0, none⟩ = some (.func (.func 40) #[] #[.pointer (some ⟨gb, 0, none⟩), .pointer (some ⟨gm, 0, none⟩), .pointer (some ⟨gf, 0, none⟩)])) (by kernel_rfl) cF (fun _ => ?_)
              refine wpAnyH_take (i := 0) (v := .func (.func 40) #[] #[.pointer (some ⟨gb, 0, none⟩), .pointer (some ⟨gm, 0, none⟩), .pointer (some ⟨gf, 0, none⟩)]) rfl (by kernel_rfl) (by kernel_rfl) (by kernel_rfl) (fun _ _ _ h => h) (Or.inl ⟨by rfl, fun w hw => by go_simp⟩) cF ?_
              refine wpAnyH_take (i := 1) (v := .slice an now.length cn) rfl (by kernel_rfl) (by kernel_rfl) (by kernel_rfl) (fun _ _ _ h => h) (Or.inl ⟨by rfl, fun w hw => by go_simp⟩) cF ?_
              refine wpAnyH_take (i := 3) (v := .int .i64 b) rfl (by kernel_rfl) (by kernel_rfl) (by kernel_rfl) (fun _ _ _ h => h) (Or.inl ⟨by rfl, fun w hw => by go_simp⟩) cF ?_
              refine wpAnyH_take (i := 6) (v := .int .i64 used) rfl (by kernel_rfl) (by kernel_rfl) (by kernel_rfl) (fun _ _ _ h => h) (Or.inl ⟨by rfl, fun w hw => by go_simp⟩) cF ?_
              refine wpAnyH_take (i := 7) (v := .int .i64 b) rfl (by kernel_rfl) (by kernel_rfl) (by kernel_rfl) (fun _ _ _ h => h) (Or.inl ⟨by rfl, fun w hw => by go_simp⟩) cF ?_
              refine wpAnyH_take (i := 8) (v := .int .i64 (used ||| b : Nat)) rfl (by kernel_rfl) (by kernel_rfl) (by kernel_rfl) (fun _ _ _ h => h) (Or.inl ⟨by rfl, fun w hw => by go_simp⟩) cF ?_
              refine wpAnyH_ready (rs := [2, 4]) (by kernel_rfl) (by simp) ?_
              refine AllReadyH.cons rfl (fun K hK => ?_) (AllReadyH.cons rfl (fun K hK => ?_) AllReadyH.nil)
              · refine step_copy rfl (.tmp 62) rfl rfl HVr.out hn8 ?_
                intro v3 w3 hv3 hg3
                have cF3 := hg3.cell cF (by simp)
                have O4 : Own wr.heap.size (w3.alloc (.cells #[.int .i64 b] 3)) v3 now := hv3.keep (World.grownBy_alloc w3 _ none)
                have c4 : (w3.alloc (.cells #[.int .i64 b] 3)).cell? ⟨w3.heap.size, 0, none⟩ = some (.int .i64 b) := (Boxed.new w3 3 (.int .i64 b)).cell
                have G4 : wr.grownBy (w3.alloc (.cells #[.int .i64 b] 3)) none := (grown_drew wr none).trans (hg3.trans (World.grownBy_alloc w3 _ none))
                have cF4 := (World.grownBy_alloc w3 (.cells #[.int .i64 b] 3) none).cell cF3 (by simp)
                refine hK.out _ _ cF3 (fun _ => ?_)
                clear hK K hv3 hg3
                refine wpAnyH_ready (rs := [4]) (by kernel_rfl) (by simp) ?_
                refine AllReadyH.cons rfl (fun K hK => ?_) AllReadyH.nil
                go_simp
                refine hK.out _ _ cF4 (fun _ => ?_)
                clear hK K cF3
                refine wpAnyH_ready (rs := [5]) (by kernel_rfl) (by simp) ?_
                refine AllReadyH.cons rfl (fun K hK => ?_) AllReadyH.nil
                refine step_snoc rfl (.tmp 63) (.tmp 65) rfl rfl rfl O4 c4 hn8 G4.size ?_
                intro v5 w5 hv5 hg5
                have G5 : Hid (wr.grownBy w5 none) := G4.andThen hg5 (fun j e => .inl (World.ownsRow.lt O4 j e).1)
                have HV5 := hid hv5
                have cF5 := G5.out.cell cF (by simp)
                refine hK.out _ _ cF5 (fun _ => ?_)
                clear hK K O4 c4 G4 hg5
                clear hv5
                obtain ⟨a5, k5, hv5⟩ := ownsRow_form' HV5.out
                rw [show (now ++ [b]).length = now.length + 1 by simp] at hv5
                subst hv5
                refine wpAnyH_ready (rs := [9]) (by kernel_rfl) (by simp) ?_
                refine AllReadyH.cons rfl (fun K hK => ?_) AllReadyH.nil
                go_simp
                refine (IH.out (now ++ [b]) (used ||| b) bst w5 (.slice a5 (now.length + 1) k5) ub2 hnf2 hnu2 hub hl2 (HV5.out.mono hsz) (HB2.out.kept G5.out (by simp)) (HO2.out.keep G5.out) (KCM.out w5 (HG2.out.trans (G5.out.but _))) cF5 (HBE2.out.trans ((grown_below G5.out).mono HBE2.out.size)) (Nat.le_trans hsz G5.out.size)).mono ?_
                rintro e w6 ⟨rfl, ub6, hb6, ho6, hl6, hg6⟩
                have HG6 := hid (HG2.out.trans ((G5.out.but _).trans hg6))
                have HB6 := hid hb6
                have HO6 := hid ho6
                refine hK.out _ _ (KCF.out w6 HG6.out) (fun _ => ?_)
                clear hK K hb6 ho6 hg6
                refine wpAnyH_done (by kernel_rfl) ?_ _
                refine NoPanic.normal ?_
                clear HV5 G5 HB2 HO2 HG2 IH KCM KCF HBE2 HVr cM cB
                go_wp2_with fail
                go_roundw
                case rel => exact ⟨t, _, ub6, _, by omega, by omega, rfl, hl6, HB6, HO6, HG6, HF3⟩
                case measure => exact hmeas
              · go_simp
                have g3 : wr.drew.grownBy ((wr.alloc (.cells #[.int .i64 b] 3)).drew) none := World.grownBy_alloc wr.drew (.cells #[.int .i64 b] 3) none
                refine hK.out _ _ (g3.cell cF (by simp)) (fun _ => ?_)
                clear hK K
                refine wpAnyH_ready (rs := [2]) (by kernel_rfl) (by simp) ?_
                refine AllReadyH.cons rfl (fun K hK => ?_) AllReadyH.nil
                refine step_copy rfl (.tmp 62) rfl rfl (HVr.out.keep g3) hn8 ?_
                intro v3 w3 hv3 hg3
                have O4 : Own wr.heap.size w3 v3 now := hv3.mono (by show wr.heap.size ≤ (wr.alloc _).heap.size; rw [World.size_alloc]; exact Nat.le_succ _)
                have c4 : w3.cell? ⟨wr.heap.size, 0, none⟩ = some (.int .i64 b) := hg3.cell (show (wr.alloc (.cells #[.int .i64 b] 3)).drew.cell? ⟨wr.heap.size, 0, none⟩ = some (.int .i64 b) from (Boxed.new wr.drew 3 (.int .i64 b)).cell) (by simp)
                have G4 : wr.grownBy w3 none := (grown_drew wr none).trans (g3.trans hg3)
                refine hK.out _ _ (hg3.cell (g3.cell cF (by simp)) (by simp)) (fun _ => ?_)
                clear hK K hv3 hg3 g3
                refine wpAnyH_ready (rs := [5]) (by kernel_rfl) (by simp) ?_
                refine AllReadyH.cons rfl (fun K hK => ?_) AllReadyH.nil
                refine step_snoc rfl (.tmp 63) (.tmp 65) rfl rfl rfl O4 c4 hn8 G4.size ?_
                intro v5 w5 hv5 hg5
                have G5 : Hid (wr.grownBy w5 none) := G4.andThen hg5 (fun j e => .inl (World.ownsRow.lt O4 j e).1)
                have HV5 := hid hv5
                have cF5 := G5.out.cell cF (by simp)
                refine hK.out _ _ cF5 (fun _ => ?_)
                clear hK K O4 c4 G4 hg5
                clear hv5
                obtain ⟨a5, k5, hv5⟩ := ownsRow_form' HV5.out
                rw [show (now ++ [b]).length = now.length + 1 by simp] at hv5
                subst hv5
                refine wpAnyH_ready (rs := [9]) (by kernel_rfl) (by simp) ?_
                refine AllReadyH.cons rfl (fun K hK => ?_) AllReadyH.nil
                go_simp
                refine (IH.out (now ++ [b]) (used ||| b) bst w5 (.slice a5 (now.length + 1) k5) ub2 hnf2 hnu2 hub hl2 (HV5.out.mono hsz) (HB2.out.kept G5.out (by simp)) (HO2.out.keep G5.out) (KCM.out w5 (HG2.out.trans (G5.out.but _))) cF5 (HBE2.out.trans ((grown_below G5.out).mono HBE2.out.size)) (Nat.le_trans hsz G5.out.size)).mono ?_
                rintro e w6 ⟨rfl, ub6, hb6, ho6, hl6, hg6⟩
                have HG6 := hid (HG2.out.trans ((G5.out.but _).trans hg6))
                have HB6 := hid hb6
                have HO6 := hid ho6
                refine hK.out _ _ (KCF.out w6 HG6.out) (fun _ => ?_)
                clear hK K hb6 ho6 hg6
                refine wpAnyH_done (by kernel_rfl) ?_ _
                refine NoPanic.normal ?_
                clear HV5 G5 HB2 HO2 HG2 IH KCM KCF HBE2 HVr cM cB
                go_wp2_with fail
                go_roundw
                case rel => exact ⟨t, _, ub6, _, by omega, by omega, rfl, hl6, HB6, HO6, HG6, HF3⟩
                case measure => exact hmeas
            · replace hnx : nextB now used b = false := by simpa using hnx
              rw [hnx]
              have HF3 : Hid ((l.take t).reverse.foldl (stkF l f now used) bst = R) := by show _ = _; rw [← HF2.out, show stkF l f now used bst b = bst from if_neg (by rw [hnx]; simp)]
              clear hnx HF2 IH KCM KCF HBE2 HVr
              go_wp2_with fail
              go_roundw
              case rel => exact ⟨t, _, ub2, bst, by omega, by omega, rfl, hl2, HB2, HO2, HG2, HF3⟩
              case measure => exact hmeas
end Go.Proofs.Ytclabonnbmanhaa

namespace Go.Proofs.Ytclabonnbmanhaa
open Go.RowKit

set_option maxHeartbeats 2000000 in
theorem Stacked_ok (m R : Nat) (v : Value) (l : List Nat) (w : World) (hP : Pk m l R) (h : Ints w v (N l)) :
    Calls Try.prog 13 #[.agg #[.int .i64 m, v]] w fun e w' => ∃ a c, e = .returned (.slice a (packL m l).length c) ∧ Own w.heap.size w' (.slice a (packL m l).length c) (packL m l) ∧ Below w.heap.size w w' := by
  have HST := hid (stk_is hP)
  have hlen := fam_len hP.n8 hP.fam
  have FO := hid (fun gb gm gf B h1 h2 h3 h4 w4 v4 u4 => from_ok l w v gb gm gf B (fun b hb => ⟨Nat.pos_of_ne_zero (hP.ne hb), hP.fam.lt256 hP.n8 b hb⟩) (fam_len hP.n8 hP.fam) h h1 h2 h3 h4 9 [] 0 [] w4 v4 u4 (by decide) (by decide) (by decide) (by decide))
  obtain ⟨a, cap, hv, -, -⟩ := h.nats
  subst hv
  have g1 := World.grownBy_alloc w (.cells #[.int .i64 m, .slice a l.length cap] 24) none
  have n1 := World.alloc_heap_new w (.cells #[.int .i64 m, .slice a l.length cap] 24)
  have z1 := World.size_alloc w (.cells #[.int .i64 m, .slice a l.length cap] 24)
  generalize hW1 : w.alloc (.cells #[.int .i64 m, .slice a l.length cap] 24) = W1 at *
  have g2 := World.grownBy_alloc W1 (.cells #[.slice none 0 0] 22) none
  have n2 := Boxed.new W1 22 (.slice none 0 0)
  have z2 := World.size_alloc W1 (.cells #[.slice none 0 0] 22)
  generalize hW2 : W1.alloc (.cells #[.slice none 0 0] 22) = W2 at *
  have hsf := fun (a : Addr) (c : Array Value) (w : World) => run_store Try.prog w a (.func (.func 40) #[] c) .plain rfl
  rw [z1] at n2 z2
  have g4 := World.grownBy_alloc W2 (.cells #[(fromV (w.heap.size + 1) w.heap.size (w.heap.size + 1 + 1))] 55) none
  have n4 := Boxed.new W2 55 (fromV (w.heap.size + 1) w.heap.size (w.heap.size + 1 + 1))
  have z4 := World.size_alloc W2 (.cells #[(fromV (w.heap.size + 1) w.heap.size (w.heap.size + 1 + 1))] 55)
  rw [z2] at n4 z4
  generalize hW4 : W2.alloc (.cells #[(fromV (w.heap.size + 1) w.heap.size (w.heap.size + 1 + 1))] 55) = W4 at *
  have n24 : Boxed W4 (w.heap.size + 1) 22 (.slice none 0 0) := n2.kept g4 (by simp)
  have c14 : W4.cell? ⟨w.heap.size, 1, none⟩ = some (.slice a l.length cap) := (g2.trans g4).cell (show W1.cell? ⟨w.heap.size, 1, none⟩ = some (.slice a l.length cap) by simp [World.cell?, n1]) (by simp)
  have b4 : Below w.heap.size w W4 := grown_below (g1.trans (g2.trans g4))
  have cb := n24.cell
  have F := hid (FO.out (w.heap.size + 1) w.heap.size (w.heap.size + 1 + 1) (w.heap.size + 3) (by omega) (by omega) (by omega) (by omega) W4 (.slice none 0 0) (.slice none 0 0) (Own.nil _ _) n24 (Own.nil _ _) c14 n4.cell b4 (by omega))
  rw [show ((0 : Nat) : Int) = 0 from rfl] at F
  rw [HST.out] at F
  have c44 := n4.cell
  have HB4 := hid b4
  clear FO g1 n1 z1 g2 n2 z2 z4 g4 n4 n24 c14 b4 HST
  generalize packL m l = L at *
  unfold fromV at *
  subst hW4
  subst hW2
  subst hW1
  go_enter Try.func13, Try.ntmps13
  go_wp2_with fail
  refine F.out.mono ?_
  rintro e w5 ⟨rfl, ub, hbx, ho, hl5, hg5⟩
  have c5 := hbx.cell
  have HO5 := hid ho
  have HB5 := hid (HB4.out.grown hg5 HB4.out.size (fun k e => by cases e; omega))
  obtain ⟨a5, k5, rfl⟩ := ownsRow_form' ho
  clear ho hg5 hbx c44 cb HB4 F
  go_wp2_with fail
  go_ret
  exact ⟨a5, k5, rfl, HO5.out.mono (by omega), HB5.out⟩
end Go.Proofs.Ytclabonnbmanhaa
