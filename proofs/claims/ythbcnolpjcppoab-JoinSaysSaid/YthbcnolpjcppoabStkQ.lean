/- rotaref.Stacked. -/
import Derived.Test.YthbcnolpjcppoabCmpW
import Derived.Test.YthbcnolpjcppoabPlainAll
import Derived.Test.YthbcnolpjcppoabStkAQ
import Derived.Deep.CutRange
import Derived.Deep.RegionHeld3
namespace Go.Proofs.Ythbcnolpjcppoab
open Go.RowKit

/-- The function value that searches. -/
def fromV (gb gm gf : Nat) : Value := .func (.func 81) #[] #[.pointer (some ⟨gb, 0, none⟩), .pointer (some ⟨gm, 0, none⟩), .pointer (some ⟨gf, 0, none⟩)]
/-- One base more is looked at. -/
def stkF (l : List Nat) (f : Nat) (now : List Nat) (used : Nat) (bst : List Nat) (b : Nat) : List Nat := if nextB now used b = true then stk l f (now ++ [b]) (used ||| b) bst else bst
theorem stk_fold (l : List Nat) (f : Nat) (now : List Nat) (used : Nat) (best : List Nat) : stk l (f + 1) now used best = (l.take l.length).reverse.foldl (stkF l f now used) (if btB now best = true then now else best) := by
  rw [List.take_length]; rfl
theorem take_rev {l : List Nat} {t : Nat} (ht : t < l.length) : (l.take (t + 1)).reverse = l.getD t 0 :: (l.take t).reverse := by
  rw [List.take_add_one, List.getElem?_eq_getElem ht]
  simp [List.getD, ht]
theorem last_next {now : List Nat} {cur used b : Nat} : nextB (now ++ [cur]) used b = (b &&& used == 0 && decide (cur < b)) := by
  unfold nextB; simp
theorem nil_next {used b : Nat} : nextB [] used b = (b &&& used == 0) := by
  unfold nextB; simp
set_option maxRecDepth 20000 in
set_option maxHeartbeats 16000000 in
theorem from_ok (l : List Nat) (w0 : World) (mv : Value) (gb gm gf B : Nat) (hl8 : ∀ b ∈ l, 0 < b ∧ b < 256) (hlen : l.length ≤ 256) (hmv : Ints w0 mv (N l)) (hb0 : w0.heap.size ≤ gb) (hgm : gm ≠ gb) (hgf : gf ≠ gb) (hgB : gb < B) :
    ∀ (f : Nat) (now : List Nat) (used : Nat) (best : List Nat) (w : World) (v ub : Value), now.length + f = 9 → now.length ≤ pop used → used < 256 → best.length ≤ 8 →
      Own B w v now → Boxed w gb 22 ub → Own B w ub best → w.cell? ⟨gm, 1, none⟩ = some mv → w.cell? ⟨gf, 0, none⟩ = some (fromV gb gm gf) → Below w0.heap.size w0 w → B ≤ w.heap.size →
      Calls Try.prog 81 #[v, .int .i64 used, .pointer (some ⟨gb, 0, none⟩), .pointer (some ⟨gm, 0, none⟩), .pointer (some ⟨gf, 0, none⟩)] w fun e w' =>
        e = .returned (.tuple #[]) ∧ ∃ ub', Boxed w' gb 22 ub' ∧ Own B w' ub' (stk l f now used best) ∧ (stk l f now used best).length ≤ 8 ∧ w.grownBy w' (some gb) := by
  intro f
  induction f with
  | zero =>
    intro now used best w v ub hnf hnu hu8
    have := pop_le used hu8
    omega
  | succ f ih =>
    intro now used best w v ub hnf hnu hu8 hbl hv hbx hbo hcm hcf hbel hBw
    have hp8 := pop_le used hu8
    have hn8 : now.length ≤ 8 := by omega
    rw [stk_fold]
    obtain ⟨B0, HB0⟩ : ∃ B0, Hid ((if btB now best = true then now else best) = B0) := ⟨_, Eq.refl (if btB now best = true then now else best)⟩
    rw [HB0.out]
    obtain ⟨R, HR⟩ : ∃ R, Hid ((l.take l.length).reverse.foldl (stkF l f now used) B0 = R) := ⟨_, Eq.refl _⟩
    rw [HR.out]
    have HV := hid hv
    have HBX := hid hbx
    have HBO := hid hbo
    have IH := hid ih
    have HBEL := hid hbel
    have HMV := hid hmv
    have CM := hid (fun w' h1 h2 => Compare_any v ub now best w' h1 h2)
    obtain ⟨an, cn, rfl⟩ := ownsRow_form' hv
    obtain ⟨ab, cb, rfl⟩ := ownsRow_form' hbo
    obtain ⟨al, cl, rfl, -, hmc⟩ := hmv.nats
    have hcb := hbx.cell
    clear ih hv hbx hbo hbel hmv hmc
    go_enter Try.func81, Try.ntmps81
    go_step
    go_step
    go_cut [] from 9 to 28 (fun W => ∃ ub1, Hid (Boxed W gb 22 ub1) ∧ Hid (Own B W ub1 B0) ∧ B0.length ≤ 8 ∧ Hid (w.grownBy W (some gb)))
    case first =>
      have fit : ∀ W (x : Bool), btB now best = x → ∀ ub1, Boxed W gb 22 ub1 → Own B W ub1 (if x = true then now else best) → w.grownBy W (some gb) → ∃ ub1, Hid (Boxed W gb 22 ub1) ∧ Hid (Own B W ub1 B0) ∧ B0.length ≤ 8 ∧ Hid (w.grownBy W (some gb)) := by
        intro W x hx ub1 h1 h2 h3
        rw [← HB0.out, hx]
        refine ⟨ub1, h1, h2, ?_, h3⟩
        cases x
        · simpa using hbl
        · simpa using hn8
      have FIT := hid fit
      clear fit
      have hst : ∀ v1 w1, Own w.heap.size w1 v1 now → w.grownBy w1 none → w1.cell? ⟨gb, 0, none⟩ = some (.slice ab best.length cb) ∧ w1.frozen? ⟨gb, 0, none⟩ = false ∧ (btB now best = true → ∃ ub1, Hid (Boxed (w1.setCell ⟨gb, 0, none⟩ v1) gb 22 ub1) ∧ Hid (Own B (w1.setCell ⟨gb, 0, none⟩ v1) ub1 B0) ∧ B0.length ≤ 8 ∧ Hid (w.grownBy (w1.setCell ⟨gb, 0, none⟩ v1) (some gb))) := by
        intro v1 w1 h1 h2
        have hb := HBX.out.kept h2 (by simp)
        refine ⟨hb.cell, hb.frozen, fun hx => FIT.out _ true hx v1 (hb.set v1) ?_ ?_⟩
        · rw [if_pos rfl]
          exact (h1.mono hBw).but (Go.grownBy_setCell' w1 gb v1) hgB
        · exact (h2.but _).trans (Go.grownBy_setCell' w1 gb v1)
      have HST := hid hst
      clear hst
      have hgr : Hid (w.grownBy w (some gb)) := World.grownBy.refl w _
      rcases Nat.lt_trichotomy now.length best.length with c1 | c1 | c1
      · have hx : btB now best = false := by unfold btB; simp; omega
        have e1 : ¬ (best.length : Int) < (now.length : Int) := by omega
        have e2 : ¬ (now.length : Int) = (best.length : Int) := by omega
        have E := hid (FIT.out w false hx _ HBX.out HBO.out hgr.out)
        clear FIT HST hgr HB0 HR IH CM HMV HBEL
        go_wp2_with fail
        go_meet
        exact E.out
      · have e1 : ¬ (best.length : Int) < (now.length : Int) := by omega
        have e2 : ((now.length : Int) == (best.length : Int)) = true := by rw [beq_iff_eq]; omega
        have C := hid (CM.out w (HV.out.ints (by omega)) (HBO.out.ints (by omega)))
        by_cases c2 : cmpL now best < 0
        · have hx : btB now best = true := by unfold btB; simp [c1, c2]
          clear FIT hgr HB0 HR IH CM HMV HBEL c1
          generalize cmpL now best = q at *
          go_wp2_with fail
          refine C.out.mono ?_
          rintro e w' ⟨rfl, h1⟩
          obtain rfl := h1.symm
          go_wp2_with (at_builtin; refine wpList_copy rfl (.tmp 27) rfl rfl HV.out hn8 ?_)
          intro v1 w1 hv1 hg1
          obtain ⟨q1, q2, q3⟩ := HST.out v1 w1 hv1 hg1
          have E := hid (q3 hx)
          obtain ⟨a1, k1, rfl⟩ := ownsRow_form' hv1
          clear q3 hv1 hg1 HST
          go_wp2_with fail
          go_meet
          exact E.out
        · have hx : btB now best = false := by unfold btB; simp [c1, c2]
          have E := hid (FIT.out w false hx _ HBX.out HBO.out hgr.out)
          clear FIT HST hgr HB0 HR IH CM HMV HBEL c1
          generalize cmpL now best = q at *
          go_wp2_with fail
          refine C.out.mono ?_
          rintro e w' ⟨rfl, h1⟩
          obtain rfl := h1.symm
          go_wp2_with fail
          go_meet
          exact E.out
      · have hx : btB now best = true := by unfold btB; simp; omega
        have e1 : (best.length : Int) < (now.length : Int) := by omega
        clear FIT hgr HB0 HR IH CM HMV HBEL
        go_wp2_with (at_builtin; refine wpList_copy rfl (.tmp 27) rfl rfl HV.out hn8 ?_)
        intro v1 w1 hv1 hg1
        obtain ⟨q1, q2, q3⟩ := HST.out v1 w1 hv1 hg1
        have E := hid (q3 hx)
        obtain ⟨a1, k1, rfl⟩ := ownsRow_form' hv1
        clear q3 hv1 hg1 HST
        go_wp2_with fail
        go_meet
        exact E.out
    case rest =>
      obtain ⟨ub1, HB1, HO1, hl1, HG1⟩ := hcut
      clear HBX HBO hcb HB0 CM hbl
      have kcm : ∀ W, w.grownBy W (some gb) → W.cell? ⟨gm, 1, none⟩ = some (.slice al l.length cl) := fun W h => h.cell hcm (fun e => hgm (by cases e; rfl))
      have kcf : ∀ W, w.grownBy W (some gb) → W.cell? ⟨gf, 0, none⟩ = some (fromV gb gm gf) := fun W h => h.cell hcf (fun e => hgf (by cases e; rfl))
      have KCM := hid kcm
      have KCF := hid kcf
      have hc1 := kcm wc HG1.out
      clear kcm kcf hcm hcf
      go_wp2_with fail
      go_loopw [7, 8] (fun i _ wr => ∃ (t : Nat) (z : Int) (ub2 : Value) (bst : List Nat), t ≤ l.length ∧ z + 1 = t ∧ i = .int .i64 z ∧ bst.length ≤ 8 ∧ Hid (Boxed wr gb 22 ub2) ∧ Hid (Own B wr ub2 bst) ∧ Hid (w.grownBy wr (some gb)) ∧ Hid ((l.take t).reverse.foldl (stkF l f now used) bst = R)) (fun i _ _ => (intOf i + 1).toNat)
      case atStart => exact ⟨l.length, (l.length : Int) - 1, ub1, B0, Nat.le_refl _, by omega, rfl, hl1, HB1, HO1, HG1, HR⟩
      case round =>
        obtain ⟨t, z, ub2, bst, ht, hz, rfl, hl2, HB2, HO2, HG2, HF2⟩ := hrel
        by_cases ht0 : t = 0
        · subst ht0
          obtain rfl : z = -1 := by omega
          have HE : Hid (bst = R) := HF2.out
          clear HF2 IH KCM KCF HMV HBEL HV
          go_wp2_with fail
          go_end0
          exact ⟨rfl, ub2, HB2.out, by rw [← HE.out]; exact HO2.out, by rw [← HE.out]; exact hl2, HG2.out⟩
        · obtain ⟨t, rfl⟩ := Nat.exists_eq_succ_of_ne_zero ht0
          obtain rfl : z = (t : Int) := by omega
          have htl : t < l.length := by omega
          have htl2 : (t : Int) < (l.length : Int) := by omega
          rw [show t.succ = t + 1 from rfl, take_rev htl, List.foldl_cons] at HF2
          obtain ⟨hb1, hb2⟩ : 0 < l.getD t 0 ∧ l.getD t 0 < 256 := hl8 _ (by simp [List.getD, htl])
          have cM := KCM.out wr HG2.out
          have HBE2 := hid (HBEL.out.grown HG2.out HBEL.out.size (fun k e => by cases e; exact hb0))
          obtain ⟨a', cap', e', -, hc'⟩ := (HMV.out.below HBE2.out).nats
          obtain ⟨rfl, rfl⟩ : al = a' ∧ cl = cap' := by simpa using e'
          obtain ⟨mb, mo, rfl, -, hmc⟩ := hc' (by omega)
          have cB := hmc t htl
          clear hmc hc' e'
          generalize l.getD t 0 = b at *
          have hand : bits .and .i64 (b : Int) (used : Int) = ((b &&& used : Nat) : Int) := i64_and_nat _ _ (by omega) (by omega)
          have hsz : B ≤ wr.heap.size := Nat.le_trans hBw HG2.out.size
          have HVr : Hid (Own B wr.drew (.slice an now.length cn) now) := (HV.out.but HG2.out hgB).keep (grown_drew wr none)
          have hmeas : ((t : Int) - 1 + 1).toNat < ((t : Int) + 1).toNat := by omega
          clear HV HMV HBEL HR ht0
          go_upto_region 6 with fail
          go_cut [60] from 42 to 59 (fun x W => x = .bool (nextB now used b) ∧ W = wr)
          case first =>
            clear HF2 IH KCM KCF HBE2 HB2 HO2 HG2
            by_cases a1 : b &&& used = 0
            · have a1' : (((b &&& used : Nat) : Int) == 0) = true := by rw [a1]; rfl
              rcases List.eq_nil_or_concat now with hn0 | ⟨acc, cur, hn0⟩
              · have hl0 : ((now.length : Int) == 0) = true := by rw [hn0]; rfl
                have hnx : Hid (nextB now used b = true) := by show _ = _; rw [hn0, nil_next, a1]; rfl
                clear hn0 a1 HVr
                go_wp2_with fail
                go_meet
                exact ⟨by rw [hnx.out], rfl⟩
              · rw [List.concat_eq_append] at hn0
                have hl0 : ((now.length : Int) == 0) = false := by rw [hn0, beq_eq_false_iff_ne]; simp; omega
                have hp : now.length = acc.length + 1 := by rw [hn0]; simp
                obtain ⟨g, gc, hv'⟩ := Go.Joins.ownsRow_form HVr.out (by omega)
                obtain ⟨rfl, rfl⟩ : an = some ⟨g, 0, none⟩ ∧ cn = gc := by simpa using hv'
                have cL : wr.cell? ⟨g, acc.length, none⟩ = some (.int .i64 (cur : Nat)) := by
                  have h1 := World.ownsRow.cellAt HVr.out acc.length (by omega)
                  rw [show wr.cell? ⟨g, acc.length, none⟩ = wr.drew.cell? ⟨g, acc.length, none⟩ from rfl, h1, hn0]
                  simp [V]
                have hw1 : wrap64 ((now.length : Int) - 1) = (acc.length : Int) := by rw [hp, show ((acc.length + 1 : Nat) : Int) - 1 = (acc.length : Int) by omega, ← IntWalk.i64_left]; exact wrap_i64_nat _ (by omega)
                have hw2 : (now.length : Int) - 1 = (acc.length : Int) := by omega
                have hlt2 : (acc.length : Int) < (now.length : Int) := by omega
                have hnx : Hid (nextB now used b = decide (cur < b)) := by show _ = _; rw [hn0, last_next, a1]; simp
                clear hv' hp hn0 a1 HVr
                generalize acc.length = p at *
                by_cases a3 : cur < b
                · have a3' : (cur : Int) < (b : Int) := by omega
                  have hnx2 : Hid (nextB now used b = true) := by show _ = _; rw [hnx.out]; exact decide_eq_true a3
                  clear hnx
                  go_wp2_with fail
                  go_meet
                  exact ⟨by rw [hnx2.out], rfl⟩
                · have a3' : ¬ (cur : Int) < (b : Int) := by omega
                  have hnx2 : Hid (nextB now used b = false) := by show _ = _; rw [hnx.out]; exact decide_eq_false a3
                  clear hnx
                  go_wp2_with fail
                  go_meet
                  exact ⟨by rw [hnx2.out], rfl⟩
            · have a1' : (((b &&& used : Nat) : Int) == 0) = false := by rw [beq_eq_false_iff_ne]; omega
              have hnx : Hid (nextB now used b = false) := by show _ = _; unfold nextB; rw [show (b &&& used == 0) = false by rw [beq_eq_false_iff_ne]; exact a1, Bool.false_and]
              clear a1 HVr
              go_wp2_with fail
              go_meet
              exact ⟨by rw [hnx.out], rfl⟩
          case rest =>
            obtain ⟨rfl, hw⟩ := hcut
            obtain rfl := hw.symm
            by_cases hnx : nextB now used b = true
            · rw [hnx]
              have HF3 : Hid ((l.take t).reverse.foldl (stkF l f now used) (stk l f (now ++ [b]) (used ||| b) bst) = R) := by show _ = _; rw [← HF2.out, show stkF l f now used bst b = stk l f (now ++ [b]) (used ||| b) bst from if_pos hnx]
              have hnx2 := (next_iff.1 hnx).1
              clear hnx HF2
              have hpp := pop_disj (a := used) (b := b) (by rw [Nat.and_comm]; exact hnx2)
              have hp1 : 1 ≤ pop b := by have := pop_pos b hb2; omega
              have hub : used ||| b < 256 := or_lt hu8 hb2
              have hnu2 : (now ++ [b]).length ≤ pop (used ||| b) := by rw [List.length_append]; simp only [List.length_cons, List.length_nil]; omega
              have hnf2 : (now ++ [b]).length + f = 9 := by rw [List.length_append]; simp only [List.length_cons, List.length_nil]; omega
              have hor : bits .or .i64 (used : Int) (b : Int) = ((used ||| b : Nat) : Int) := i64_or_nat _ _ (by omega) (by omega)
              have cF : wr.drew.cell? ⟨gf, 0, none⟩ = some (.func (.func 81) #[] #[.pointer (some ⟨gb, 0, none⟩), .pointer (some ⟨gm, 0, none⟩), .pointer (some ⟨gf, 0, none⟩)]) := KCF.out wr HG2.out
              go_wp2_with fail
              refine wp_region_noPanic ?_
              refine wp_region_held_drew (S := fun w' => w'.cell? ⟨gf, 0, none⟩ = some (.func (.func 81) #[] #[.pointer (some ⟨gb, 0, none⟩), .pointer (some ⟨gm, 0, none⟩), .pointer (some ⟨gf, 0, none⟩)])) (by kernel_rfl) cF (fun _ => ?_)
              refine wpAnyH_take (i := 0) (v := .func (.func 81) #[] #[.pointer (some ⟨gb, 0, none⟩), .pointer (some ⟨gm, 0, none⟩), .pointer (some ⟨gf, 0, none⟩)]) rfl (by kernel_rfl) (by kernel_rfl) (by kernel_rfl) (fun _ _ _ h => h) (Or.inl ⟨by rfl, fun w hw => by go_simp⟩) cF ?_
              refine wpAnyH_take (i := 1) (v := .slice an now.length cn) rfl (by kernel_rfl) (by kernel_rfl) (by kernel_rfl) (fun _ _ _ h => h) (Or.inl ⟨by rfl, fun w hw => by go_simp⟩) cF ?_
              refine wpAnyH_take (i := 3) (v := .int .i64 b) rfl (by kernel_rfl) (by kernel_rfl) (by kernel_rfl) (fun _ _ _ h => h) (Or.inl ⟨by rfl, fun w hw => by go_simp⟩) cF ?_
              refine wpAnyH_take (i := 6) (v := .int .i64 used) rfl (by kernel_rfl) (by kernel_rfl) (by kernel_rfl) (fun _ _ _ h => h) (Or.inl ⟨by rfl, fun w hw => by go_simp⟩) cF ?_
              refine wpAnyH_take (i := 7) (v := .int .i64 b) rfl (by kernel_rfl) (by kernel_rfl) (by kernel_rfl) (fun _ _ _ h => h) (Or.inl ⟨by rfl, fun w hw => by go_simp⟩) cF ?_
              refine wpAnyH_take (i := 8) (v := .int .i64 (used ||| b : Nat)) rfl (by kernel_rfl) (by kernel_rfl) (by kernel_rfl) (fun _ _ _ h => h) (Or.inl ⟨by rfl, fun w hw => by go_simp⟩) cF ?_
              refine wpAnyH_ready (rs := [2, 4]) (by kernel_rfl) (by simp) ?_
              refine AllReadyH.cons rfl (fun K hK => ?_) (AllReadyH.cons rfl (fun K hK => ?_) AllReadyH.nil)
              · refine step_copy rfl (.tmp 62) rfl rfl HVr.out hn8 ?_
                intro v3 w3 hv3 hg3
                have cF3 := hg3.cell cF (by simp)
                have O4 : Own wr.heap.size (w3.alloc (.cells #[.int .i64 b] 3)) v3 now := hv3.keep (World.grownBy_alloc w3 _ none)
                have c4 : (w3.alloc (.cells #[.int .i64 b] 3)).cell? ⟨w3.heap.size, 0, none⟩ = some (.int .i64 b) := (Boxed.new w3 3 (.int .i64 b)).cell
                have G4 : wr.grownBy (w3.alloc (.cells #[.int .i64 b] 3)) none := (grown_drew wr none).trans (hg3.trans (World.grownBy_alloc w3 _ none))
                have cF4 := (World.grownBy_alloc w3 (.cells #[.int .i64 b] 3) none).cell cF3 (by simp)
                refine hK.out _ _ cF3 (fun _ => ?_)
                clear hK K hv3 hg3
                refine wpAnyH_ready (rs := [4]) (by kernel_rfl) (by simp) ?_
                refine AllReadyH.cons rfl (fun K hK => ?_) AllReadyH.nil
                go_simp
                refine hK.out _ _ cF4 (fun _ => ?_)
                clear hK K cF3
                refine wpAnyH_ready (rs := [5]) (by kernel_rfl) (by simp) ?_
                refine AllReadyH.cons rfl (fun K hK => ?_) AllReadyH.nil
                refine step_snoc rfl (.tmp 63) (.tmp 65) rfl rfl rfl O4 c4 hn8 G4.size ?_
                intro v5 w5 hv5 hg5
                have G5 : Hid (wr.grownBy w5 none) := G4.andThen hg5 (fun j e => .inl (World.ownsRow.lt O4 j e).1)
                have HV5 := hid hv5
                have cF5 := G5.out.cell cF (by simp)
                refine hK.out _ _ cF5 (fun _ => ?_)
                clear hK K O4 c4 G4 hg5
                clear hv5
                obtain ⟨a5, k5, hv5⟩ := ownsRow_form' HV5.out
                rw [show (now ++ [b]).length = now.length + 1 by simp] at hv5
                subst hv5
                refine wpAnyH_ready (rs := [9]) (by kernel_rfl) (by simp) ?_
                refine AllReadyH.cons rfl (fun K hK => ?_) AllReadyH.nil
                go_simp
                refine (IH.out (now ++ [b]) (used ||| b) bst w5 (.slice a5 (now.length + 1) k5) ub2 hnf2 hnu2 hub hl2 (HV5.out.mono hsz) (HB2.out.kept G5.out (by simp)) (HO2.out.keep G5.out) (KCM.out w5 (HG2.out.trans (G5.out.but _))) cF5 (HBE2.out.trans ((grown_below G5.out).mono HBE2.out.size)) (Nat.le_trans hsz G5.out.size)).mono ?_
                rintro e w6 ⟨rfl, ub6, hb6, ho6, hl6, hg6⟩
                have HG6 := hid (HG2.out.trans ((G5.out.but _).trans hg6))
                have HB6 := hid hb6
                have HO6 := hid ho6
                refine hK.out _ _ (KCF.out w6 HG6.out) (fun _ => ?_)
                clear hK K hb6 ho6 hg6
                refine wpAnyH_done (by kernel_rfl) ?_ _
                refine NoPanic.normal ?_
                clear HV5 G5 HB2 HO2 HG2 IH KCM KCF HBE2 HVr cM cB
                go_wp2_with fail
                go_roundw
                case rel => exact ⟨t, _, ub6, _, by omega, by omega, rfl, hl6, HB6, HO6, HG6, HF3⟩
                case measure => exact hmeas
              · go_simp
                have g3 : wr.drew.grownBy ((wr.alloc (.cells #[.int .i64 b] 3)).drew) none := World.grownBy_alloc wr.drew (.cells #[.int .i64 b] 3) none
                refine hK.out _ _ (g3.cell cF (by simp)) (fun _ => ?_)
                clear hK K
                refine wpAnyH_ready (rs := [2]) (by kernel_rfl) (by simp) ?_
                refine AllReadyH.cons rfl (fun K hK => ?_) AllReadyH.nil
                refine step_copy rfl (.tmp 62) rfl rfl (HVr.out.keep g3) hn8 ?_
                intro v3 w3 hv3 hg3
                have O4 : Own wr.heap.size w3 v3 now := hv3.mono (by show wr.heap.size ≤ (wr.alloc _).heap.size; rw [World.size_alloc]; exact Nat.le_succ _)
                have c4 : w3.cell? ⟨wr.heap.size, 0, none⟩ = some (.int .i64 b) := hg3.cell (show (wr.alloc (.cells #[.int .i64 b] 3)).drew.cell? ⟨wr.heap.size, 0, none⟩ = some (.int .i64 b) from (Boxed.new wr.drew 3 (.int .i64 b)).cell) (by simp)
                have G4 : wr.grownBy w3 none := (grown_drew wr none).trans (g3.trans hg3)
                refine hK.out _ _ (hg3.cell (g3.cell cF (by simp)) (by simp)) (fun _ => ?_)
                clear hK K hv3 hg3 g3
                refine wpAnyH_ready (rs := [5]) (by kernel_rfl) (by simp) ?_
                refine AllReadyH.cons rfl (fun K hK => ?_) AllReadyH.nil
                refine step_snoc rfl (.tmp 63) (.tmp 65) rfl rfl rfl O4 c4 hn8 G4.size ?_
                intro v5 w5 hv5 hg5
                have G5 : Hid (wr.grownBy w5 none) := G4.andThen hg5 (fun j e => .inl (World.ownsRow.lt O4 j e).1)
                have HV5 := hid hv5
                have cF5 := G5.out.cell cF (by simp)
                refine hK.out _ _ cF5 (fun _ => ?_)
                clear hK K O4 c4 G4 hg5
                clear hv5
                obtain ⟨a5, k5, hv5⟩ := ownsRow_form' HV5.out
                rw [show (now ++ [b]).length = now.length + 1 by simp] at hv5
                subst hv5
                refine wpAnyH_ready (rs := [9]) (by kernel_rfl) (by simp) ?_
                refine AllReadyH.cons rfl (fun K hK => ?_) AllReadyH.nil
                go_simp
                refine (IH.out (now ++ [b]) (used ||| b) bst w5 (.slice a5 (now.length + 1) k5) ub2 hnf2 hnu2 hub hl2 (HV5.out.mono hsz) (HB2.out.kept G5.out (by simp)) (HO2.out.keep G5.out) (KCM.out w5 (HG2.out.trans (G5.out.but _))) cF5 (HBE2.out.trans ((grown_below G5.out).mono HBE2.out.size)) (Nat.le_trans hsz G5.out.size)).mono ?_
                rintro e w6 ⟨rfl, ub6, hb6, ho6, hl6, hg6⟩
                have HG6 := hid (HG2.out.trans ((G5.out.but _).trans hg6))
                have HB6 := hid hb6
                have HO6 := hid ho6
                refine hK.out _ _ (KCF.out w6 HG6.out) (fun _ => ?_)
                clear hK K hb6 ho6 hg6
                refine wpAnyH_done (by kernel_rfl) ?_ _
                refine NoPanic.normal ?_
                clear HV5 G5 HB2 HO2 HG2 IH KCM KCF HBE2 HVr cM cB
                go_wp2_with fail
                go_roundw
                case rel => exact ⟨t, _, ub6, _, by omega, by omega, rfl, hl6, HB6, HO6, HG6, HF3⟩
                case measure => exact hmeas
            · replace hnx : nextB now used b = false := by simpa using hnx
              rw [hnx]
              have HF3 : Hid ((l.take t).reverse.foldl (stkF l f now used) bst = R) := by show _ = _; rw [← HF2.out, show stkF l f now used bst b = bst from if_neg (by rw [hnx]; simp)]
              clear hnx HF2 IH KCM KCF HBE2 HVr
              go_wp2_with fail
              go_roundw
              case rel => exact ⟨t, _, ub2, bst, by omega, by omega, rfl, hl2, HB2, HO2, HG2, HF3⟩
              case measure => exact hmeas
end Go.Proofs.Ythbcnolpjcppoab
