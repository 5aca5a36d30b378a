/- rotaref.Canon. -/
import Derived.Test.YthlmnhcnpffjdaaGreatGorAQ
import Derived.Test.YthlmnhcnpffjdaaGreatRenWQ
import Derived.Test.YthlmnhcnpffjdaaGreatCmpWQ
import Derived.Test.YthlmnhcnpffjdaaGreatPlainAll
namespace Go.Proofs.YthlmnhcnpffjdaaGreat
open Go.RowKit

/-- What is best so far: bB its box. -/
def CnJ (B0 bP bB : Nat) (best : List Nat) (X : Nat → Prop) (W : World) : Prop := ¬ X bB ∧ ∃ r, Boxed W bB 22 r ∧ Own B0 W r best ∧ ∀ g, r.ownBlock = some g → ¬ X g ∧ g ≠ bP ∧ g ≠ bB
def canD (B0 bP bB : Nat) : DoS (List Nat) where
  gf := 0
  cs := #[]
  fnd := fun s _ => (true, s)
  Z := fun k => k = bB
  J := CnJ B0 bP bB
theorem canD_kp {B0 bP bB : Nat} (hne : bP ≠ bB) : DoKp (canD B0 bP bB) bP where
  keep := fun s X W W' h hs => by
    obtain ⟨h1, r, h2, h3, h4⟩ := h
    have no : ∀ k, k ≠ bP → ¬ X k → ¬ (k = bP ∨ X k) := fun k a b e => by
      rcases e with e | e
      · exact a e
      · exact b e
    exact ⟨h1, r, (hs.block _ h2.lt (no _ (fun e => hne e.symm) h1)).trans h2, h3.saveV2 hs (fun g hg => no g (h4 g hg).2.1 (h4 g hg).1), h4⟩
  more := fun s X Y W h hY => by
    obtain ⟨h1, r, h2, h3, h4⟩ := h
    have no : ∀ k, ¬ X k → k < W.heap.size → ¬ Y k := fun k a b e => by
      rcases hY k e with e | e
      · exact a e
      · omega
    exact ⟨no _ h1 h2.lt, r, h2, h3, fun g hg => ⟨no g (h4 g hg).1 (World.ownsRow.lt h3 g hg).2, (h4 g hg).2⟩⟩
/-- A new best one. -/
theorem can_set {B0 bP bB : Nat} {W0 W W' : World} {vP r : Value} {p b b' : List Nat} (h : OrG (canD B0 bP bB) W0 bP W vP p b) (hne : bP ≠ bB) (hB : bB < W0.heap.size ∧ bP < W0.heap.size) (h0 : B0 ≤ W0.heap.size) (hb : Below W.heap.size W W') (hr : Own W.heap.size W' r b') : OrG (canD B0 bP bB) W0 bP (W'.setCell ⟨bB, 0, none⟩ r) vP p b' := by
  have h' := h.below (canD_kp hne) hb
  have s1 := save_one W' bB r
  obtain ⟨j1, r0, j2, _, _⟩ := h'.st
  have hsz := h.sv.size
  have hrl : ∀ g, r.ownBlock = some g → W.heap.size ≤ g := fun g hg => (World.ownsRow.lt hr g hg).1
  refine ⟨h'.sv.andThen s1 (fun i hi e => .inr e), (setC_other _ _ hne).trans h'.bp, h'.op.saveV2 s1 (fun g hg e => by have := (World.ownsRow.lt h'.op g hg).1; omega), j1, r, Boxed.set r j2, (hr.mono (by omega)).saveV2 s1 (fun g hg e => by have := hrl g hg; omega), fun g hg => ⟨fun e => ?_, by have := hrl g hg; omega, by have := hrl g hg; omega⟩⟩
  have h1 := hrl g hg
  have h2 := (World.ownsRow.lt h.op g e).2
  omega
/-- What is read, wherever the search stands. -/
structure RdC (bP bM bB bF : Nat) (m : Nat) (v : Value) (l : List Nat) (W : World) : Prop where
  a0 : W.cell? ⟨bM, 0, none⟩ = some (.int .i64 m)
  a1 : W.cell? ⟨bM, 1, none⟩ = some v
  f0 : W.cell? ⟨bF, 0, none⟩ = some (.func (.func 28) #[] #[.pointer (some ⟨bP, 0, none⟩), .pointer (some ⟨bM, 0, none⟩), .pointer (some ⟨bB, 0, none⟩), .pointer (some ⟨bF, 0, none⟩)])
  iv : Ints W v (N l)
def stepD (m : Nat) (l : List Nat) (k : Nat) (p : List Nat) (b : List Nat) (x : Nat) : List Nat := if x ∈ p then b else walkD m l k b (p ++ [x])
theorem walkD_succ (m : Nat) (l : List Nat) (k : Nat) (b p : List Nat) : walkD m l (k + 1) b p = (List.range m).reverse.foldl (stepD m l k p) b := rfl
theorem rev_step {i : Nat} (f : List Nat → Nat → List Nat) (b : List Nat) : (List.range (i + 1)).reverse.foldl f b = (List.range i).reverse.foldl f (f b i) := by
  rw [List.range_succ, List.reverse_append]
  rfl
theorem field_bases (n : Int) (a : Option Addr) (l c : Nat) (w : World) : (Instr.field 24 (.agg #[.int .i64 n, .slice a l c]) 1).run Tryz.prog w = .ok (.slice a l c) w := by kernel_rfl
set_option maxRecDepth 20000 in
set_option maxHeartbeats 4000000 in
theorem canR_ok (B0 bP bM bB bF : Nat) (W0 : World) (m : Nat) (v : Value) (l : List Nat) (hm : m ≤ 8) (hf : Fam m l) (hne : bP ≠ bB) (hB : bB < W0.heap.size ∧ bP < W0.heap.size) (h0 : B0 ≤ W0.heap.size)
    (RD : ∀ W, Save (fun k => k = bP ∨ k = bB) W0 W → RdC bP bM bB bF m v l W) :
    ∀ (k : Nat) (p : List Nat) (b : List Nat) (W : World) (vP : Value), p.length + k = m → Beg m p → b.length ≤ 256 → OrG (canD B0 bP bB) W0 bP W vP p b →
      Calls Tryz.prog 28 #[.pointer (some ⟨bP, 0, none⟩), .pointer (some ⟨bM, 0, none⟩), .pointer (some ⟨bB, 0, none⟩), .pointer (some ⟨bF, 0, none⟩)] W fun e W' =>
        e = .returned (.tuple #[]) ∧ ∃ vP', OrG (canD B0 bP bB) W0 bP W' vP' p (walkD m l k b p) := by
  have KD := canD_kp (B0 := B0) hne
  intro k
  induction k with
  | zero =>
    intro p b W vP hpk hbg hbl hS
    have hp : p.length = m := by omega
    have hpm : ((p.length : Int) == (m : Int)) = true := by rw [hp]; simp
    have hp8 : p.length ≤ 8 := by omega
    obtain ⟨r0, r1, -, r3⟩ := RD W hS.sv
    have R1 := hid (Renamed_ok m v vP l p W hm hf r3 (hS.op.ints (by omega)) hbg hp)
    have hrl : (renL m p l).length ≤ 256 := fam_len hm (ren_fam m p l)
    obtain ⟨pa, pc, hvp⟩ := ownsRow_form' hS.op
    subst hvp
    obtain ⟨a0, cap, hv, -, -⟩ := r3.nats
    subst hv
    have k0 := hS.bp.cell
    have HS := hid hS
    have HW : Hid (walkD m l 0 b p = if cmpL (renL m p l) b < 0 then renL m p l else b) := rfl
    obtain ⟨Rz, HRz⟩ : ∃ Rz, Hid (walkD m l 0 b p = Rz) := ⟨_, Eq.refl (walkD m l 0 b p)⟩
    rw [HRz.out]
    rw [HW.out] at HRz
    clear hS RD hbg hf hp hpk r3 HW
    generalize renL m p l = rl at *
    go_enter Tryz.func28, Tryz.ntmps28
    go_wp2_with fail
    refine R1.out.mono ?_
    rintro e w2 ⟨r, rfl, ho2, hb2⟩
    have S2 := hid (HS.out.below KD hb2)
    obtain ⟨j1, rb, j2, j3, j4⟩ := S2.out.st
    have C1 := hid (Compare_any r rb rl b w2 (ho2.ints (by omega)) (j3.ints (by omega)))
    obtain ⟨ra, rc, hr⟩ := ownsRow_form' ho2
    subst hr
    obtain ⟨qa, qc, hq⟩ := ownsRow_form' j3
    subst hq
    have k1 := j2.cell
    have k2 := j2.frozen
    have HST := hid (can_set HS.out hne hB h0 hb2 ho2)
    have hfd := fun w => field_bases m ra rl.length rc w
    clear R1 j1 j2 j3 j4 ho2 hb2 k0 r0 r1
    by_cases hc : cmpL rl b < 0
    · have hc' : (cmpL rl b : Int) < 0 := hc
      have HR2 : Hid (rl = Rz) := by show _ = _; rw [← HRz.out, if_pos hc]
      clear hc HRz
      generalize cmpL rl b = cq at *
      go_wp2_with fail
      refine C1.out.mono ?_
      rintro e w' ⟨rfl, hw'⟩
      obtain rfl := hw'.symm
      clear C1 hfd
      go_wp2_with fail
      refine bodyPost_ret (v := .tuple #[]) ?_ rfl ⟨rfl, _, by rw [← HR2.out]; exact HST.out⟩
      simp [results, Tryz.f28, go_sem]
    · have hc' : ¬ (cmpL rl b : Int) < 0 := hc
      have HR2 : Hid (b = Rz) := by show _ = _; rw [← HRz.out, if_neg hc]
      clear hc HRz
      generalize cmpL rl b = cq at *
      go_wp2_with fail
      refine C1.out.mono ?_
      rintro e w' ⟨rfl, hw'⟩
      obtain rfl := hw'.symm
      clear C1 hfd
      go_wp2_with fail
      refine bodyPost_ret (v := .tuple #[]) ?_ rfl ⟨rfl, _, by rw [← HR2.out]; exact S2.out⟩
      simp [results, Tryz.f28, go_sem]
  | succ k ih =>
    intro p b W vP hpk hbg hbl hS
    have hp : p.length < m := by omega
    have hpm : ((p.length : Int) == (m : Int)) = false := by rw [beq_eq_false_iff_ne]; omega
    have hp8 : p.length ≤ 8 := by omega
    rw [walkD_succ]
    obtain ⟨R, HR⟩ : ∃ R, Hid ((List.range m).reverse.foldl (stepD m l k p) b = R) := ⟨_, Eq.refl ((List.range m).reverse.foldl (stepD m l k p) b)⟩
    rw [HR.out]
    have HLN : Hid (∀ i bc, i < m → i ∉ p → bc.length ≤ 256 → (walkD m l k bc (p ++ [i])).length ≤ 256) := fun i bc hi hn hl => walkD_len hf (walkD_spec m l k bc (p ++ [i]) (hbg.snoc hi hn) (by rw [List.length_append]; simp only [List.length_singleton]; omega)) hl (fam_len hm hf)
    have IH := hid (fun i bc W vP (hi : i < m) (hm2 : i ∉ p) (hl : bc.length ≤ 256) hS => ih (p ++ [i]) bc W vP (by rw [List.length_append]; simp only [List.length_singleton]; omega) (hbg.snoc hi hm2) hl hS)
    obtain ⟨i0, hi0, hz0, hz1, hz2⟩ := info_parts Tryz.infoInt
    obtain ⟨r0, r1, r2, -⟩ := RD W hS.sv
    have k0 := hS.bp.cell
    have HS := hid hS
    have HRD := hid RD
    obtain ⟨pa, pc, hvp⟩ := ownsRow_form' hS.op
    subst hvp
    have hm1 : wrap64 ((m : Int) - 1) = (m : Int) - 1 := by rw [← IntWalk.i64_left, show ((m : Int) - 1) = ((m - 1 : Nat) : Int) by omega]; exact wrap_i64_nat _ (by omega)
    clear hS ih hbg hpk hf RD
    go_enter Tryz.func28, Tryz.ntmps28
    go_wp2_with fail
    clear hm1
    go_loopw [5] (fun jx wr => ∃ (i : Nat) (vP' : Value) (bc : List Nat), i ≤ m ∧ jx = .int .i64 ((i : Int) - 1) ∧ bc.length ≤ 256 ∧ Hid (OrG (canD B0 bP bB) W0 bP wr vP' p bc) ∧ Hid ((List.range i).reverse.foldl (stepD m l k p) bc = R)) (fun jx _ => (intOf jx + 1).toNat)
    case atStart => exact ⟨m, _, b, Nat.le_refl _, rfl, hbl, HS, HR⟩
    case round =>
      obtain ⟨i, vP', bc, hi, rfl, hbc, HSr, HLr⟩ := hrel
      clear HS HR r0 r1 r2 k0
      obtain ⟨pa2, pc2, hvp⟩ := ownsRow_form' HSr.out.op
      subst hvp
      obtain ⟨-, -, r2, -⟩ := HRD.out wr HSr.out.sv
      have k0 := HSr.out.bp.cell
      have k1 := HSr.out.bp.frozen
      rcases i with _ | i
      · have hlt' : ¬ ((0 : Nat) : Int) - 1 ≥ 0 := by omega
        have HL2 : Hid (bc = R) := HLr.out
        clear HLr IH HLN HRD
        go_wp2_with fail
        go_end0
        exact ⟨rfl, _, by rw [← HL2.out]; exact HSr.out⟩
      · have him : i < m := by omega
        have hlt' : (((i + 1 : Nat) : Int) - 1) = (i : Int) := by omega
        rw [hlt']
        clear hlt'
        have hge : (i : Int) ≥ 0 := by omega
        have hmeas : ((i : Int) - 1 + 1).toNat < ((i : Int) + 1).toNat := by omega
        rw [rev_step] at HLr
        have C1 := hid (Contains_any _ p i wr (HSr.out.op.ints (by omega)))
        have hdec : wrap64 ((i : Int) - 1) = (i : Int) - 1 := by
          rcases i with _ | i
          · decide +kernel
          · rw [← IntWalk.i64_left, show (((i + 1 : Nat) : Int) - 1) = (i : Int) by omega]; exact wrap_i64_nat _ (by omega)
        have HDC := hid hdec
        clear hdec
        by_cases hmem : i ∈ p
        · rw [show memB i p = true from decide_eq_true hmem] at C1
          have HL2 : Hid ((List.range i).reverse.foldl (stepD m l k p) bc = R) := by
            show _ = _
            rw [← HLr.out, show stepD m l k p bc i = bc from if_pos hmem]
          clear HLr hmem IH HRD HLN
          go_wp2_with fail
          refine C1.out.mono ?_
          rintro e w' ⟨rfl, hw'⟩
          obtain rfl := hw'.symm
          have hdec := HDC.out
          go_wp2_with fail
          go_roundw
          case rel => exact ⟨i, _, bc, by omega, rfl, hbc, HSr, HL2⟩
          case measure => exact hmeas
        · rw [show memB i p = false from decide_eq_false hmem] at C1
          have I1 := hid (fun W vP hS => IH.out i bc W vP him hmem hbc hS)
          have hln := HLN.out i bc him hmem hbc
          rw [show stepD m l k p bc i = walkD m l k bc (p ++ [i]) from if_neg hmem] at HLr
          clear hmem IH HLN
          go_wp2_with fail
          refine C1.out.mono ?_
          rintro e w' ⟨rfl, hw'⟩
          obtain rfl := hw'.symm
          have S2 := HSr
          generalize wr = W2 at *
          clear HSr C1 r2
          have b1 : Below W2.heap.size W2 (W2.alloc (.cells #[.int .i64 i] 3)) := (Below.refl _ _).alloc (Nat.le_refl _) _
          have T1 := hid (S2.out.below KD b1)
          have hc1 : (W2.alloc (.cells #[.int .i64 i] 3)).cell? ⟨W2.heap.size, 0, none⟩ = some (.int .i64 i) := (Boxed.new W2 3 _).cell
          have z1 := World.size_alloc W2 (.cells #[.int .i64 i] 3)
          have ht1 := T1.out.sv.size
          have OP1 : Hid ((W2.alloc (.cells #[.int .i64 i] 3)).ownsRow W0.heap.size 3 1 (.slice pa2 p.length pc2) p.length (V p)) := T1.out.op
          have hP := hB.2
          have NX : Hid (∀ v' w', w'.ownsRow W0.heap.size 3 1 v' (p.length + 1) (V p ++ [.int .i64 i]) → (W2.alloc (.cells #[.int .i64 i] 3)).grownBy w' (Value.slice pa2 p.length pc2).ownBlock → (v'.ownBlock = (Value.slice pa2 p.length pc2).ownBlock ∨ v'.ownBlock = some (W2.alloc (.cells #[.int .i64 i] 3)).heap.size) → (w'.cell? ⟨bP, 0, none⟩ = some (.slice pa2 p.length pc2) ∧ w'.frozen? ⟨bP, 0, none⟩ = false) ∧ Hid (OrG (canD B0 bP bB) W0 bP (w'.setCell ⟨bP, 0, none⟩ v') v' (p ++ [i]) bc)) := fun v' w' h1 h2 h3 => by
            have hsv : Save (fun g => (Value.slice pa2 p.length pc2).ownBlock = some g) (W2.alloc (.cells #[.int .i64 i] 3)) w' := Save.of_grown h2 (fun k e => e)
            have hbp : Boxed w' bP 22 (.slice pa2 p.length pc2) := (hsv.block bP (by omega) (fun e => by have := (World.ownsRow.lt T1.out.op bP e).1; omega)).trans T1.out.bp
            refine ⟨⟨hbp.cell, hbp.frozen⟩, T1.out.turn KD hP hsv (Own.snoc h1) ?_⟩
            rcases h3 with h3 | h3
            · exact .inl h3
            · exact .inr ⟨_, h3, Nat.le_refl _⟩
          clear b1
          go_wp2_with (at_builtin; refine wpList_app1 rfl (.tmp 31) (.tmp 33) rfl rfl rfl Tryz.underlying22 hi0 hz0 rfl hz1 (by rw [hz2]; decide) OP1.out hc1 rfl (by omega) (by omega) ?_)
          intro v' w' h1 h2 h3
          obtain ⟨⟨q0, q1⟩, HT2⟩ := NX.out v' w' h1 h2 (by rw [World.size_alloc]; exact h3)
          have I2 := hid (I1.out _ _ HT2.out)
          obtain ⟨va, vn, vc, hv'⟩ : ∃ a n c, v' = .slice a n c := by
            rcases h1.2 with ⟨rfl, _⟩ | ⟨g, cap, cur, rfl, _⟩
            · exact ⟨_, _, _, rfl⟩
            · exact ⟨_, _, _, rfl⟩
          subst hv'
          have k2 := (HRD.out _ HT2.out.sv).f0
          generalize walkD m l k bc (p ++ [i]) = Y at *
          clear h1 h2 h3 NX OP1 T1 hc1 I1 S2 k0 k1
          go_wp2_with fail
          refine I2.out.mono ?_
          rintro e w4 ⟨rfl, vP4, hT4⟩
          obtain ⟨g, gc, hv4⟩ := Go.Joins.ownsRow_form hT4.op (by simp)
          rw [show (p ++ [i]).length = p.length + 1 by simp] at hv4
          subst hv4
          have hcap := hT4.op.capL
          have hof : Own W0.heap.size w4 (.slice (some ⟨g, 0, none⟩) p.length gc) p := Own.front (q := [i]) (by have := hT4.op; rwa [show (p ++ [i]).length = p.length + 1 by simp])
          have T5 := hid (hT4.turn (W' := w4) KD hP (Save.refl _ _) hof (.inl rfl))
          have k4 := hT4.bp.cell
          have k5 := hT4.bp.frozen
          have hl1 : p.length ≤ gc := by omega
          clear I2 HT2 hT4 hof k2 q0 q1 hcap HRD
          have hdec := HDC.out
          go_wp2_with fail
          go_roundw
          case rel => exact ⟨i, _, Y, by omega, rfl, hln, T5, HLr⟩
          case measure => exact hmeas
/-- append(nil, a list's all). -/
theorem wpList_copyI {w : World} {l : List Nat} {lb lo c : Nat} {ops : Array Oper} {rest : List Oper} {o : Oper} {a : Act} {Q : Exit → Act → World → Prop} (hgd : o.guard = none) (x : Operand)
    (ho : o.op = .call { callee := .builtin .append, args := #[.const (.slice none 0 0), x], argTypes := #[22, 22] }) (hx : a.eval x = .slice (some ⟨lb, lo, none⟩) l.length c) (hc : ∀ i, i < l.length → w.cell? ⟨lb, lo + i, none⟩ = some (.int .i64 (l.getD i 0 : Nat))) (hl : l.length ≤ 256)
    (hK : ∀ v' w', Own w.heap.size w' v' l → w.grownBy w' none → wpList Tryz.prog ops Q rest (a.put o.dst v') w') : wpList Tryz.prog ops Q (o :: rest) a w := by
  refine wpList_plain hgd fun K hk => ?_
  obtain ⟨i0, hi, hz0, hz1, hz2⟩ := info_parts Tryz.infoInt
  obtain ⟨v', w', hrun, r1, r2, -⟩ := run_append_own (P := Tryz.prog) w w.heap.size 22 o.type 3 i0 (.int .i64 0) 1 8 Tryz.underlying22 hi hz0 hz1 hz2 rfl (by decide) (.slice none 0 0) 0 [] (World.ownsRow_nil _ _ _ _) ⟨lb, lo, none⟩ l.length c (V l)
    (by rw [V_len, Nat.mul_one]) (fun j u hu => by
      have hj : j < (V l).length := (List.getElem?_eq_some_iff.1 hu).1
      rw [V_len] at hj
      rw [← hu]
      have e : (V l)[j]? = some (.int .i64 (l.getD j 0 : Nat)) := by simp [V, List.getD, hj]
      rw [e, ← hc j hj]
      simp only [Addr.add]
      split
      · rename_i e; simp_all
      · simp)
    (fun u hu => by obtain ⟨x, _, rfl⟩ := List.mem_map.1 hu; rfl) (by unfold maxLen; omega) (by omega) (Nat.le_refl _)
  have hn : a.eval (.const (.slice none 0 0)) = .slice none 0 0 := rfl
  unfold Oper.wp
  simp [execOp, ho, resolve, invoke, builtin, hn, hx, hrun, Result.andThen]
  refine hk _ _ (hK v' w' ?_ r2)
  unfold Own
  rw [Nat.zero_add, List.nil_append] at r1
  exact r1
set_option maxRecDepth 20000 in
set_option maxHeartbeats 2000000 in
theorem CanonR_ok (m : Nat) (v : Value) (l : List Nat) (w : World) (hm : m ≤ 8) (hf : Fam m l) (hb : Bas l) (h : Ints w v (N l)) :
    Calls Tryz.prog 8 #[.agg #[.int .i64 m, v]] w fun e w' => ∃ r, e = .returned (.agg #[.int .i64 m, r]) ∧ Own w.heap.size w' r (canL m l) ∧ Below w.heap.size w w' := by
  have hll := fam_len hm hf
  have hpos : 0 < l.length := List.length_pos_iff.2 hb.ne
  have HV := hid h
  obtain ⟨a0, cap, hv, -, hcl⟩ := h.nats
  subst hv
  obtain ⟨lb, lo, rfl, hlb, hcell⟩ := hcl hpos
  have HF := hid hf
  have hsf := fun (a : Addr) (c : Array Value) (w : World) => run_store Tryz.prog w a (.func (.func 28) #[] c) .plain rfl
  have B0 := boxM_below w m (.slice (some ⟨lb, lo, none⟩) l.length cap)
  obtain ⟨y0, y1⟩ := boxM_blocks (Below.refl _ (boxM w m (.slice (some ⟨lb, lo, none⟩) l.length cap)))
  have hz := boxM_size w m (.slice (some ⟨lb, lo, none⟩) l.length cap)
  have hw2 : (w.alloc (.cells #[.int .i64 m, .slice (some ⟨lb, lo, none⟩) l.length cap] 24)).alloc (.cells #[.int .i64 0, .slice none 0 0] 24) = boxM w m (.slice (some ⟨lb, lo, none⟩) l.length cap) := rfl
  generalize boxM w m (.slice (some ⟨lb, lo, none⟩) l.length cap) = W2 at *
  have HC : Hid (∀ i, i < l.length → W2.cell? ⟨lb, lo + i, none⟩ = some (.int .i64 (l.getD i 0 : Nat))) := fun i hi => (B0.cell (p := ⟨lb, lo + i, none⟩) hlb).trans (hcell i hi)
  obtain ⟨x0, x1⟩ := cells2 y0
  have Y0 := hid y0
  have Y1 := hid y1
  have HB0 := hid B0
  clear hf hb h hcl hcell y0 y1 B0
  go_enter Tryz.func8, Tryz.ntmps8
  go_wp2_with (at_builtin; refine wpList_copyI rfl (.tmp 7) rfl rfl HC.out hll ?_)
  intro vB w3 hoB hg3
  have b3 := grown_below hg3
  have HO3 := hid hoB
  have HB3 := hid b3
  obtain ⟨ra, rc, hr⟩ := ownsRow_form' hoB
  subst hr
  obtain ⟨e0, e1, e2⟩ := three w3 (.cells #[.slice ra l.length rc] 22) (.cells #[.slice none 0 0] 22) (.cells #[(.func (.func 28) #[] #[.pointer (some ⟨w3.heap.size + 1, 0, none⟩), .pointer (some ⟨w.heap.size, 0, none⟩), .pointer (some ⟨w3.heap.size, 0, none⟩), .pointer (some ⟨w3.heap.size + 1 + 1, 0, none⟩)])] 1)
  have bE : Below w3.heap.size w3 (((w3.alloc (.cells #[.slice ra l.length rc] 22)).alloc (.cells #[.slice none 0 0] 22)).alloc (.cells #[(.func (.func 28) #[] #[.pointer (some ⟨w3.heap.size + 1, 0, none⟩), .pointer (some ⟨w.heap.size, 0, none⟩), .pointer (some ⟨w3.heap.size, 0, none⟩), .pointer (some ⟨w3.heap.size + 1 + 1, 0, none⟩)])] 1)) := (((Below.refl _ _).alloc (Nat.le_refl _) _).alloc (by simp) _).alloc (by simp; omega) _
  have zE : (((w3.alloc (.cells #[.slice ra l.length rc] 22)).alloc (.cells #[.slice none 0 0] 22)).alloc (.cells #[(.func (.func 28) #[] #[.pointer (some ⟨w3.heap.size + 1, 0, none⟩), .pointer (some ⟨w.heap.size, 0, none⟩), .pointer (some ⟨w3.heap.size, 0, none⟩), .pointer (some ⟨w3.heap.size + 1 + 1, 0, none⟩)])] 1)).heap.size = w3.heap.size + 3 := by simp
  have hs3 : w.heap.size + 2 ≤ w3.heap.size := by rw [← hz]; exact b3.size
  generalize hWE : (((w3.alloc (.cells #[.slice ra l.length rc] 22)).alloc (.cells #[.slice none 0 0] 22)).alloc (.cells #[(.func (.func 28) #[] #[.pointer (some ⟨w3.heap.size + 1, 0, none⟩), .pointer (some ⟨w.heap.size, 0, none⟩), .pointer (some ⟨w3.heap.size, 0, none⟩), .pointer (some ⟨w3.heap.size + 1 + 1, 0, none⟩)])] 1)) = WE at *
  have f9 := Boxed.cell (show Boxed WE (w3.heap.size + 1 + 1) 1 _ from e2)
  have C1 := canR_ok (w.heap.size + 2) (w3.heap.size + 1) w.heap.size w3.heap.size (w3.heap.size + 1 + 1) WE m (.slice (some ⟨lb, lo, none⟩) l.length cap) l hm HF.out (by omega) (by omega) (by omega)
    (fun W hS => by
      have hk : ∀ k, k < w3.heap.size → W.heap[k]? = w3.heap[k]? := fun k hk => (hS.block k (by omega) (by omega)).trans (bE.block k hk)
      obtain ⟨c0, c1⟩ := cells2 ((hk w.heap.size (by omega)).trans ((b3.block _ (by omega)).trans Y0.out))
      refine ⟨c0, c1, Boxed.cell ((hS.block _ (by omega) (by omega)).trans e2), HV.out.below ?_⟩
      exact hS.below (HB0.out.trans ((b3.mono (by omega)).trans (bE.mono (by omega)))) (by omega) (fun k e => by omega))
    m [] l WE (.slice none 0 0) (by simp) (beg_nil m) hll
    ⟨Save.refl _ _, e1, Own.nil _ _, (fun e => by cases e), .slice ra l.length rc, e0, (HO3.out.mono (by omega)).below bE, fun g hg => ⟨(fun e => by cases e), by have := (World.ownsRow.lt HO3.out g hg).2; omega, by have := (World.ownsRow.lt HO3.out g hg).2; omega⟩⟩
  rw [canD_eq HF.out] at C1
  have HC1 := hid C1
  have YE0 := hid ((bE.block _ (by omega)).trans ((b3.block _ (by omega)).trans Y0.out))
  have YE1 := hid ((bE.block _ (by omega)).trans ((b3.block _ (by omega)).trans Y1.out))
  have BE := hid (HB0.out.trans ((b3.mono (by omega)).trans (bE.mono (by omega))))
  clear hoB hg3 b3 x0 x1 HC hw2 C1 e0 e1 e2 bE
  obtain ⟨RL, HRL⟩ : ∃ RL, Hid (canL m l = RL) := ⟨_, Eq.refl (canL m l)⟩
  rw [HRL.out] at HC1
  go_wp2_with fail
  refine HC1.out.mono ?_
  rintro e w5 ⟨rfl, vP', hS5⟩
  obtain ⟨-, rB, j2, j3, j4⟩ := hS5.st
  obtain ⟨qa, qc, hq⟩ := ownsRow_form' j3
  subst hq
  have k0 := j2.cell
  have hsv := hS5.sv
  have n0 := (hsv.block w.heap.size (by omega) (by show ¬ (w.heap.size = w3.heap.size + 1 ∨ w.heap.size = w3.heap.size); omega)).trans YE0.out
  have n1 := (hsv.block (w.heap.size + 1) (by omega) (by show ¬ (w.heap.size + 1 = w3.heap.size + 1 ∨ w.heap.size + 1 = w3.heap.size); omega)).trans YE1.out
  have B5 := hsv.below BE.out (by omega) (fun k e => by
    have : k = w3.heap.size + 1 ∨ k = w3.heap.size := e
    omega)
  obtain ⟨x0, x1⟩ := cells2 n0
  obtain ⟨q0, q1, q2, q3⟩ := two_cells n1
  have HC := hid (set_two (x := .int .i64 m) (y := .slice qa RL.length qc) n1)
  have HD := hid (below_two (b := w.heap.size + 1) (x := .int .i64 m) (y := .slice qa RL.length qc) B5 (by omega))
  have HO5 := hid ((j3.set2 (b := w.heap.size + 1) (x := .int .i64 m) (y := .slice qa RL.length qc) (by omega)).mono (by omega : w.heap.size ≤ _))
  clear hS5 j2 j3 j4 hsv n0 n1 B5 HC1 f9
  go_wp2_with fail
  obtain ⟨c0, c1⟩ := HC.out
  refine bodyPost_ret (v := .agg #[.int .i64 m, .slice qa RL.length qc]) ?_ rfl ⟨_, rfl, by rw [HRL.out]; exact HO5.out, HD.out⟩
  simp [results, Tryz.f8, go_sem, c0, c1]
end Go.Proofs.YthlmnhcnpffjdaaGreat
