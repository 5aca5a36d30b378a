/- append and which block it hands back; lists of lists. -/
import Derived.Test.YthlmnhcnpffjdaaOrdNQ
import Derived.Test.YthlmnhcnpffjdaaRefQ
import Derived.Test.YthlmnhcnpffjdaaPlainAll
import Derived.Test.YthlmnhcnpffjdaaThoseQ
namespace Go.Proofs.Ythlmnhcnpffjdaa
open Go.RowKit

/-- An append of one cell hands back the block that there was, or a new one. -/
theorem run_app1 {P : Program} (w : World) (base : Nat) (t ty e : TypeId) (i : TypeInfo) (z : Value) (ht : P.underlying t = some (.slice e)) (hi : P.info? e = some i) (hz : i.zero = some z) (hzs : z.cells.size = 1) (hsize : i.size = 1) (hby : i.bytes ≤ 24)
    (v : Value) (n : Nat) (xs : List Value) (hown : w.ownsRow base e 1 v n xs) (b : Nat) (x : Value) (hx : w.cell? ⟨b, 0, none⟩ = some x) (h1 : x.oneCell' = true) (hn : n ≤ 100000) (hB : base ≤ w.heap.size) :
    ∃ v' w', (Builtin.append_ #[t, t] ty #[v, .slice (some ⟨b, 0, none⟩) 1 1]).run P w = .ok v' w' ∧ w'.ownsRow base e 1 v' (n + 1) (xs ++ [x]) ∧ w.grownBy w' v.ownBlock ∧ (v'.ownBlock = v.ownBlock ∨ v'.ownBlock = some w.heap.size) := by
  have hcell : ∀ j u, [x][j]? = some u → w.cell? ((⟨b, 0, none⟩ : Addr).add j) = some u := fun j u hu => by
    have hj : j < 1 := (List.getElem?_eq_some_iff.1 hu).1
    obtain rfl : j = 0 := by omega
    simp only [List.getElem?_cons_zero] at hu
    rw [← hu, ← hx]
    simp [Addr.add]
  have hone : ∀ u ∈ [x], u.oneCell' = true := by intro u hu; simp at hu; subst hu; exact h1
  have hbb : (n + 1) * i.bytes ≤ 140737488355328 := Nat.le_trans (Nat.mul_le_mul_left _ hby) (by omega)
  obtain ⟨v', w', hrun, r1, r2, _⟩ := run_append_own (P := P) w base t ty e i z 1 i.bytes ht hi hz hsize rfl hzs (by decide) v n xs hown ⟨b, 0, none⟩ 1 1 [x] rfl hcell hone (by unfold maxLen; omega) hbb hB
  refine ⟨v', w', hrun, r1, r2, ?_⟩
  have hl1 : [x].length = 1 * i.size := by rw [hsize]; rfl
  rcases hown.2 with ⟨rfl, rfl⟩ | ⟨g, cap, cur, rfl, hbg, hg, hnc, hcm, hcs, htake⟩
  · have hr := run_append_nil (P := P) w t ty e i z ht hi hz ⟨b, 0, none⟩ 1 1 [x] hl1 hcell (by decide) (by decide) (by omega)
    rw [hrun] at hr
    cases hr
    exact .inr rfl
  · by_cases hroom : n + 1 ≤ cap
    · have hr := run_append_room (P := P) w t ty e i ht hi g n cap cur hg ⟨b, 0, none⟩ 1 1 [x] hl1 hcell hone hroom (by rw [hsize, hcs]; simp; omega)
      rw [hrun] at hr
      cases hr
      exact .inl rfl
    · have holds : ∀ j u, xs[j]? = some u → w.cell? ((⟨g, 0, none⟩ : Addr).add j) = some u := hown.cells (g := g) rfl
      have hr := run_append_grow (P := P) w t ty e i z ht hi hz ⟨g, 0, none⟩ n cap xs (by rw [hsize]; exact hown.1) holds ⟨b, 0, none⟩ 1 1 [x] hl1 hcell (by omega) (by omega) (growslice_fits (by omega) hbb)
      rw [hrun] at hr
      cases hr
      exact .inr rfl
theorem wpList_app1 {P : Program} {w : World} {base : Nat} {t e : TypeId} {i : TypeInfo} {z : Value} {v : Value} {n : Nat} {xs : List Value} {b : Nat} {x : Value} {ops : Array Oper} {rest : List Oper} {o : Oper} {a : Act} {Q : Exit → Act → World → Prop} (hgd : o.guard = none) (s y : Operand)
    (ho : o.op = .call { callee := .builtin .append, args := #[s, y], argTypes := #[t, t] }) (hs : a.eval s = v) (hy : a.eval y = .slice (some ⟨b, 0, none⟩) 1 1)
    (ht : P.underlying t = some (.slice e)) (hi : P.info? e = some i) (hz : i.zero = some z) (hzs : z.cells.size = 1) (hsize : i.size = 1) (hby : i.bytes ≤ 24)
    (hown : w.ownsRow base e 1 v n xs) (hx : w.cell? ⟨b, 0, none⟩ = some x) (h1 : x.oneCell' = true) (hn : n ≤ 100000) (hB : base ≤ w.heap.size)
    (hK : ∀ v' w', w'.ownsRow base e 1 v' (n + 1) (xs ++ [x]) → w.grownBy w' v.ownBlock → (v'.ownBlock = v.ownBlock ∨ v'.ownBlock = some w.heap.size) → wpList P ops Q rest (a.put o.dst v') w') : wpList P ops Q (o :: rest) a w := by
  refine wpList_plain hgd fun K hk => ?_
  obtain ⟨v', w', hrun, r1, r2, r3⟩ := run_app1 (P := P) w base t o.type e i z ht hi hz hzs hsize hby v n xs hown b x hx h1 hn hB
  unfold Oper.wp
  simp [execOp, ho, resolve, invoke, builtin, hs, hy, hrun, Result.andThen]
  exact hk _ _ (hK v' w' r1 r2 r3)
/-- A list of lists of the call's own, none of whose blocks is one of X. -/
def LL (B : Nat) (X : Nat → Prop) (W : World) (v : Value) (Ls : List (List Nat)) : Prop :=
  ∃ vs : List Value, vs.length = Ls.length ∧ W.ownsRow B 22 1 v vs.length vs ∧ (∀ g, v.ownBlock = some g → ¬ X g) ∧
    ∀ j, j < Ls.length → Own B W (vs.getD j undef) (Ls.getD j []) ∧ (∀ g, (vs.getD j undef).ownBlock = some g → ¬ X g ∧ v.ownBlock ≠ some g)
theorem LL.nil (B : Nat) (X : Nat → Prop) (W : World) : LL B X W (.slice none 0 0) [] := ⟨[], rfl, World.ownsRow_nil _ _ _ _, (fun g e => by cases e), fun j h => absurd h (Nat.not_lt_zero _)⟩
theorem own_save {B : Nat} {X : Nat → Prop} {a b : World} {e : TypeId} {v : Value} {n : Nat} {vs : List Value} (h : a.ownsRow B e 1 v n vs) (hs : Save X a b) (hg : ∀ g, v.ownBlock = some g → ¬ X g) : b.ownsRow B e 1 v n vs := by
  refine ⟨h.1, ?_⟩
  rcases h.2 with hn | ⟨g, cap, cur, rfl, hb, hgg, rest⟩
  · exact .inl hn
  · exact .inr ⟨g, cap, cur, rfl, hb, (hs.block g (Array.getElem?_eq_some_iff.1 hgg).1 (hg g rfl)).trans hgg, rest⟩
theorem Own.saveV2 {X : Nat → Prop} {B : Nat} {a b : World} {v : Value} {l : List Nat} (h : Own B a v l) (hs : Save X a b) (hg : ∀ g, v.ownBlock = some g → ¬ X g) : Own B b v l := own_save h hs hg
/-- It stays while the blocks of X change. -/
theorem LL.save {B : Nat} {X Y : Nat → Prop} {W W' : World} {v : Value} {Ls : List (List Nat)} (h : LL B X W v Ls) (hs : Save Y W W') (hY : ∀ k, Y k → X k ∨ k < B) : LL B X W' v Ls := by
  obtain ⟨vs, h1, h2, h3, h4⟩ := h
  have hn : ∀ g, v.ownBlock = some g → ¬ Y g := fun g hg hy => by
    rcases hY g hy with h | h
    · exact h3 g hg h
    · have := (World.ownsRow.lt h2 g hg).1; omega
  refine ⟨vs, h1, own_save h2 hs hn, h3, fun j hj => ?_⟩
  obtain ⟨h5, h6⟩ := h4 j hj
  exact ⟨h5.saveV2 hs (fun g hg hy => by
    rcases hY g hy with h | h
    · exact (h6 g hg).1 h
    · have := (World.ownsRow.lt h5 g hg).1; omega), h6⟩
theorem LL.other {B : Nat} {X Y : Nat → Prop} {W : World} {v : Value} {Ls : List (List Nat)} (h : LL B X W v Ls) (hY : ∀ k, Y k → X k ∨ W.heap.size ≤ k) : LL B Y W v Ls := by
  obtain ⟨vs, h1, h2, h3, h4⟩ := h
  refine ⟨vs, h1, h2, fun g hg hy => ?_, fun j hj => ?_⟩
  · rcases hY g hy with h | h
    · exact h3 g hg h
    · have := (World.ownsRow.lt h2 g hg).2; omega
  · obtain ⟨h5, h6⟩ := h4 j hj
    refine ⟨h5, fun g hg => ⟨fun hy => ?_, (h6 g hg).2⟩⟩
    rcases hY g hy with h | h
    · exact (h6 g hg).1 h
    · have := (World.ownsRow.lt h5 g hg).2; omega
end Go.Proofs.Ythlmnhcnpffjdaa

namespace Go.Proofs.Ythlmnhcnpffjdaa
open Go.RowKit

/-- How a list of lists is read. -/
def LLr (W : World) (v : Value) (Ls : List (List Nat)) : Prop := ∃ a cap, v = .slice a Ls.length cap ∧ (0 < Ls.length → ∃ g, a = some ⟨g, 0, none⟩ ∧ g < W.heap.size ∧ ∀ k, k < Ls.length → ∃ u, W.cell? ⟨g, k, none⟩ = some u ∧ Ints W u (N (Ls.getD k [])))
theorem LL.read {B : Nat} {X : Nat → Prop} {W : World} {v : Value} {Ls : List (List Nat)} (h : LL B X W v Ls) (hl : ∀ L ∈ Ls, L.length ≤ 256) : LLr W v Ls := by
  obtain ⟨vs, h1, h2, h3, h4⟩ := h
  have h0 := h2
  rcases h2.2 with ⟨rfl, hn⟩ | ⟨g, cap, cur, rfl, hb, hgg, hc1, hc2, hc3, htk⟩
  · refine ⟨none, 0, by rw [← h1, hn], fun hp => ?_⟩
    omega
  · refine ⟨some ⟨g, 0, none⟩, cap, by rw [h1], fun _ => ⟨g, rfl, (Array.getElem?_eq_some_iff.1 hgg).1, fun k hk => ?_⟩⟩
    have hc := World.ownsRow.cellAt h0 k (by rw [Nat.mul_one]; omega)
    have hk2 : k < vs.length := by omega
    refine ⟨vs.getD k undef, by rw [hc]; simp [List.getD, hk2], (h4 k hk).1.ints ?_⟩
    have := hl (Ls.getD k []) (by simp [List.getD, hk])
    omega
theorem LLr.below {W W' : World} {v : Value} {Ls : List (List Nat)} (h : LLr W v Ls) (hb : Below W.heap.size W W') : LLr W' v Ls := by
  obtain ⟨a, cap, rfl, h1⟩ := h
  refine ⟨a, cap, rfl, fun hp => ?_⟩
  obtain ⟨g, rfl, hg, h2⟩ := h1 hp
  refine ⟨g, rfl, Nat.lt_of_lt_of_le hg hb.size, fun k hk => ?_⟩
  obtain ⟨u, h3, h4⟩ := h2 k hk
  exact ⟨u, (hb.cell (p := ⟨g, k, none⟩) hg).trans h3, h4.below hb⟩
set_option maxHeartbeats 800000 in
theorem hasF_ok (y r : Value) (L D : List Nat) (m : Int) (bX : Nat) (W : World) (hy : Ints W y (N L)) (hx : W.heap[bX]? = some (.cells #[.int .i64 m, r] 24 (0, 0))) (hr : Ints W r (N D)) :
    Calls Try.prog 30 #[y, .pointer (some ⟨bX, 0, none⟩)] W fun e W' => e = .returned (.bool (decide (D = L))) ∧ Below W.heap.size W W' := by
  have S1 := hid (Same_any r y (N D) (N L) W hr hy)
  obtain ⟨c0, c1⟩ := cells2 hx
  have hd : decide (N D = N L) = decide (D = L) := by
    rw [Bool.eq_iff_iff, decide_eq_true_eq, decide_eq_true_eq]
    exact ⟨N_injO, fun e => by rw [e]⟩
  rw [hd] at S1
  obtain ⟨a, c, rfl, -, -⟩ := hy
  obtain ⟨a', c', rfl, -, -⟩ := hr
  clear hd hx
  go_enter Try.func30, Try.ntmps30
  go_wp2_with fail
  refine S1.out.mono ?_
  rintro e w2 ⟨rfl, hb2⟩
  have H2 := hid hb2
  clear hb2 S1
  go_wp2_with fail
  go_ret
  exact ⟨rfl, H2.out⟩
theorem mem_drop {D : List Nat} {Ls : List (List Nat)} {k : Nat} (h : k < Ls.length) : decide (D ∈ Ls.drop k) = (decide (D = Ls.getD k []) || decide (D ∈ Ls.drop (k + 1))) := by
  have e : Ls.getD k [] = Ls[k] := by simp [List.getD, h]
  rw [List.drop_eq_getElem_cons h, e, Bool.eq_iff_iff, Bool.or_eq_true, decide_eq_true_eq, decide_eq_true_eq, decide_eq_true_eq, List.mem_cons]
set_option maxRecDepth 20000 in
set_option maxHeartbeats 800000 in
theorem IndexLL_ok (v r : Value) (Ls : List (List Nat)) (D : List Nat) (m : Int) (bX : Nat) (w : World) (h : LLr w v Ls) (hl : Ls.length ≤ 100000) (hx : w.heap[bX]? = some (.cells #[.int .i64 m, r] 24 (0, 0))) (hr : Ints w r (N D)) :
    Calls Try.prog 63 #[v, .func (.func 30) #[] #[.pointer (some ⟨bX, 0, none⟩)]] w fun e w' => ∃ r : Int, e = .returned (.int .i64 r) ∧ decide (0 ≤ r) = decide (D ∈ Ls) ∧ Below w.heap.size w w' := by
  have HF := hid (fun y L wr (hb : Below w.heap.size w wr) (hy : Ints wr y (N L)) => hasF_ok y r L D m bX wr hy ((hb.block bX (Array.getElem?_eq_some_iff.1 hx).1).trans hx) (hr.below hb))
  have HR := hid h
  obtain ⟨a, cap, rfl, -⟩ := h
  clear hx hr
  go_enter Try.func63, Try.ntmps63
  go_wp2_with fail
  go_loopw [8] (fun i wr => ∃ k : Nat, k ≤ Ls.length ∧ i = .int .i64 k ∧ Hid (Below w.heap.size w wr) ∧ Hid (decide (D ∈ Ls) = decide (D ∈ Ls.drop k))) (fun i _ => Ls.length - (intOf i).toNat)
  case atStart => exact ⟨0, Nat.zero_le _, rfl, Below.refl _ _, rfl⟩
  case round =>
    obtain ⟨k, hk, rfl, HW, R⟩ := hrel
    by_cases hlt : k < Ls.length
    · have hmeas : Ls.length - (k + 1) < Ls.length - k := by omega
      obtain ⟨a2, c2, e2, h2⟩ := HR.out.below HW.out
      obtain ⟨rfl, rfl⟩ : a = a2 ∧ cap = c2 := by simpa using e2
      obtain ⟨g, rfl, hg, h3⟩ := h2 (by omega)
      obtain ⟨u, h4, h5⟩ := h3 k hlt
      have G := hid (HF.out u _ wr HW.out h5)
      have DD := hid (mem_drop (D := D) hlt)
      obtain ⟨ua, uc, rfl, -, -⟩ := h5
      clear h2 h3 HF
      generalize Ls.getD k [] = L at *
      rcases hq : decide (D = L) with _ | _
      · rw [hq] at G DD
        clear hq
        go_wp2_with fail
        refine G.out.mono ?_
        rintro e w1 ⟨rfl, hb1⟩
        have H1 := hid (HW.out.trans (hb1.mono HW.out.size))
        clear hb1 G
        go_wp2_with fail
        go_roundw
        case rel => exact ⟨k + 1, hlt, by go_num, H1, by show _ = _; rw [R.out, DD.out]; rfl⟩
        case measure => exact hmeas
      · rw [hq] at G DD
        clear hq
        go_wp2_with fail
        refine G.out.mono ?_
        rintro e w1 ⟨rfl, hb1⟩
        have H1 := hid (HW.out.trans (hb1.mono HW.out.size))
        clear hb1 G
        go_wp2_with fail
        go_ret
        exact ⟨_, rfl, by rw [R.out, DD.out]; simp, H1.out⟩
    · have hk2 : ¬ (k : Int) < (Ls.length : Int) := by omega
      have RR : Hid (decide (D ∈ Ls) = false) := by show _ = _; rw [R.out, List.drop_of_length_le (by omega)]; simp
      clear HF R
      go_wp2_with fail
      go_ret
      exact ⟨_, rfl, by have h9 := RR.out; rw [decide_eq_false_iff_not] at h9; simp [h9], HW.out⟩
theorem HasLL_ok (v r : Value) (Ls : List (List Nat)) (D : List Nat) (m : Int) (bX : Nat) (w : World) (h : LLr w v Ls) (hl : Ls.length ≤ 100000) (hx : w.heap[bX]? = some (.cells #[.int .i64 m, r] 24 (0, 0))) (hr : Ints w r (N D)) :
    Calls Try.prog 29 #[v, .func (.func 30) #[] #[.pointer (some ⟨bX, 0, none⟩)]] w fun e w' => e = .returned (.bool (decide (D ∈ Ls))) ∧ Below w.heap.size w w' := by
  have I1 := hid (IndexLL_ok v r Ls D m bX w h hl hx hr)
  obtain ⟨a, cap, rfl, -⟩ := h
  clear hx hr
  go_enter Try.func29, Try.ntmps29
  go_wp2_with fail
  refine I1.out.mono ?_
  rintro e w1 ⟨q, rfl, hq, hb1⟩
  have HR := hid hq
  have HB := hid hb1
  clear hq hb1 I1
  go_wp2_with fail
  go_ret
  exact ⟨ret_bool HR.out, HB.out⟩
end Go.Proofs.Ythlmnhcnpffjdaa

namespace Go.Proofs.Ythlmnhcnpffjdaa
open Go.RowKit

/-- The function value that searches: c is the block of l, behind it all, p and itself. -/
def orbV (b c : Nat) : Value := .func (.func 28) #[] #[.pointer (some ⟨c + 2, 0, none⟩), .pointer (some ⟨b, 0, none⟩), .pointer (some ⟨c + 1, 0, none⟩), .pointer (some ⟨c, 0, none⟩), .pointer (some ⟨c + 3, 0, none⟩)]
structure OrbT (w W : World) (m : Nat) (v : Value) (c : Nat) (vP vL : Value) (p : List Nat) (Ls : List (List Nat)) (n : Nat) : Prop where
  lo : w.heap.size < c
  low : Below w.heap.size w W
  top : c + 4 ≤ W.heap.size
  mat : W.heap[w.heap.size]? = some (.cells #[.int .i64 m, v] 24 (0, 0))
  cnt : Boxed W (c + 1) 3 (.int .i64 n)
  fn : Boxed W (c + 3) 50 (orbV w.heap.size c)
  bp : Boxed W (c + 2) 22 vP
  op : Own (c + 4) W vP p
  bl : Boxed W c 49 vL
  ll : LL (c + 4) (fun g => vP.ownBlock = some g) W vL Ls
  lens : ∀ L ∈ Ls, L.length ≤ 256
  few : Ls.length ≤ n
variable {w W W' : World} {m : Nat} {v : Value} {c : Nat} {vP vL : Value} {p : List Nat} {Ls : List (List Nat)} {n : Nat}
theorem OrbT.below (h : OrbT w W m v c vP vL p Ls n) (hb : Below W.heap.size W W') : OrbT w W' m v c vP vL p Ls n := by
  have ht := h.top
  have hl := h.lo
  exact ⟨hl, h.low.trans (hb.mono h.low.size), Nat.le_trans ht hb.size, (hb.block _ (by omega)).trans h.mat, (hb.block _ (by omega)).trans h.cnt, (hb.block _ (by omega)).trans h.fn, (hb.block _ (by omega)).trans h.bp, h.op.below hb, (hb.block _ (by omega)).trans h.bl, h.ll.save (Y := fun _ => False) (Save.of_below hb) (fun _ e => e.elim), h.lens, h.few⟩
theorem setC_other (W : World) {b k : Nat} (x : Value) (h : k ≠ b) : (W.setCell ⟨b, 0, none⟩ x).heap[k]? = W.heap[k]? := Below.heap_setCell W ⟨b, 0, none⟩ x k h
theorem setC_size (W : World) (b : Nat) (x : Value) : (W.setCell ⟨b, 0, none⟩ x).heap.size = W.heap.size := by simp [World.setCell]
theorem save_one (W : World) (b : Nat) (x : Value) : Save (fun k => k = b) W (W.setCell ⟨b, 0, none⟩ x) := Save.setCell (X := fun k => k = b) (Save.refl _ W) (p := ⟨b, 0, none⟩) (.inl rfl) x
theorem OrbT.count (h : OrbT w W m v c vP vL p Ls n) (n' : Nat) (hn : n ≤ n') : OrbT w (W.setCell ⟨c + 1, 0, none⟩ (.int .i64 n')) m v c vP vL p Ls n' := by
  have ht := h.top
  have hl := h.lo
  have hs := save_one W (c + 1) (.int .i64 n')
  exact ⟨hl, h.low.setCell (p := ⟨c + 1, 0, none⟩) (by show _ ≤ c + 1; omega) _, by rw [setC_size]; exact ht, (setC_other W _ (by omega)).trans h.mat, Boxed.set _ h.cnt, (setC_other W _ (by omega)).trans h.fn, (setC_other W _ (by omega)).trans h.bp, h.op.saveV2 hs (fun g hg e => by have := (World.ownsRow.lt h.op g hg).1; omega), (setC_other W _ (by omega)).trans h.bl, h.ll.save hs (fun k e => .inr (by omega)), h.lens, Nat.le_trans h.few hn⟩
/-- p is another slice now. -/
theorem OrbT.turn (h : OrbT w W m v c vP vL p Ls n) {vP' : Value} {p' : List Nat} (hs : Save (fun g => vP.ownBlock = some g) W W') (ho : Own (c + 4) W' vP' p') (hb : vP'.ownBlock = vP.ownBlock ∨ ∃ g, vP'.ownBlock = some g ∧ W.heap.size ≤ g) : OrbT w (W'.setCell ⟨c + 2, 0, none⟩ vP') m v c vP' vL p' Ls n := by
  have ht := h.top
  have hl := h.lo
  have hge : ∀ g, vP.ownBlock = some g → c + 4 ≤ g := fun g hg => (World.ownsRow.lt h.op g hg).1
  have hs2 := save_one W' (c + 2) vP'
  have hk : ∀ k, k < c + 4 → W'.heap[k]? = W.heap[k]? := fun k hk => hs.block k (by omega) (fun e => by have := hge k e; omega)
  have hlow : Below w.heap.size w W' := hs.below h.low h.low.size (fun k e => by have := hge k e; omega)
  have hll2 : LL (c + 4) (fun g => vP'.ownBlock = some g) W' vL Ls := by
    have a1 : LL (c + 4) (fun g => vP.ownBlock = some g ∨ vP'.ownBlock = some g) W vL Ls := LL.other h.ll (fun k e => by
      rcases e with e | e
      · exact .inl e
      · rcases hb with hb | ⟨g, hb, hg⟩
        · exact .inl (by rw [← hb]; exact e)
        · rw [hb] at e; cases e; exact .inr hg)
    exact LL.other (LL.save a1 hs (fun k e => .inl (.inl e))) (fun k e => .inl (.inr e))
  exact ⟨hl, hlow.setCell (p := ⟨c + 2, 0, none⟩) (by show _ ≤ c + 2; omega) _, by rw [setC_size]; exact Nat.le_trans ht hs.size, (setC_other W' _ (by omega)).trans ((hk _ (by omega)).trans h.mat), (setC_other W' _ (by omega)).trans ((hk _ (by omega)).trans h.cnt), (setC_other W' _ (by omega)).trans ((hk _ (by omega)).trans h.fn), Boxed.set vP' ((hk _ (by omega)).trans h.bp), ho.saveV2 hs2 (fun g hg e => by have := (World.ownsRow.lt ho g hg).1; omega), (setC_other W' _ (by omega)).trans ((hk _ (by omega)).trans h.bl), hll2.save hs2 (fun k e => .inr (by omega)), h.lens, h.few⟩
/-- l is longer now. -/
theorem OrbT.push (h : OrbT w W m v c vP vL p Ls n) {vs : List Value} {r vL' : Value} {D : List Nat} (h1 : vs.length = Ls.length) (h4 : ∀ j, j < Ls.length → Own (c + 4) W (vs.getD j undef) (Ls.getD j []) ∧ (∀ g, (vs.getD j undef).ownBlock = some g → ¬ vP.ownBlock = some g ∧ vL.ownBlock ≠ some g))
    (hr : Own (c + 4) W r D) (hrb : ∀ g, r.ownBlock = some g → vP.ownBlock ≠ some g ∧ vL.ownBlock ≠ some g) (hD : D.length ≤ 256) (hfew : Ls.length + 1 ≤ n) (hs : Save (fun g => vL.ownBlock = some g) W W') (hrow : W'.ownsRow (c + 4) 22 1 vL' (vs.length + 1) (vs ++ [r])) (hb : vL'.ownBlock = vL.ownBlock ∨ ∃ g, vL'.ownBlock = some g ∧ W.heap.size ≤ g) :
    OrbT w (W'.setCell ⟨c, 0, none⟩ vL') m v c vP vL' p (Ls ++ [D]) n := by
  have ht := h.top
  have hl := h.lo
  obtain ⟨us, u1, u2, u3, u4⟩ := h.ll
  have hge : ∀ g, vL.ownBlock = some g → c + 4 ≤ g := fun g hg => (World.ownsRow.lt u2 g hg).1
  have hs2 := save_one W' c vL'
  have hk : ∀ k, k < c + 4 → W'.heap[k]? = W.heap[k]? := fun k hk => hs.block k (by omega) (fun e => by have := hge k e; omega)
  have hlow : Below w.heap.size w W' := hs.below h.low h.low.size (fun k e => by have := hge k e; omega)
  have hop : Own (c + 4) W' vP p := h.op.saveV2 hs (fun g hg e => u3 g e hg)
  have hne : ∀ (x : Value) (L : List Nat) (g : Nat), Own (c + 4) W x L → x.ownBlock = some g → vL.ownBlock ≠ some g → vL'.ownBlock ≠ some g := fun x L g hx hg hn e => by
    rcases hb with hb | ⟨g2, hb, hg2⟩
    · exact hn (by rw [← hb]; exact e)
    · rw [hb] at e
      cases e
      have := (World.ownsRow.lt hx g hg).2
      omega
  have hll : LL (c + 4) (fun g => vP.ownBlock = some g) W' vL' (Ls ++ [D]) := by
    refine ⟨vs ++ [r], by simp [h1], by simpa using hrow, fun g hg hx => ?_, fun j hj => ?_⟩
    · rcases hb with hb | ⟨g2, hb, hg2⟩
      · exact u3 g (by rw [← hb]; exact hg) hx
      · rw [hb] at hg
        cases hg
        have := (World.ownsRow.lt h.op g hx).2
        omega
    · rw [List.length_append, List.length_singleton] at hj
      by_cases hlt : j < Ls.length
      · have e1 : (vs ++ [r]).getD j undef = vs.getD j undef := by simp [List.getD, List.getElem?_append_left (show j < vs.length by omega)]
        have e2 : (Ls ++ [D]).getD j [] = Ls.getD j [] := by simp [List.getD, List.getElem?_append_left hlt]
        rw [e1, e2]
        obtain ⟨a1, a2⟩ := h4 j hlt
        exact ⟨a1.saveV2 hs (fun g hg e => (a2 g hg).2 e), fun g hg => ⟨(a2 g hg).1, hne _ _ g a1 hg (a2 g hg).2⟩⟩
      · obtain rfl : j = Ls.length := by omega
        have e1 : (vs ++ [r]).getD Ls.length undef = r := by rw [← h1]; simp [List.getD]
        have e2 : (Ls ++ [D]).getD Ls.length [] = D := by simp [List.getD]
        rw [e1, e2]
        exact ⟨hr.saveV2 hs (fun g hg e => (hrb g hg).2 e), fun g hg => ⟨(hrb g hg).1, hne _ _ g hr hg (hrb g hg).2⟩⟩
  refine ⟨hl, hlow.setCell (p := ⟨c, 0, none⟩) (by show _ ≤ c; omega) _, by rw [setC_size]; exact Nat.le_trans ht hs.size, (setC_other W' _ (by omega)).trans ((hk _ (by omega)).trans h.mat), (setC_other W' _ (by omega)).trans ((hk _ (by omega)).trans h.cnt), (setC_other W' _ (by omega)).trans ((hk _ (by omega)).trans h.fn), (setC_other W' _ (by omega)).trans ((hk _ (by omega)).trans h.bp), hop.saveV2 hs2 (fun g hg e => by have := (World.ownsRow.lt hop g hg).1; omega), Boxed.set vL' ((hk _ (by omega)).trans h.bl), hll.save hs2 (fun k e => .inr (by omega)), fun L hL => ?_, by rw [List.length_append]; exact hfew⟩
  rw [List.mem_append, List.mem_singleton] at hL
  rcases hL with hL | rfl
  · exact h.lens L hL
  · exact hD
theorem OrbT.facts (h : OrbT w W m v c vP vL p Ls n) : (W.cell? ⟨w.heap.size, 0, none⟩ = some (.int .i64 m) ∧ W.cell? ⟨w.heap.size, 1, none⟩ = some v) ∧ (W.cell? ⟨c + 1, 0, none⟩ = some (.int .i64 n) ∧ W.frozen? ⟨c + 1, 0, none⟩ = false) ∧ W.cell? ⟨c + 3, 0, none⟩ = some (orbV w.heap.size c) ∧ (W.cell? ⟨c + 2, 0, none⟩ = some vP ∧ W.frozen? ⟨c + 2, 0, none⟩ = false) ∧ (W.cell? ⟨c, 0, none⟩ = some vL ∧ W.frozen? ⟨c, 0, none⟩ = false) :=
  ⟨cells2 h.mat, ⟨h.cnt.cell, h.cnt.frozen⟩, h.fn.cell, ⟨h.bp.cell, h.bp.frozen⟩, ⟨h.bl.cell, h.bl.frozen⟩⟩
end Go.Proofs.Ythlmnhcnpffjdaa

namespace Go.Proofs.Ythlmnhcnpffjdaa
open Go.RowKit

theorem Try.infoSl : (Try.prog.info? 22).map (fun i => (i.zero, i.size, i.bytes)) = some (some (.slice none 0 0), 1, 24) := by kernel_rfl
/-- What is still to be looked at. -/
def rem (m k : Nat) (p : List Nat) (i : Nat) : List (List Nat) := ((List.range m).drop i).flatMap fun x => if x ∈ p then [] else goes m k (p ++ [x])
theorem rem_zero (m k : Nat) (p : List Nat) : goes m (k + 1) p = rem m k p 0 := by unfold rem; rw [List.drop_zero]; rfl
theorem rem_step {m k i : Nat} {p : List Nat} (h : i < m) : rem m k p i = (if i ∈ p then [] else goes m k (p ++ [i])) ++ rem m k p (i + 1) := by
  unfold rem
  rw [range_drop h, List.flatMap_cons]
theorem rem_end (m k : Nat) (p : List Nat) : rem m k p m = [] := by unfold rem; rw [List.drop_of_length_le (by simp)]; rfl
/-- One more is met. -/
def orbF (m : Nat) (l : List Nat) (L : List (List Nat)) (q : List Nat) : List (List Nat) := addU L (renL m q l)
theorem Own.capL {B : Nat} {W : World} {g n c : Nat} {p : List Nat} (h : Own B W (.slice (some ⟨g, 0, none⟩) n c) p) : n ≤ c := by
  have h1 := h.len
  subst h1
  exact h.cap
set_option maxRecDepth 20000 in
set_option maxHeartbeats 4000000 in
theorem orb_ok (w : World) (m : Nat) (v : Value) (l : List Nat) (c : Nat) (hm : m ≤ 8) (hf : Fam m l) (hb : Bas l) (hI : Ints w v (N l)) :
    ∀ (k : Nat) (p : List Nat) (Ls : List (List Nat)) (n : Nat) (W : World) (vP vL : Value), p.length + k = m → Beg m p → OrbT w W m v c vP vL p Ls n → n + (goes m k p).length ≤ 90000 →
      Calls Try.prog 28 #[.pointer (some ⟨c + 2, 0, none⟩), .pointer (some ⟨w.heap.size, 0, none⟩), .pointer (some ⟨c + 1, 0, none⟩), .pointer (some ⟨c, 0, none⟩), .pointer (some ⟨c + 3, 0, none⟩)] W fun e W' =>
        e = .returned (.bool true) ∧ ∃ vP' vL', OrbT w W' m v c vP' vL' p ((goes m k p).foldl (orbF m l) Ls) (n + (goes m k p).length) := by
  intro k
  induction k with
  | zero =>
    intro p Ls n W vP vL hpk hbg hT hn
    have hp : p.length = m := by omega
    rw [show goes m 0 p = [p] from rfl] at hn ⊢
    simp only [List.foldl_cons, List.foldl_nil, List.length_singleton] at hn ⊢
    have T1 := hid (hT.count (n + 1) (Nat.le_succ _))
    have RN := hid (Rename_ok m v vP l p _ hm hf hb (hI.below T1.out.low) (T1.out.op.ints (by omega)) hbg hp)
    have hlD : (renL m p l).length ≤ 256 := fam_len hm (ren_fam m p l)
    obtain ⟨⟨x0, x1⟩, ⟨x2, x3⟩, -, ⟨x4, x5⟩, -⟩ := hT.facts
    obtain ⟨⟨y0, y1⟩, -, -, ⟨y4, y5⟩, -⟩ := T1.out.facts
    have hpm : ((p.length : Int) == (m : Int)) = true := by rw [hp]; simp
    have hfew := hT.few
    obtain ⟨pa, pc, hvp⟩ := ownsRow_form' hT.op
    subst hvp
    obtain ⟨a0, cap, hv, -, -⟩ := hI.nats
    subst hv
    have HTT := hid hT
    have HF : Hid (orbF m l Ls p = addU Ls (renL m p l)) := rfl
    clear hT hbg hp hpk hf hb hI
    generalize renL m p l = D at *
    generalize hW1 : W.setCell ⟨c + 1, 0, none⟩ (.int .i64 ((n + 1 : Nat) : Int)) = W1 at *
    rw [show ((n + 1 : Nat) : Int) = (n : Int) + 1 by omega] at hW1
    go_enter Try.func28, Try.ntmps28
    go_wp2_with fail
    refine RN.out.mono ?_
    rintro e w2 ⟨r, rfl, ho2, hb2⟩
    have b3 : Below w2.heap.size w2 (w2.alloc (.cells #[.int .i64 m, r] 24)) := (Below.refl _ _).alloc (Nat.le_refl _) _
    have hb13 := hb2.trans (b3.mono hb2.size)
    have T3 := hid (T1.out.below hb13)
    have y3 := World.alloc_heap_new w2 (.cells #[.int .i64 m, r] 24)
    have z3 := World.size_alloc w2 (.cells #[.int .i64 m, r] 24)
    have O3 := hid (ho2.below b3)
    have HL := hid (HasLL_ok vL r Ls D m w2.heap.size _ (T3.out.ll.read T3.out.lens) (by omega) y3 (O3.out.ints (by omega)))
    have Y3 := hid y3
    obtain ⟨-, -, -, -, ⟨v4, v5⟩⟩ := T3.out.facts
    obtain ⟨vla, vll, vlc, hvl⟩ : ∃ a n c, vL = .slice a n c := by
      obtain ⟨a, c, e, -⟩ := T3.out.ll.read T3.out.lens
      exact ⟨a, _, c, e⟩
    subst hvl
    have HRB : Hid (∀ g, r.ownBlock = some g → (Value.slice pa p.length pc).ownBlock ≠ some g ∧ (Value.slice vla vll vlc).ownBlock ≠ some g) := fun g hg => by
      have h1 := (World.ownsRow.lt ho2 g hg).1
      refine ⟨fun e => ?_, fun e => ?_⟩
      · have := (World.ownsRow.lt T1.out.op g e).2; omega
      · obtain ⟨us, -, u2, -⟩ := T1.out.ll
        have := (World.ownsRow.lt u2 g e).2; omega
    have htop := T1.out.top
    have hs2 := hb2.size
    obtain ⟨ra, rc, hr2⟩ := ownsRow_form' ho2
    subst hr2
    clear RN ho2 hb2 b3 hb13 y3 x0 x1 x2 x3 x4 x5 y0 y1 y4 y5 hW1
    go_wp2_with fail
    refine HL.out.mono ?_
    rintro e w4 ⟨rfl, hb4⟩
    have T4 := hid (T3.out.below hb4)
    have O4 := hid (O3.out.below hb4)
    have y4 := (hb4.block w2.heap.size (by omega)).trans Y3.out
    obtain ⟨k0, k1⟩ := cells2 y4
    obtain ⟨-, -, -, -, ⟨v6, v7⟩⟩ := T4.out.facts
    have hs4 := hb4.size
    clear HL hb4 T3 O3 Y3 y4 v4 v5
    rcases hq : decide (D ∈ Ls) with _ | _
    · have hnm : D ∉ Ls := by simpa using hq
      have HF2 : Hid (orbF m l Ls p = Ls ++ [D]) := by show _ = _; rw [HF.out]; unfold addU; rw [if_neg hnm]
      obtain ⟨i1, hi1, hz0, hz1, hz2⟩ := info_parts Try.infoSl
      have b5 : Below w4.heap.size w4 (w4.alloc (.cells #[.slice ra D.length rc] 22)) := (Below.refl _ _).alloc (Nat.le_refl _) _
      have T5 := hid (T4.out.below b5)
      have hc5 : (w4.alloc (.cells #[.slice ra D.length rc] 22)).cell? ⟨w4.heap.size, 0, none⟩ = some (.slice ra D.length rc) := (Boxed.new w4 22 _).cell
      have z5 := World.size_alloc w4 (.cells #[.slice ra D.length rc] 22)
      obtain ⟨vs, e1, e2, e3, e4⟩ := T5.out.ll
      have hvs : vs.length ≤ 100000 := by omega
      have ht5 := T5.out.top
      have NX : Hid (∀ v' w', w'.ownsRow (c + 4) 22 1 v' (vs.length + 1) (vs ++ [.slice ra D.length rc]) → (w4.alloc (.cells #[.slice ra D.length rc] 22)).grownBy w' (Value.slice vla vll vlc).ownBlock → (v'.ownBlock = (Value.slice vla vll vlc).ownBlock ∨ v'.ownBlock = some (w4.alloc (.cells #[.slice ra D.length rc] 22)).heap.size) → (w'.cell? ⟨c, 0, none⟩ = some (.slice vla vll vlc) ∧ w'.frozen? ⟨c, 0, none⟩ = false) ∧ Hid (OrbT w (w'.setCell ⟨c, 0, none⟩ v') m (.slice a0 l.length cap) c (.slice pa p.length pc) v' p (Ls ++ [D]) (n + 1))) := fun v' w' h1 h2 h3 => by
        have hsv : Save (fun g => (Value.slice vla vll vlc).ownBlock = some g) (w4.alloc (.cells #[.slice ra D.length rc] 22)) w' := Save.of_grown h2 (fun k e => e)
        have hbl : Boxed w' c 49 (.slice vla vll vlc) := (hsv.block c (by omega) (fun e => by have := (World.ownsRow.lt e2 c e).1; omega)).trans T5.out.bl
        refine ⟨⟨hbl.cell, hbl.frozen⟩, T5.out.push e1 e4 ((O4.out.below b5).mono (by omega)) HRB.out (by omega) (by omega) hsv h1 ?_⟩
        rcases h3 with h3 | h3
        · exact .inl h3
        · exact .inr ⟨_, h3, Nat.le_refl _⟩
      have E1 := hid e1
      clear hnm HF T4 O4 HRB b5 HTT T1 hq e1
      go_wp2_with (at_builtin; refine wpList_app1 rfl (.tmp 29) (.tmp 32) rfl rfl rfl Try.underlying49 hi1 hz0 rfl hz1 (by rw [hz2]; decide) e2 hc5 rfl hvs (by omega) ?_)
      intro v' w' h1 h2 h3
      obtain ⟨⟨q0, q1⟩, HT6⟩ := NX.out v' w' h1 h2 (by rw [World.size_alloc]; exact h3)
      obtain ⟨va, vn, vc, hv'⟩ : ∃ a n c, v' = .slice a n c := by
        rcases h1.2 with ⟨rfl, _⟩ | ⟨g, cap, cur, rfl, _⟩
        · exact ⟨_, _, _, rfl⟩
        · exact ⟨_, _, _, rfl⟩
      subst hv'
      clear h1 h2 h3 NX e2 e3 e4
      go_wp2_with fail
      go_ret
      exact ⟨rfl, _, _, by rw [HF2.out]; exact HT6.out⟩
    · have hmm : D ∈ Ls := by simpa using hq
      have HF2 : Hid (orbF m l Ls p = Ls) := by show _ = _; rw [HF.out]; unfold addU; rw [if_pos hmm]
      clear hmm HF hq HRB HTT
      go_wp2_with fail
      go_ret
      exact ⟨rfl, _, _, by rw [HF2.out]; exact T4.out⟩
  | succ k ih =>
    intro p Ls n W vP vL hpk hbg hT hn
    have hp : p.length < m := by omega
    have hpm : ((p.length : Int) == (m : Int)) = false := by rw [beq_eq_false_iff_ne]; omega
    have hp8 : p.length ≤ 8 := by omega
    rw [rem_zero] at hn ⊢
    obtain ⟨R, HR⟩ : ∃ R, Hid ((rem m k p 0).foldl (orbF m l) Ls = R) := ⟨_, Eq.refl ((rem m k p 0).foldl (orbF m l) Ls)⟩
    obtain ⟨C, HC⟩ : ∃ C, Hid (n + (rem m k p 0).length = C) := ⟨_, Eq.refl (n + (rem m k p 0).length)⟩
    rw [HC.out] at hn
    rw [HR.out, HC.out]
    have IH := hid (fun i Ls n W vP vL (hi : i < m) (hm2 : i ∉ p) hT hn => ih (p ++ [i]) Ls n W vP vL (by rw [List.length_append]; simp only [List.length_singleton]; omega) (hbg.snoc hi hm2) hT hn)
    obtain ⟨i0, hi0, hz0, hz1, hz2⟩ := info_parts Try.infoInt
    obtain ⟨⟨x0, x1⟩, -, -, ⟨x4, x5⟩, -⟩ := hT.facts
    have HT := hid hT
    obtain ⟨pa, pc, hvp⟩ := ownsRow_form' hT.op
    subst hvp
    clear hT ih hbg hpk hf hb hI
    go_enter Try.func28, Try.ntmps28
    go_wp2_with fail
    go_loopw [8, 9, 36] (fun _ _ jx wr => ∃ (i : Nat) (vP' vL' : Value) (Li : List (List Nat)) (ni : Nat), i ≤ m ∧ jx = .int .i64 i ∧ Hid (OrbT w wr m v c vP' vL' p Li ni) ∧ Hid ((rem m k p i).foldl (orbF m l) Li = R) ∧ Hid (ni + (rem m k p i).length = C)) (fun _ _ jx _ => m - (intOf jx).toNat)
    case atStart => exact ⟨0, _, _, Ls, n, Nat.zero_le _, rfl, HT, HR, HC⟩
    case round =>
      obtain ⟨i, vP', vL', Li, ni, hi, rfl, HTr, HRr, HCr⟩ := hrel
      clear HT HR HC x0 x1 x4 x5
      by_cases hlt : i < m
      · have hlt' : (i : Int) < (m : Int) := by omega
        have hmeas : m - (i + 1) < m - i := by omega
        rw [rem_step hlt] at HRr HCr
        obtain ⟨pa2, pc2, hvp⟩ := ownsRow_form' HTr.out.op
        subst hvp
        obtain ⟨-, -, -, ⟨x4, x5⟩, -⟩ := HTr.out.facts
        have C1 := hid (Contains_any _ p i wr (HTr.out.op.ints (by omega)))
        by_cases hmem : i ∈ p
        · rw [show memB i p = true from decide_eq_true hmem] at C1
          rw [if_pos hmem, List.nil_append] at HRr HCr
          clear hmem IH
          go_wp2_with fail
          refine C1.out.mono ?_
          rintro e w' ⟨rfl, hw'⟩
          obtain rfl := hw'.symm
          go_wp2_with fail
          go_roundw
          case rel => exact ⟨i + 1, _, _, Li, ni, hlt, by go_num, HTr, HRr, HCr⟩
          case measure => exact hmeas
        · rw [show memB i p = false from decide_eq_false hmem] at C1
          rw [if_neg hmem, List.foldl_append] at HRr
          rw [if_neg hmem, List.length_append] at HCr
          have hcc := HCr.out
          have I1 := hid (fun Ls n W vP vL hT hn => IH.out i Ls n W vP vL hlt hmem hT hn)
          have b1 : Below wr.heap.size wr (wr.alloc (.cells #[.int .i64 i] 3)) := (Below.refl _ _).alloc (Nat.le_refl _) _
          have T1 := hid (HTr.out.below b1)
          have hc1 : (wr.alloc (.cells #[.int .i64 i] 3)).cell? ⟨wr.heap.size, 0, none⟩ = some (.int .i64 i) := (Boxed.new wr 3 _).cell
          have z1 := World.size_alloc wr (.cells #[.int .i64 i] 3)
          have ht1 := T1.out.top
          have OP1 : Hid ((wr.alloc (.cells #[.int .i64 i] 3)).ownsRow (c + 4) 3 1 (.slice pa2 p.length pc2) p.length (V p)) := T1.out.op
          have NX : Hid (∀ v' w', w'.ownsRow (c + 4) 3 1 v' (p.length + 1) (V p ++ [.int .i64 i]) → (wr.alloc (.cells #[.int .i64 i] 3)).grownBy w' (Value.slice pa2 p.length pc2).ownBlock → (v'.ownBlock = (Value.slice pa2 p.length pc2).ownBlock ∨ v'.ownBlock = some (wr.alloc (.cells #[.int .i64 i] 3)).heap.size) → (w'.cell? ⟨c + 2, 0, none⟩ = some (.slice pa2 p.length pc2) ∧ w'.frozen? ⟨c + 2, 0, none⟩ = false) ∧ Hid (OrbT w (w'.setCell ⟨c + 2, 0, none⟩ v') m v c v' vL' (p ++ [i]) Li ni)) := fun v' w' h1 h2 h3 => by
            have hsv : Save (fun g => (Value.slice pa2 p.length pc2).ownBlock = some g) (wr.alloc (.cells #[.int .i64 i] 3)) w' := Save.of_grown h2 (fun k e => e)
            have hbp : Boxed w' (c + 2) 22 (.slice pa2 p.length pc2) := (hsv.block (c + 2) (by omega) (fun e => by have := (World.ownsRow.lt T1.out.op (c + 2) e).1; omega)).trans T1.out.bp
            refine ⟨⟨hbp.cell, hbp.frozen⟩, T1.out.turn hsv (Own.snoc h1) ?_⟩
            rcases h3 with h3 | h3
            · exact .inl h3
            · exact .inr ⟨_, h3, Nat.le_refl _⟩
          clear hmem IH b1 HCr
          go_wp2_with fail
          refine C1.out.mono ?_
          rintro e w' ⟨rfl, hw'⟩
          obtain rfl := hw'.symm
          clear C1
          go_wp2_with (at_builtin; refine wpList_app1 rfl (.tmp 42) (.tmp 44) rfl rfl rfl Try.underlying22 hi0 hz0 rfl hz1 (by rw [hz2]; decide) OP1.out hc1 rfl (by omega) (by omega) ?_)
          intro v' w' h1 h2 h3
          obtain ⟨⟨q0, q1⟩, HT2⟩ := NX.out v' w' h1 h2 (by rw [World.size_alloc]; exact h3)
          have I2 := hid (I1.out Li ni _ _ _ HT2.out (by omega))
          obtain ⟨va, vn, vc, hv'⟩ : ∃ a n c, v' = .slice a n c := by
            rcases h1.2 with ⟨rfl, _⟩ | ⟨g, cap, cur, rfl, _⟩
            · exact ⟨_, _, _, rfl⟩
            · exact ⟨_, _, _, rfl⟩
          subst hv'
          obtain ⟨-, -, k2, -, -⟩ := HT2.out.facts
          unfold orbV at k2
          clear h1 h2 h3 NX OP1 T1 hc1 I1 HTr x4 x5
          go_wp2_with fail
          refine I2.out.mono ?_
          rintro e w4 ⟨rfl, vP4, vL4, hT4⟩
          obtain ⟨g, gc, hv4⟩ := Go.Joins.ownsRow_form hT4.op (by simp)
          rw [show (p ++ [i]).length = p.length + 1 by simp] at hv4
          subst hv4
          have hcap := hT4.op.capL
          have hof : Own (c + 4) w4 (.slice (some ⟨g, 0, none⟩) p.length gc) p := Own.front (q := [i]) (by have := hT4.op; rwa [show (p ++ [i]).length = p.length + 1 by simp])
          have T5 := hid (hT4.turn (W' := w4) (Save.refl _ _) hof (.inl rfl))
          obtain ⟨-, -, -, ⟨k4, k5⟩, -⟩ := hT4.facts
          have hl1 : p.length ≤ gc := by omega
          have HC5 : Hid ((ni + (goes m k (p ++ [i])).length) + (rem m k p (i + 1)).length = C) := by show _ = _; omega
          clear I2 HT2 hT4 hof k2 q0 q1 hcc hcap
          go_wp2_with fail
          go_roundw
          case rel => exact ⟨i + 1, _, _, _, _, hlt, by go_num, T5, HRr, HC5⟩
          case measure => exact hmeas
      · obtain rfl : i = m := by omega
        have hlt' : ¬ (i : Int) < (i : Int) := by omega
        rw [rem_end] at HRr HCr
        have HR2 : Hid (Li = R) := HRr.out
        have HC2 : Hid (ni = C) := HCr.out
        clear HRr HCr IH
        go_wp2_with fail
        go_ret
        exact ⟨rfl, _, _, by rw [← HR2.out, ← HC2.out]; exact HTr.out⟩
end Go.Proofs.Ythlmnhcnpffjdaa
