/- append and which block it hands back; lists of lists. -/
import Derived.Test.YthlmnhcnpffjdaaGreatOrdNQ
import Derived.Test.YthlmnhcnpffjdaaGreatRefQ
import Derived.Test.YthlmnhcnpffjdaaGreatPlainAll
import Derived.Test.YthlmnhcnpffjdaaGreatThoseQ
namespace Go.Proofs.YthlmnhcnpffjdaaGreat
open Go.RowKit

/-- An append of one cell hands back the block that there was, or a new one. -/
theorem run_app1 {P : Program} (w : World) (base : Nat) (t ty e : TypeId) (i : TypeInfo) (z : Value) (ht : P.underlying t = some (.slice e)) (hi : P.info? e = some i) (hz : i.zero = some z) (hzs : z.cells.size = 1) (hsize : i.size = 1) (hby : i.bytes ≤ 24)
    (v : Value) (n : Nat) (xs : List Value) (hown : w.ownsRow base e 1 v n xs) (b : Nat) (x : Value) (hx : w.cell? ⟨b, 0, none⟩ = some x) (h1 : x.oneCell' = true) (hn : n ≤ 100000) (hB : base ≤ w.heap.size) :
    ∃ v' w', (Builtin.append_ #[t, t] ty #[v, .slice (some ⟨b, 0, none⟩) 1 1]).run P w = .ok v' w' ∧ w'.ownsRow base e 1 v' (n + 1) (xs ++ [x]) ∧ w.grownBy w' v.ownBlock ∧ (v'.ownBlock = v.ownBlock ∨ v'.ownBlock = some w.heap.size) := by
  have hcell : ∀ j u, [x][j]? = some u → w.cell? ((⟨b, 0, none⟩ : Addr).add j) = some u := fun j u hu => by
    have hj : j < 1 := (List.getElem?_eq_some_iff.1 hu).1
    obtain rfl : j = 0 := by omega
    simp only [List.getElem?_cons_zero] at hu
    rw [← hu, ← hx]
    simp [Addr.add]
  have hone : ∀ u ∈ [x], u.oneCell' = true := by intro u hu; simp at hu; subst hu; exact h1
  have hbb : (n + 1) * i.bytes ≤ 140737488355328 := Nat.le_trans (Nat.mul_le_mul_left _ hby) (by omega)
  obtain ⟨v', w', hrun, r1, r2, _⟩ := run_append_own (P := P) w base t ty e i z 1 i.bytes ht hi hz hsize rfl hzs (by decide) v n xs hown ⟨b, 0, none⟩ 1 1 [x] rfl hcell hone (by unfold maxLen; omega) hbb hB
  refine ⟨v', w', hrun, r1, r2, ?_⟩
  have hl1 : [x].length = 1 * i.size := by rw [hsize]; rfl
  rcases hown.2 with ⟨rfl, rfl⟩ | ⟨g, cap, cur, rfl, hbg, hg, hnc, hcm, hcs, htake⟩
  · have hr := run_append_nil (P := P) w t ty e i z ht hi hz ⟨b, 0, none⟩ 1 1 [x] hl1 hcell (by decide) (by decide) (by omega)
    rw [hrun] at hr
    cases hr
    exact .inr rfl
  · by_cases hroom : n + 1 ≤ cap
    · have hr := run_append_room (P := P) w t ty e i ht hi g n cap cur hg ⟨b, 0, none⟩ 1 1 [x] hl1 hcell hone hroom (by rw [hsize, hcs]; simp; omega)
      rw [hrun] at hr
      cases hr
      exact .inl rfl
    · have holds : ∀ j u, xs[j]? = some u → w.cell? ((⟨g, 0, none⟩ : Addr).add j) = some u := hown.cells (g := g) rfl
      have hr := run_append_grow (P := P) w t ty e i z ht hi hz ⟨g, 0, none⟩ n cap xs (by rw [hsize]; exact hown.1) holds ⟨b, 0, none⟩ 1 1 [x] hl1 hcell (by omega) (by omega) (growslice_fits (by omega) hbb)
      rw [hrun] at hr
      cases hr
      exact .inr rfl
theorem wpList_app1 {P : Program} {w : World} {base : Nat} {t e : TypeId} {i : TypeInfo} {z : Value} {v : Value} {n : Nat} {xs : List Value} {b : Nat} {x : Value} {ops : Array Oper} {rest : List Oper} {o : Oper} {a : Act} {Q : Exit → Act → World → Prop} (hgd : o.guard = none) (s y : Operand)
    (ho : o.op = .call { callee := .builtin .append, args := #[s, y], argTypes := #[t, t] }) (hs : a.eval s = v) (hy : a.eval y = .slice (some ⟨b, 0, none⟩) 1 1)
    (ht : P.underlying t = some (.slice e)) (hi : P.info? e = some i) (hz : i.zero = some z) (hzs : z.cells.size = 1) (hsize : i.size = 1) (hby : i.bytes ≤ 24)
    (hown : w.ownsRow base e 1 v n xs) (hx : w.cell? ⟨b, 0, none⟩ = some x) (h1 : x.oneCell' = true) (hn : n ≤ 100000) (hB : base ≤ w.heap.size)
    (hK : ∀ v' w', w'.ownsRow base e 1 v' (n + 1) (xs ++ [x]) → w.grownBy w' v.ownBlock → (v'.ownBlock = v.ownBlock ∨ v'.ownBlock = some w.heap.size) → wpList P ops Q rest (a.put o.dst v') w') : wpList P ops Q (o :: rest) a w := by
  refine wpList_plain hgd fun K hk => ?_
  obtain ⟨v', w', hrun, r1, r2, r3⟩ := run_app1 (P := P) w base t o.type e i z ht hi hz hzs hsize hby v n xs hown b x hx h1 hn hB
  unfold Oper.wp
  simp [execOp, ho, resolve, invoke, builtin, hs, hy, hrun, Result.andThen]
  exact hk _ _ (hK v' w' r1 r2 r3)
/-- A list of lists of the call's own, none of whose blocks is one of X. -/
def LL (B : Nat) (X : Nat → Prop) (W : World) (v : Value) (Ls : List (List Nat)) : Prop :=
  ∃ vs : List Value, vs.length = Ls.length ∧ W.ownsRow B 22 1 v vs.length vs ∧ (∀ g, v.ownBlock = some g → ¬ X g) ∧
    ∀ j, j < Ls.length → Own B W (vs.getD j undef) (Ls.getD j []) ∧ (∀ g, (vs.getD j undef).ownBlock = some g → ¬ X g ∧ v.ownBlock ≠ some g)
theorem LL.nil (B : Nat) (X : Nat → Prop) (W : World) : LL B X W (.slice none 0 0) [] := ⟨[], rfl, World.ownsRow_nil _ _ _ _, (fun g e => by cases e), fun j h => absurd h (Nat.not_lt_zero _)⟩
theorem own_save {B : Nat} {X : Nat → Prop} {a b : World} {e : TypeId} {v : Value} {n : Nat} {vs : List Value} (h : a.ownsRow B e 1 v n vs) (hs : Save X a b) (hg : ∀ g, v.ownBlock = some g → ¬ X g) : b.ownsRow B e 1 v n vs := by
  refine ⟨h.1, ?_⟩
  rcases h.2 with hn | ⟨g, cap, cur, rfl, hb, hgg, rest⟩
  · exact .inl hn
  · exact .inr ⟨g, cap, cur, rfl, hb, (hs.block g (Array.getElem?_eq_some_iff.1 hgg).1 (hg g rfl)).trans hgg, rest⟩
theorem Own.saveV2 {X : Nat → Prop} {B : Nat} {a b : World} {v : Value} {l : List Nat} (h : Own B a v l) (hs : Save X a b) (hg : ∀ g, v.ownBlock = some g → ¬ X g) : Own B b v l := own_save h hs hg
/-- It stays while the blocks of X change. -/
theorem LL.save {B : Nat} {X Y : Nat → Prop} {W W' : World} {v : Value} {Ls : List (List Nat)} (h : LL B X W v Ls) (hs : Save Y W W') (hY : ∀ k, Y k → X k ∨ k < B) : LL B X W' v Ls := by
  obtain ⟨vs, h1, h2, h3, h4⟩ := h
  have hn : ∀ g, v.ownBlock = some g → ¬ Y g := fun g hg hy => by
    rcases hY g hy with h | h
    · exact h3 g hg h
    · have := (World.ownsRow.lt h2 g hg).1; omega
  refine ⟨vs, h1, own_save h2 hs hn, h3, fun j hj => ?_⟩
  obtain ⟨h5, h6⟩ := h4 j hj
  exact ⟨h5.saveV2 hs (fun g hg hy => by
    rcases hY g hy with h | h
    · exact (h6 g hg).1 h
    · have := (World.ownsRow.lt h5 g hg).1; omega), h6⟩
theorem LL.other {B : Nat} {X Y : Nat → Prop} {W : World} {v : Value} {Ls : List (List Nat)} (h : LL B X W v Ls) (hY : ∀ k, Y k → X k ∨ W.heap.size ≤ k) : LL B Y W v Ls := by
  obtain ⟨vs, h1, h2, h3, h4⟩ := h
  refine ⟨vs, h1, h2, fun g hg hy => ?_, fun j hj => ?_⟩
  · rcases hY g hy with h | h
    · exact h3 g hg h
    · have := (World.ownsRow.lt h2 g hg).2; omega
  · obtain ⟨h5, h6⟩ := h4 j hj
    refine ⟨h5, fun g hg => ⟨fun hy => ?_, (h6 g hg).2⟩⟩
    rcases hY g hy with h | h
    · exact (h6 g hg).1 h
    · have := (World.ownsRow.lt h5 g hg).2; omega
end Go.Proofs.YthlmnhcnpffjdaaGreat

namespace Go.Proofs.YthlmnhcnpffjdaaGreat
open Go.RowKit

/-- How a list of lists is read. -/
def LLr (W : World) (v : Value) (Ls : List (List Nat)) : Prop := ∃ a cap, v = .slice a Ls.length cap ∧ (0 < Ls.length → ∃ g, a = some ⟨g, 0, none⟩ ∧ g < W.heap.size ∧ ∀ k, k < Ls.length → ∃ u, W.cell? ⟨g, k, none⟩ = some u ∧ Ints W u (N (Ls.getD k [])))
theorem LL.read {B : Nat} {X : Nat → Prop} {W : World} {v : Value} {Ls : List (List Nat)} (h : LL B X W v Ls) (hl : ∀ L ∈ Ls, L.length ≤ 256) : LLr W v Ls := by
  obtain ⟨vs, h1, h2, h3, h4⟩ := h
  have h0 := h2
  rcases h2.2 with ⟨rfl, hn⟩ | ⟨g, cap, cur, rfl, hb, hgg, hc1, hc2, hc3, htk⟩
  · refine ⟨none, 0, by rw [← h1, hn], fun hp => ?_⟩
    omega
  · refine ⟨some ⟨g, 0, none⟩, cap, by rw [h1], fun _ => ⟨g, rfl, (Array.getElem?_eq_some_iff.1 hgg).1, fun k hk => ?_⟩⟩
    have hc := World.ownsRow.cellAt h0 k (by rw [Nat.mul_one]; omega)
    have hk2 : k < vs.length := by omega
    refine ⟨vs.getD k undef, by rw [hc]; simp [List.getD, hk2], (h4 k hk).1.ints ?_⟩
    have := hl (Ls.getD k []) (by simp [List.getD, hk])
    omega
theorem LLr.below {W W' : World} {v : Value} {Ls : List (List Nat)} (h : LLr W v Ls) (hb : Below W.heap.size W W') : LLr W' v Ls := by
  obtain ⟨a, cap, rfl, h1⟩ := h
  refine ⟨a, cap, rfl, fun hp => ?_⟩
  obtain ⟨g, rfl, hg, h2⟩ := h1 hp
  refine ⟨g, rfl, Nat.lt_of_lt_of_le hg hb.size, fun k hk => ?_⟩
  obtain ⟨u, h3, h4⟩ := h2 k hk
  exact ⟨u, (hb.cell (p := ⟨g, k, none⟩) hg).trans h3, h4.below hb⟩
end Go.Proofs.YthlmnhcnpffjdaaGreat

namespace Go.Proofs.YthlmnhcnpffjdaaGreat
open Go.RowKit

theorem setC_other (W : World) {b k : Nat} (x : Value) (h : k ≠ b) : (W.setCell ⟨b, 0, none⟩ x).heap[k]? = W.heap[k]? := Below.heap_setCell W ⟨b, 0, none⟩ x k h
theorem setC_size (W : World) (b : Nat) (x : Value) : (W.setCell ⟨b, 0, none⟩ x).heap.size = W.heap.size := by simp [World.setCell]
theorem save_one (W : World) (b : Nat) (x : Value) : Save (fun k => k = b) W (W.setCell ⟨b, 0, none⟩ x) := Save.setCell (X := fun k => k = b) (Save.refl _ W) (p := ⟨b, 0, none⟩) (.inl rfl) x
end Go.Proofs.YthlmnhcnpffjdaaGreat

namespace Go.Proofs.YthlmnhcnpffjdaaGreat
open Go.RowKit

theorem Tryz.infoSl : (Tryz.prog.info? 22).map (fun i => (i.zero, i.size, i.bytes)) = some (some (.slice none 0 0), 1, 24) := by kernel_rfl
/-- What is still to be looked at. -/
def rem (m k : Nat) (p : List Nat) (i : Nat) : List (List Nat) := ((List.range m).drop i).flatMap fun x => if x ∈ p then [] else goes m k (p ++ [x])
theorem rem_zero (m k : Nat) (p : List Nat) : goes m (k + 1) p = rem m k p 0 := by unfold rem; rw [List.drop_zero]; rfl
theorem rem_step {m k i : Nat} {p : List Nat} (h : i < m) : rem m k p i = (if i ∈ p then [] else goes m k (p ++ [i])) ++ rem m k p (i + 1) := by
  unfold rem
  rw [range_drop h, List.flatMap_cons]
theorem rem_end (m k : Nat) (p : List Nat) : rem m k p m = [] := by unfold rem; rw [List.drop_of_length_le (by simp)]; rfl
/-- One more is met. -/
def orbF (m : Nat) (l : List Nat) (L : List (List Nat)) (q : List Nat) : List (List Nat) := addU L (renL m q l)
theorem Own.capL {B : Nat} {W : World} {g n c : Nat} {p : List Nat} (h : Own B W (.slice (some ⟨g, 0, none⟩) n c) p) : n ≤ c := by
  have h1 := h.len
  subst h1
  exact h.cap
end Go.Proofs.YthlmnhcnpffjdaaGreat
