/- rotaref.Orders: its first region. -/
import Derived.Test.YthlmnhcnpffjdaaGreatDorWQ
import Derived.Test.YthlmnhcnpffjdaaGreatBothQ
import Derived.Deep.CutRange
import Derived.Deep.RegionHeld3
import Derived.Test.YthlmnhcnpffjdaaGreatPlainAll
namespace Go.Proofs.YthlmnhcnpffjdaaGreat
open Go.RowKit

/-- What is there while the region runs. -/
structure PrA (W3 W : World) (HA HB : List (List Nat)) (r1 r2 : Option Value) (g1 g2 : Option Nat) : Prop where
  bl : Below W3.heap.size W3 W
  x1 : ∀ r, r1 = some r → LL W3.heap.size (fun k => g1 = some k ∨ g2 = some k) W r HA
  x2 : ∀ r, r2 = some r → LL W3.heap.size (fun k => g1 = some k ∨ g2 = some k) W r HB
  y1 : ∀ g, g1 = some g → W3.heap.size ≤ g ∧ Boxed W g 71 (.slice none 0 0)
  y2 : ∀ g, g2 = some g → W3.heap.size ≤ g ∧ Boxed W g 71 (.slice none 0 0)
  ne : ∀ g g', g1 = some g → g2 = some g' → g ≠ g'
variable {W3 W W' : World} {HA HB : List (List Nat)} {r1 r2 : Option Value} {g1 g2 : Option Nat}
theorem PrA.begin (W3 : World) (HA HB : List (List Nat)) : PrA W3 W3.drew HA HB none none none none :=
  ⟨(Below.refl _ _).drew, fun _ e => (by cases e), fun _ e => (by cases e), fun _ e => (by cases e), fun _ e => (by cases e), fun _ _ e => (by cases e)⟩
theorem PrA.next (h : PrA W3 W HA HB r1 r2 g1 g2) (hb : Below W.heap.size W W') : PrA W3 W' HA HB r1 r2 g1 g2 :=
  ⟨h.bl.trans (hb.mono h.bl.size), fun r e => (h.x1 r e).save (Y := fun _ => False) (Save.of_below hb) (fun _ e => e.elim), fun r e => (h.x2 r e).save (Y := fun _ => False) (Save.of_below hb) (fun _ e => e.elim),
    fun g e => ⟨(h.y1 g e).1, (hb.block _ (h.y1 g e).2.lt).trans (h.y1 g e).2⟩, fun g e => ⟨(h.y2 g e).1, (hb.block _ (h.y2 g e).2.lt).trans (h.y2 g e).2⟩, h.ne⟩
theorem LL.avoid {B : Nat} {X : Nat → Prop} {W : World} {v : Value} {Ls : List (List Nat)} (h : LL B (fun _ => False) W v Ls) (hX : ∀ k, X k → k < B) : LL B X W v Ls := by
  obtain ⟨vs, h1, h2, h3, h4⟩ := h
  refine ⟨vs, h1, h2, fun g hg hx => ?_, fun j hj => ⟨(h4 j hj).1, fun g hg => ⟨fun hx => ?_, ((h4 j hj).2 g hg).2⟩⟩⟩
  · have := (World.ownsRow.lt h2 g hg).1; have := hX g hx; omega
  · have := (World.ownsRow.lt (h4 j hj).1 g hg).1; have := hX g hx; omega
theorem PrA.low (h : PrA W3 W HA HB r1 r2 g1 g2) : ∀ k, (g1 = some k ∨ g2 = some k) → k < W.heap.size := fun k e => by
  rcases e with e | e
  · exact (h.y1 k e).2.lt
  · exact (h.y2 k e).2.lt
theorem PrA.call1 {r : Value} (h : PrA W3 W HA HB none r2 g1 g2) (hb : Below W.heap.size W W') (hr : LL W.heap.size (fun _ => False) W' r HA) : PrA W3 W' HA HB (some r) r2 g1 g2 := by
  have h' := h.next hb
  exact ⟨h'.bl, fun r' e => by cases e; exact (hr.avoid h.low).lower h.bl.size, h'.x2, h'.y1, h'.y2, h'.ne⟩
theorem PrA.call2 {r : Value} (h : PrA W3 W HA HB r1 none g1 g2) (hb : Below W.heap.size W W') (hr : LL W.heap.size (fun _ => False) W' r HB) : PrA W3 W' HA HB r1 (some r) g1 g2 := by
  have h' := h.next hb
  exact ⟨h'.bl, h'.x1, fun r' e => by cases e; exact (hr.avoid h.low).lower h.bl.size, h'.y1, h'.y2, h'.ne⟩
theorem PrA.new1 (h : PrA W3 W HA HB r1 r2 none g2) : PrA W3 (W.alloc (.cells #[.slice none 0 0] 71)) HA HB r1 r2 (some W.heap.size) g2 := by
  have hb : Below W.heap.size W (W.alloc (.cells #[.slice none 0 0] 71)) := (Below.refl _ _).alloc (Nat.le_refl _) _
  have h' := h.next hb
  have hs : ∀ {r : Value} {L}, LL W3.heap.size (fun k => none = some k ∨ g2 = some k) W r L → LL W3.heap.size (fun k => some W.heap.size = some k ∨ g2 = some k) (W.alloc (.cells #[.slice none 0 0] 71)) r L := fun hl =>
    (hl.other (Y := fun k => some W.heap.size = some k ∨ g2 = some k) (fun k e => by
      rcases e with e | e
      · cases e; exact .inr (Nat.le_refl _)
      · exact .inl (.inr e))).save (Y := fun _ => False) (Save.of_below hb) (fun _ e => e.elim)
  refine ⟨h'.bl, fun r e => hs (h.x1 r e), fun r e => hs (h.x2 r e), fun g e => ?_, h'.y2, fun g g' e e' => ?_⟩
  · cases e; exact ⟨h.bl.size, Boxed.new W _ _⟩
  · cases e; have := (h.y2 g' e').2.lt; omega
theorem PrA.new2 (h : PrA W3 W HA HB r1 r2 g1 none) : PrA W3 (W.alloc (.cells #[.slice none 0 0] 71)) HA HB r1 r2 g1 (some W.heap.size) := by
  have hb : Below W.heap.size W (W.alloc (.cells #[.slice none 0 0] 71)) := (Below.refl _ _).alloc (Nat.le_refl _) _
  have h' := h.next hb
  have hs : ∀ {r : Value} {L}, LL W3.heap.size (fun k => g1 = some k ∨ none = some k) W r L → LL W3.heap.size (fun k => g1 = some k ∨ some W.heap.size = some k) (W.alloc (.cells #[.slice none 0 0] 71)) r L := fun hl =>
    (hl.other (Y := fun k => g1 = some k ∨ some W.heap.size = some k) (fun k e => by
      rcases e with e | e
      · exact .inl (.inl e)
      · cases e; exact .inr (Nat.le_refl _))).save (Y := fun _ => False) (Save.of_below hb) (fun _ e => e.elim)
  refine ⟨h'.bl, fun r e => hs (h.x1 r e), fun r e => hs (h.x2 r e), h'.y1, fun g e => ?_, fun g g' e e' => ?_⟩
  · cases e; exact ⟨h.bl.size, Boxed.new W _ _⟩
  · cases e'; have := (h.y1 g e).2.lt; omega
/-- What is there behind it. -/
structure PrD (W3 W : World) (HA HB : List (List Nat)) (rx ry : Value) (gx gy : Nat) : Prop where
  bl : Below W3.heap.size W3 W
  bx : Boxed W gx 71 rx
  by' : Boxed W gy 71 ry
  lx : LL W3.heap.size (fun k => k = gx ∨ k = gy) W rx HA
  ly : LL W3.heap.size (fun k => k = gx ∨ k = gy) W ry HB
  gx : W3.heap.size ≤ gx
  gy : W3.heap.size ≤ gy
theorem PrA.stored {rx ry : Value} {gx gy : Nat} (h : PrA W3 W HA HB (some rx) (some ry) (some gx) (some gy)) : PrD W3 ((W.setCell ⟨gx, 0, none⟩ rx).setCell ⟨gy, 0, none⟩ ry) HA HB rx ry gx gy := by
  obtain ⟨a1, a2⟩ := h.y1 gx rfl
  obtain ⟨b1, b2⟩ := h.y2 gy rfl
  have hne := h.ne gx gy rfl rfl
  have s1 := save_one W gx rx
  have s2 := save_one (W.setCell ⟨gx, 0, none⟩ rx) gy ry
  have hX : ∀ {r : Value} {L}, LL W3.heap.size (fun k => some gx = some k ∨ some gy = some k) W r L → LL W3.heap.size (fun k => k = gx ∨ k = gy) ((W.setCell ⟨gx, 0, none⟩ rx).setCell ⟨gy, 0, none⟩ ry) r L := fun hl =>
    ((hl.other (Y := fun k => k = gx ∨ k = gy) (fun k e => .inl (by
      rcases e with e | e
      · exact .inl (by rw [e])
      · exact .inr (by rw [e])))).save s1 (fun k e => .inl (.inl e))).save s2 (fun k e => .inl (.inr e))
  refine ⟨s2.below (s1.below h.bl h.bl.size (fun k e => by omega)) (Nat.le_trans h.bl.size s1.size) (fun k e => by omega), ?_, ?_, hX (h.x1 rx rfl), hX (h.x2 ry rfl), a1, b1⟩
  · exact (setC_other _ _ hne).trans (Boxed.set rx a2)
  · exact Boxed.set ry ((setC_other W rx (fun e => hne e.symm)).trans b2)
theorem PrA.cells {rx ry : Value} {gx gy : Nat} (h : PrA W3 W HA HB (some rx) (some ry) (some gx) (some gy)) : (W.cell? ⟨gx, 0, none⟩ = some (.slice none 0 0) ∧ W.frozen? ⟨gx, 0, none⟩ = false) ∧ (W.setCell ⟨gx, 0, none⟩ rx).cell? ⟨gy, 0, none⟩ = some (.slice none 0 0) ∧ (W.setCell ⟨gx, 0, none⟩ rx).frozen? ⟨gy, 0, none⟩ = false := by
  obtain ⟨a1, a2⟩ := h.y1 gx rfl
  obtain ⟨b1, b2⟩ := h.y2 gy rfl
  have hne := h.ne gx gy rfl rfl
  have b3 : Boxed (W.setCell ⟨gx, 0, none⟩ rx) gy 71 (.slice none 0 0) := (setC_other W rx (fun e => hne e.symm)).trans b2
  exact ⟨⟨a2.cell, a2.frozen⟩, b3.cell, b3.frozen⟩
theorem LL.form {B : Nat} {X : Nat → Prop} {W : World} {v : Value} {Ls : List (List Nat)} (h : LL B X W v Ls) : ∃ a n c, v = .slice a n c := by
  obtain ⟨vs, _, h2, _⟩ := h
  rcases h2.2 with ⟨rfl, _⟩ | ⟨g, cap, cur, rfl, _⟩
  · exact ⟨_, _, _, rfl⟩
  · exact ⟨_, _, _, rfl⟩

/-- How often each set has come up among the first i. -/
def cntL (l : List Nat) (T i : Nat) : List Nat := (List.range T).map fun t => if t ∈ l.take i then 1 else 0
theorem cntL_zero (l : List Nat) (T : Nat) : cntL l T 0 = List.replicate T 0 := by
  unfold cntL
  refine List.ext_getElem (by simp) fun i h1 h2 => ?_
  simp
theorem cntL_len (l : List Nat) (T i : Nat) : (cntL l T i).length = T := by unfold cntL; simp
theorem cntL_at {l : List Nat} {T i t : Nat} (h : t < T) : (cntL l T i).getD t 0 = if t ∈ l.take i then 1 else 0 := by unfold cntL; simp [List.getD, h]
theorem take_snocH {l : List Nat} {i : Nat} (hi : i < l.length) : l.take (i + 1) = l.take i ++ [l.getD i 0] := by
  rw [List.take_add_one, List.getElem?_eq_getElem hi]
  simp [List.getD, hi]
theorem up_new {l : List Nat} {i : Nat} (hup : l.Pairwise (· < ·)) (hi : i < l.length) : l.getD i 0 ∉ l.take i := fun h => by
  obtain ⟨j, hj, e⟩ := List.mem_iff_getElem.1 h
  rw [List.length_take] at hj
  have hji : j < i := by omega
  rw [List.getElem_take] at e
  have := List.pairwise_iff_getElem.1 hup j i (by omega) hi hji
  simp only [List.getD, List.getElem?_eq_getElem hi, Option.getD_some] at e
  omega
theorem cntL_step {l : List Nat} {T i : Nat} (hi : i < l.length) : (cntL l T i).set (l.getD i 0) 1 = cntL l T (i + 1) := by
  unfold cntL
  refine List.ext_getElem (by simp) fun t h1 h2 => ?_
  rw [List.getElem_set, List.getElem_map, List.getElem_map, List.getElem_range, take_snocH hi]
  by_cases ht : l.getD i 0 = t
  · rw [if_pos ht, if_pos (by rw [← ht]; simp)]
  · rw [if_neg ht]
    congr 1
    rw [List.mem_append, List.mem_singleton, eq_iff_iff]
    exact ⟨.inl, fun h => h.resolve_right (fun e => ht e.symm)⟩
theorem cntL_new {l : List Nat} {T i : Nat} (hup : l.Pairwise (· < ·)) (hi : i < l.length) (hT : l.getD i 0 < T) : (cntL l T i).getD (l.getD i 0) 0 = 0 := by
  rw [cntL_at hT, if_neg (up_new hup hi)]
theorem Save.cellX {X : Nat → Prop} {a b : World} (h : Save X a b) {p : Addr} {x : Value} (hc : a.cell? p = some x) (hx : ¬ X p.block) : b.cell? p = some x := by
  have hb := h.block p.block (World.block_lt_of_cell? a p hc) hx
  have : b.cell? p = a.cell? p := by
    unfold World.cell?
    rw [hb]
  rw [this]
  exact hc
end Go.Proofs.YthlmnhcnpffjdaaGreat

namespace Go.Proofs.YthlmnhcnpffjdaaGreat
open Go.RowKit

/-- What the document's search finds. -/
def docS (n : Nat) (l : List Nat) (n' : Nat) (l' : List Nat) : Option (List Nat) := if n = n' ∧ l.length = l'.length then (walkO (fun _ => habF (cirL n l) (cirL n' l')) (dorN l l') n n none []).2 else none
/-- What Orders leaves. -/
def OrdE (w0 : World) (bO bD : Nat) (S : Option (List Nat)) (W : World) : Prop := Below w0.heap.size w0 W ∧ Boxed W bD 4 (.bool S.isSome) ∧ ∃ r, Boxed W bO 22 r ∧ Own w0.heap.size W r (S.getD [])
set_option maxRecDepth 20000 in
set_option maxHeartbeats 8000000 in
theorem Orders_ok (n n' : Nat) (v v' : Value) (l l' : List Nat) (w0 w : World) (bO bD : Nat) (hn : n ≤ 8) (hf : Fam n l) (hb : Bas l) (hI : Ints w0 v (N l)) (hn' : n' ≤ 8) (hf' : Fam n' l') (hb' : Bas l') (hI' : Ints w0 v' (N l'))
    (h0 : Below w0.heap.size w0 w) (hO : w0.heap.size ≤ bO) (hD : w0.heap.size ≤ bD) (hne : bO ≠ bD) (xO : Boxed w bO 22 (.slice none 0 0)) (xD : Boxed w bD 4 (.bool false)) :
    Calls Tryz.prog 24 #[.agg #[.int .i64 n, v], .agg #[.int .i64 n', v'], .func (.func 32) #[] #[.pointer (some ⟨bO, 0, none⟩), .pointer (some ⟨bD, 0, none⟩)]] w fun e W' => e = .returned (.tuple #[]) ∧ OrdE w0 bO bD (docS n l n' l') W' := by
  generalize hfv : Value.func (.func 32) #[] #[.pointer (some ⟨bO, 0, none⟩), .pointer (some ⟨bD, 0, none⟩)] = fv
  have HFV := hid hfv
  obtain ⟨W3, hw3⟩ : ∃ W3, ((w.alloc (.cells #[.int .i64 n, v] 24)).alloc (.cells #[.int .i64 n', v'] 24)).alloc (.cells #[fv] 51) = W3 := ⟨_, rfl⟩
  have b2 := box2_below w n v n' v'
  have z2 := box2_size w n v n' v'
  have hw2 : (box2 w n v n' v').alloc (.cells #[fv] 51) = W3 := hw3
  have b3 : Below (box2 w n v n' v').heap.size (box2 w n v n' v') W3 := by rw [← hw2]; exact (Below.refl _ _).alloc (Nat.le_refl _) _
  have z3 : W3.heap.size = w.heap.size + 3 := by rw [← hw2, World.size_alloc, z2]
  have xF : W3.heap[w.heap.size + 2]? = some (.cells #[fv] 51 (0, 0)) := by rw [← hw2, ← z2]; exact World.alloc_heap_new _ _
  obtain ⟨xA, xB⟩ := box2_blocks b3
  have hlow := b2.trans (b3.mono b2.size)
  have B3 := hid (h0.trans (hlow.mono h0.size))
  have hO2 := xO.lt
  have hD2 := xD.lt
  have yO : Boxed W3 bO 22 (.slice none 0 0) := (hlow.block _ hO2).trans xO
  have yD : Boxed W3 bD 4 (.bool false) := (hlow.block _ hD2).trans xD
  have h03 := h0.size
  have KS : Hid (∀ W, Below W3.heap.size W3 W → (fun w' => w'.cell? ⟨w.heap.size, 0, none⟩ = some (.int .i64 n) ∧ w'.cell? ⟨w.heap.size, 1, none⟩ = some v ∧ w'.cell? ⟨w.heap.size + 1, 0, none⟩ = some (.int .i64 n') ∧ w'.cell? ⟨w.heap.size + 1, 1, none⟩ = some v') W) := fun W hW => by
    obtain ⟨p0, p1⟩ := cells2 ((hW.block w.heap.size (by omega)).trans xA)
    obtain ⟨p2, p3⟩ := cells2 ((hW.block (w.heap.size + 1) (by omega)).trans xB)
    exact ⟨p0, p1, p2, p3⟩
  have IA := hid (fun W (hW : Below W3.heap.size W3 W) => hI.below (B3.out.trans (hW.mono (by omega))))
  have IB := hid (fun W (hW : Below W3.heap.size W3 W) => hI'.below (B3.out.trans (hW.mono (by omega))))
  have HA1 := hid (fun W (hW : Below W3.heap.size W3 W) => habits_ok n v l W hn hf hb (IA.out W hW))
  have HB1 := hid (fun W (hW : Below W3.heap.size W3 W) => habits_ok n' v' l' W hn' hf' hb' (IB.out W hW))
  have HUP := hid hf'.up
  have HLT : Hid (∀ b ∈ l', b < 2 ^ n') := hf'.lt
  have HFN := hid hf
  have HI0 := hid hI
  obtain ⟨a0, c0, hv, -, -⟩ := hI.nats
  subst hv
  obtain ⟨a1, c1, hv, -, -⟩ := hI'.nats
  subst hv
  have PW := (pow_wrap n' hn').1
  have PL := (pow_wrap n' hn').2
  have hll := fam_len hn' hf'
  clear hI hI' hf hb hf' hb' b2 z2 hw2 b3 hlow xO xD
  subst hfv
  go_enter Tryz.func24, Tryz.ntmps24
  go_upto_region 1 with fail
  go_cut [6, 7] from 12 to 53 (fun x y W => ∃ gx gy rx ry, x = .pointer (some ⟨gx, 0, none⟩) ∧ y = .pointer (some ⟨gy, 0, none⟩) ∧ Hid (PrD W3 W ((List.range n).map (hab (cirL n l))) ((List.range n').map (hab (cirL n' l'))) rx ry gx gy))
  case first =>
    clear yO yD xA xB xF PW PL HUP HLT IA IB B3 HFV HFN HI0
    generalize (List.range n).map (hab (cirL n l)) = HA at *
    generalize (List.range n').map (hab (cirL n' l')) = HB at *
    generalize hvv : Value.slice a0 l.length c0 = v at *
    generalize hvv' : Value.slice a1 l'.length c1 = v' at *
    have P0 := hid (PrA.begin W3 HA HB)
    go_wp2_with fail
    refine wp_region_noPanic ?_
    refine wp_region_held_drew (S := (fun w' => w'.cell? ⟨w.heap.size, 0, none⟩ = some (.int .i64 n) ∧ w'.cell? ⟨w.heap.size, 1, none⟩ = some v ∧ w'.cell? ⟨w.heap.size + 1, 0, none⟩ = some (.int .i64 n') ∧ w'.cell? ⟨w.heap.size + 1, 1, none⟩ = some v')) (by kernel_rfl) (KS.out _ P0.out.bl) (fun _ => ?_)
    refine wpAnyH_take (i := 0) (v := .agg #[.int .i64 n, v]) rfl (by kernel_rfl) (by kernel_rfl) (by kernel_rfl) (fun _ _ _ h => h) (Or.inl ⟨by rfl, fun w hw => by obtain ⟨q0, q1, q2, q3⟩ := hw; go_simp⟩) (KS.out _ P0.out.bl) ?_
    refine wpAnyH_take (i := 2) (v := .agg #[.int .i64 n', v']) rfl (by kernel_rfl) (by kernel_rfl) (by kernel_rfl) (fun _ _ _ h => h) (Or.inl ⟨by rfl, fun w hw => by obtain ⟨q0, q1, q2, q3⟩ := hw; go_simp⟩) (KS.out _ P0.out.bl) ?_
    revert P0
    generalize W3.drew = w0
    intro P0
    refine wpAnyH_ready (rs := [1, 4, 5]) (by kernel_rfl) (by simp) ?_
    refine AllReadyH.cons rfl (fun K hK => ?_) (AllReadyH.cons rfl (fun K hK => ?_) (AllReadyH.cons rfl (fun K hK => ?_) AllReadyH.nil))
    · go_simp
      refine (HA1.out w0 P0.out.bl).mono ?_
      rintro e w1 ⟨r1, rfl, hl1, hb1⟩
      have P1 := hid (P0.out.call1 hb1 hl1)
      refine hK.out _ _ (KS.out _ P1.out.bl) (fun _ => ?_)
      clear hK K hl1 hb1 P0
      refine wpAnyH_ready (rs := [3, 4, 5]) (by kernel_rfl) (by simp) ?_
      refine AllReadyH.cons rfl (fun K hK => ?_) (AllReadyH.cons rfl (fun K hK => ?_) (AllReadyH.cons rfl (fun K hK => ?_) AllReadyH.nil))
      · go_simp
        refine (HB1.out w1 P1.out.bl).mono ?_
        rintro e w2 ⟨r2, rfl, hl2, hb2⟩
        have P2 := hid (P1.out.call2 hb2 hl2)
        refine hK.out _ _ (KS.out _ P2.out.bl) (fun _ => ?_)
        clear hK K hl2 hb2 P1
        refine wpAnyH_ready (rs := [4, 5]) (by kernel_rfl) (by simp) ?_
        refine AllReadyH.cons rfl (fun K hK => ?_) (AllReadyH.cons rfl (fun K hK => ?_) AllReadyH.nil)
        · go_simp
          have P3 := hid (P2.out.new1)
          refine hK.out _ _ (KS.out _ P3.out.bl) (fun _ => ?_)
          clear hK K P2
          revert P3
          generalize w2.alloc (.cells #[.slice none 0 0] 71) = w3
          generalize w2.heap.size = g3
          intro P3
          refine wpAnyH_ready (rs := [5]) (by kernel_rfl) (by simp) ?_
          refine AllReadyH.cons rfl (fun K hK => ?_) AllReadyH.nil
          · go_simp
            have P4 := hid (P3.out.new2)
            refine hK.out _ _ (KS.out _ P4.out.bl) (fun _ => ?_)
            clear hK K P3
            revert P4
            generalize w3.alloc (.cells #[.slice none 0 0] 71) = w4
            generalize w3.heap.size = g4
            intro P4
            obtain ⟨⟨k0, k1⟩, k2, k3⟩ := P4.out.cells
            have FD := hid P4.out.stored
            obtain ⟨xa, xn, xc, hx⟩ := (P4.out.x1 _ rfl).form
            obtain ⟨ya, yn, yc, hy⟩ := (P4.out.x2 _ rfl).form
            subst hx
            subst hy
            have KX := hid (fun W' (h : Below W3.heap.size W3 W') => KS.out W' h)
            clear KS HA1 HB1
            refine wpAnyH_ready (rs := [6]) (by kernel_rfl) (by simp) ?_
            refine AllReadyH.cons rfl (fun K hK => ?_) AllReadyH.nil
            go_simp
            refine hK.out _ _ (KX.out _ ((save_one w4 g3 (.slice xa xn xc)).below P4.out.bl P4.out.bl.size (fun k e => by have := (P4.out.y1 _ rfl).1; omega))) (fun _ => ?_)
            clear hK K
            refine wpAnyH_ready (rs := [7]) (by kernel_rfl) (by simp) ?_
            refine AllReadyH.cons rfl (fun K hK => ?_) AllReadyH.nil
            go_simp
            refine hK.out _ _ (KX.out _ FD.out.bl) (fun _ => ?_)
            clear hK K
            refine wpAnyH_done (by kernel_rfl) ?_ _
            refine NoPanic.normal ?_
            go_wp2_with fail
            go_meet
            exact ⟨g3, g4, _, _, rfl, rfl, FD⟩
        · go_simp
          have P5 := hid (P2.out.new2)
          refine hK.out _ _ (KS.out _ P5.out.bl) (fun _ => ?_)
          clear hK K P2
          revert P5
          generalize w2.alloc (.cells #[.slice none 0 0] 71) = w5
          generalize w2.heap.size = g5
          intro P5
          refine wpAnyH_ready (rs := [4]) (by kernel_rfl) (by simp) ?_
          refine AllReadyH.cons rfl (fun K hK => ?_) AllReadyH.nil
          · go_simp
            have P6 := hid (P5.out.new1)
            refine hK.out _ _ (KS.out _ P6.out.bl) (fun _ => ?_)
            clear hK K P5
            revert P6
            generalize w5.alloc (.cells #[.slice none 0 0] 71) = w6
            generalize w5.heap.size = g6
            intro P6
            obtain ⟨⟨k0, k1⟩, k2, k3⟩ := P6.out.cells
            have FD := hid P6.out.stored
            obtain ⟨xa, xn, xc, hx⟩ := (P6.out.x1 _ rfl).form
            obtain ⟨ya, yn, yc, hy⟩ := (P6.out.x2 _ rfl).form
            subst hx
            subst hy
            have KX := hid (fun W' (h : Below W3.heap.size W3 W') => KS.out W' h)
            clear KS HA1 HB1
            refine wpAnyH_ready (rs := [6]) (by kernel_rfl) (by simp) ?_
            refine AllReadyH.cons rfl (fun K hK => ?_) AllReadyH.nil
            go_simp
            refine hK.out _ _ (KX.out _ ((save_one w6 g6 (.slice xa xn xc)).below P6.out.bl P6.out.bl.size (fun k e => by have := (P6.out.y1 _ rfl).1; omega))) (fun _ => ?_)
            clear hK K
            refine wpAnyH_ready (rs := [7]) (by kernel_rfl) (by simp) ?_
            refine AllReadyH.cons rfl (fun K hK => ?_) AllReadyH.nil
            go_simp
            refine hK.out _ _ (KX.out _ FD.out.bl) (fun _ => ?_)
            clear hK K
            refine wpAnyH_done (by kernel_rfl) ?_ _
            refine NoPanic.normal ?_
            go_wp2_with fail
            go_meet
            exact ⟨g6, g5, _, _, rfl, rfl, FD⟩
      · go_simp
        have P7 := hid (P1.out.new1)
        refine hK.out _ _ (KS.out _ P7.out.bl) (fun _ => ?_)
        clear hK K P1
        revert P7
        generalize w1.alloc (.cells #[.slice none 0 0] 71) = w7
        generalize w1.heap.size = g7
        intro P7
        refine wpAnyH_ready (rs := [3, 5]) (by kernel_rfl) (by simp) ?_
        refine AllReadyH.cons rfl (fun K hK => ?_) (AllReadyH.cons rfl (fun K hK => ?_) AllReadyH.nil)
        · go_simp
          refine (HB1.out w7 P7.out.bl).mono ?_
          rintro e w8 ⟨r8, rfl, hl8, hb8⟩
          have P8 := hid (P7.out.call2 hb8 hl8)
          refine hK.out _ _ (KS.out _ P8.out.bl) (fun _ => ?_)
          clear hK K hl8 hb8 P7
          refine wpAnyH_ready (rs := [5]) (by kernel_rfl) (by simp) ?_
          refine AllReadyH.cons rfl (fun K hK => ?_) AllReadyH.nil
          · go_simp
            have P9 := hid (P8.out.new2)
            refine hK.out _ _ (KS.out _ P9.out.bl) (fun _ => ?_)
            clear hK K P8
            revert P9
            generalize w8.alloc (.cells #[.slice none 0 0] 71) = w9
            generalize w8.heap.size = g9
            intro P9
            obtain ⟨⟨k0, k1⟩, k2, k3⟩ := P9.out.cells
            have FD := hid P9.out.stored
            obtain ⟨xa, xn, xc, hx⟩ := (P9.out.x1 _ rfl).form
            obtain ⟨ya, yn, yc, hy⟩ := (P9.out.x2 _ rfl).form
            subst hx
            subst hy
            have KX := hid (fun W' (h : Below W3.heap.size W3 W') => KS.out W' h)
            clear KS HA1 HB1
            refine wpAnyH_ready (rs := [6]) (by kernel_rfl) (by simp) ?_
            refine AllReadyH.cons rfl (fun K hK => ?_) AllReadyH.nil
            go_simp
            refine hK.out _ _ (KX.out _ ((save_one w9 g7 (.slice xa xn xc)).below P9.out.bl P9.out.bl.size (fun k e => by have := (P9.out.y1 _ rfl).1; omega))) (fun _ => ?_)
            clear hK K
            refine wpAnyH_ready (rs := [7]) (by kernel_rfl) (by simp) ?_
            refine AllReadyH.cons rfl (fun K hK => ?_) AllReadyH.nil
            go_simp
            refine hK.out _ _ (KX.out _ FD.out.bl) (fun _ => ?_)
            clear hK K
            refine wpAnyH_done (by kernel_rfl) ?_ _
            refine NoPanic.normal ?_
            go_wp2_with fail
            go_meet
            exact ⟨g7, g9, _, _, rfl, rfl, FD⟩
        · go_simp
          have P10 := hid (P7.out.new2)
          refine hK.out _ _ (KS.out _ P10.out.bl) (fun _ => ?_)
          clear hK K P7
          revert P10
          generalize w7.alloc (.cells #[.slice none 0 0] 71) = w10
          generalize w7.heap.size = g10
          intro P10
          refine wpAnyH_ready (rs := [3]) (by kernel_rfl) (by simp) ?_
          refine AllReadyH.cons rfl (fun K hK => ?_) AllReadyH.nil
          · go_simp
            refine (HB1.out w10 P10.out.bl).mono ?_
            rintro e w11 ⟨r11, rfl, hl11, hb11⟩
            have P11 := hid (P10.out.call2 hb11 hl11)
            refine hK.out _ _ (KS.out _ P11.out.bl) (fun _ => ?_)
            clear hK K hl11 hb11 P10
            obtain ⟨⟨k0, k1⟩, k2, k3⟩ := P11.out.cells
            have FD := hid P11.out.stored
            obtain ⟨xa, xn, xc, hx⟩ := (P11.out.x1 _ rfl).form
            obtain ⟨ya, yn, yc, hy⟩ := (P11.out.x2 _ rfl).form
            subst hx
            subst hy
            have KX := hid (fun W' (h : Below W3.heap.size W3 W') => KS.out W' h)
            clear KS HA1 HB1
            refine wpAnyH_ready (rs := [6]) (by kernel_rfl) (by simp) ?_
            refine AllReadyH.cons rfl (fun K hK => ?_) AllReadyH.nil
            go_simp
            refine hK.out _ _ (KX.out _ ((save_one w11 g7 (.slice xa xn xc)).below P11.out.bl P11.out.bl.size (fun k e => by have := (P11.out.y1 _ rfl).1; omega))) (fun _ => ?_)
            clear hK K
            refine wpAnyH_ready (rs := [7]) (by kernel_rfl) (by simp) ?_
            refine AllReadyH.cons rfl (fun K hK => ?_) AllReadyH.nil
            go_simp
            refine hK.out _ _ (KX.out _ FD.out.bl) (fun _ => ?_)
            clear hK K
            refine wpAnyH_done (by kernel_rfl) ?_ _
            refine NoPanic.normal ?_
            go_wp2_with fail
            go_meet
            exact ⟨g7, g10, _, _, rfl, rfl, FD⟩
      · go_simp
        have P12 := hid (P1.out.new2)
        refine hK.out _ _ (KS.out _ P12.out.bl) (fun _ => ?_)
        clear hK K P1
        revert P12
        generalize w1.alloc (.cells #[.slice none 0 0] 71) = w12
        generalize w1.heap.size = g12
        intro P12
        refine wpAnyH_ready (rs := [3, 4]) (by kernel_rfl) (by simp) ?_
        refine AllReadyH.cons rfl (fun K hK => ?_) (AllReadyH.cons rfl (fun K hK => ?_) AllReadyH.nil)
        · go_simp
          refine (HB1.out w12 P12.out.bl).mono ?_
          rintro e w13 ⟨r13, rfl, hl13, hb13⟩
          have P13 := hid (P12.out.call2 hb13 hl13)
          refine hK.out _ _ (KS.out _ P13.out.bl) (fun _ => ?_)
          clear hK K hl13 hb13 P12
          refine wpAnyH_ready (rs := [4]) (by kernel_rfl) (by simp) ?_
          refine AllReadyH.cons rfl (fun K hK => ?_) AllReadyH.nil
          · go_simp
            have P14 := hid (P13.out.new1)
            refine hK.out _ _ (KS.out _ P14.out.bl) (fun _ => ?_)
            clear hK K P13
            revert P14
            generalize w13.alloc (.cells #[.slice none 0 0] 71) = w14
            generalize w13.heap.size = g14
            intro P14
            obtain ⟨⟨k0, k1⟩, k2, k3⟩ := P14.out.cells
            have FD := hid P14.out.stored
            obtain ⟨xa, xn, xc, hx⟩ := (P14.out.x1 _ rfl).form
            obtain ⟨ya, yn, yc, hy⟩ := (P14.out.x2 _ rfl).form
            subst hx
            subst hy
            have KX := hid (fun W' (h : Below W3.heap.size W3 W') => KS.out W' h)
            clear KS HA1 HB1
            refine wpAnyH_ready (rs := [6]) (by kernel_rfl) (by simp) ?_
            refine AllReadyH.cons rfl (fun K hK => ?_) AllReadyH.nil
            go_simp
            refine hK.out _ _ (KX.out _ ((save_one w14 g14 (.slice xa xn xc)).below P14.out.bl P14.out.bl.size (fun k e => by have := (P14.out.y1 _ rfl).1; omega))) (fun _ => ?_)
            clear hK K
            refine wpAnyH_ready (rs := [7]) (by kernel_rfl) (by simp) ?_
            refine AllReadyH.cons rfl (fun K hK => ?_) AllReadyH.nil
            go_simp
            refine hK.out _ _ (KX.out _ FD.out.bl) (fun _ => ?_)
            clear hK K
            refine wpAnyH_done (by kernel_rfl) ?_ _
            refine NoPanic.normal ?_
            go_wp2_with fail
            go_meet
            exact ⟨g14, g12, _, _, rfl, rfl, FD⟩
        · go_simp
          have P15 := hid (P12.out.new1)
          refine hK.out _ _ (KS.out _ P15.out.bl) (fun _ => ?_)
          clear hK K P12
          revert P15
          generalize w12.alloc (.cells #[.slice none 0 0] 71) = w15
          generalize w12.heap.size = g15
          intro P15
          refine wpAnyH_ready (rs := [3]) (by kernel_rfl) (by simp) ?_
          refine AllReadyH.cons rfl (fun K hK => ?_) AllReadyH.nil
          · go_simp
            refine (HB1.out w15 P15.out.bl).mono ?_
            rintro e w16 ⟨r16, rfl, hl16, hb16⟩
            have P16 := hid (P15.out.call2 hb16 hl16)
            refine hK.out _ _ (KS.out _ P16.out.bl) (fun _ => ?_)
            clear hK K hl16 hb16 P15
            obtain ⟨⟨k0, k1⟩, k2, k3⟩ := P16.out.cells
            have FD := hid P16.out.stored
            obtain ⟨xa, xn, xc, hx⟩ := (P16.out.x1 _ rfl).form
            obtain ⟨ya, yn, yc, hy⟩ := (P16.out.x2 _ rfl).form
            subst hx
            subst hy
            have KX := hid (fun W' (h : Below W3.heap.size W3 W') => KS.out W' h)
            clear KS HA1 HB1
            refine wpAnyH_ready (rs := [6]) (by kernel_rfl) (by simp) ?_
            refine AllReadyH.cons rfl (fun K hK => ?_) AllReadyH.nil
            go_simp
            refine hK.out _ _ (KX.out _ ((save_one w16 g15 (.slice xa xn xc)).below P16.out.bl P16.out.bl.size (fun k e => by have := (P16.out.y1 _ rfl).1; omega))) (fun _ => ?_)
            clear hK K
            refine wpAnyH_ready (rs := [7]) (by kernel_rfl) (by simp) ?_
            refine AllReadyH.cons rfl (fun K hK => ?_) AllReadyH.nil
            go_simp
            refine hK.out _ _ (KX.out _ FD.out.bl) (fun _ => ?_)
            clear hK K
            refine wpAnyH_done (by kernel_rfl) ?_ _
            refine NoPanic.normal ?_
            go_wp2_with fail
            go_meet
            exact ⟨g15, g12, _, _, rfl, rfl, FD⟩
    · go_simp
      have P17 := hid (P0.out.new1)
      refine hK.out _ _ (KS.out _ P17.out.bl) (fun _ => ?_)
      clear hK K P0
      revert P17
      generalize w0.alloc (.cells #[.slice none 0 0] 71) = w17
      generalize w0.heap.size = g17
      intro P17
      refine wpAnyH_ready (rs := [1, 5]) (by kernel_rfl) (by simp) ?_
      refine AllReadyH.cons rfl (fun K hK => ?_) (AllReadyH.cons rfl (fun K hK => ?_) AllReadyH.nil)
      · go_simp
        refine (HA1.out w17 P17.out.bl).mono ?_
        rintro e w18 ⟨r18, rfl, hl18, hb18⟩
        have P18 := hid (P17.out.call1 hb18 hl18)
        refine hK.out _ _ (KS.out _ P18.out.bl) (fun _ => ?_)
        clear hK K hl18 hb18 P17
        refine wpAnyH_ready (rs := [3, 5]) (by kernel_rfl) (by simp) ?_
        refine AllReadyH.cons rfl (fun K hK => ?_) (AllReadyH.cons rfl (fun K hK => ?_) AllReadyH.nil)
        · go_simp
          refine (HB1.out w18 P18.out.bl).mono ?_
          rintro e w19 ⟨r19, rfl, hl19, hb19⟩
          have P19 := hid (P18.out.call2 hb19 hl19)
          refine hK.out _ _ (KS.out _ P19.out.bl) (fun _ => ?_)
          clear hK K hl19 hb19 P18
          refine wpAnyH_ready (rs := [5]) (by kernel_rfl) (by simp) ?_
          refine AllReadyH.cons rfl (fun K hK => ?_) AllReadyH.nil
          · go_simp
            have P20 := hid (P19.out.new2)
            refine hK.out _ _ (KS.out _ P20.out.bl) (fun _ => ?_)
            clear hK K P19
            revert P20
            generalize w19.alloc (.cells #[.slice none 0 0] 71) = w20
            generalize w19.heap.size = g20
            intro P20
            obtain ⟨⟨k0, k1⟩, k2, k3⟩ := P20.out.cells
            have FD := hid P20.out.stored
            obtain ⟨xa, xn, xc, hx⟩ := (P20.out.x1 _ rfl).form
            obtain ⟨ya, yn, yc, hy⟩ := (P20.out.x2 _ rfl).form
            subst hx
            subst hy
            have KX := hid (fun W' (h : Below W3.heap.size W3 W') => KS.out W' h)
            clear KS HA1 HB1
            refine wpAnyH_ready (rs := [6]) (by kernel_rfl) (by simp) ?_
            refine AllReadyH.cons rfl (fun K hK => ?_) AllReadyH.nil
            go_simp
            refine hK.out _ _ (KX.out _ ((save_one w20 g17 (.slice xa xn xc)).below P20.out.bl P20.out.bl.size (fun k e => by have := (P20.out.y1 _ rfl).1; omega))) (fun _ => ?_)
            clear hK K
            refine wpAnyH_ready (rs := [7]) (by kernel_rfl) (by simp) ?_
            refine AllReadyH.cons rfl (fun K hK => ?_) AllReadyH.nil
            go_simp
            refine hK.out _ _ (KX.out _ FD.out.bl) (fun _ => ?_)
            clear hK K
            refine wpAnyH_done (by kernel_rfl) ?_ _
            refine NoPanic.normal ?_
            go_wp2_with fail
            go_meet
            exact ⟨g17, g20, _, _, rfl, rfl, FD⟩
        · go_simp
          have P21 := hid (P18.out.new2)
          refine hK.out _ _ (KS.out _ P21.out.bl) (fun _ => ?_)
          clear hK K P18
          revert P21
          generalize w18.alloc (.cells #[.slice none 0 0] 71) = w21
          generalize w18.heap.size = g21
          intro P21
          refine wpAnyH_ready (rs := [3]) (by kernel_rfl) (by simp) ?_
          refine AllReadyH.cons rfl (fun K hK => ?_) AllReadyH.nil
          · go_simp
            refine (HB1.out w21 P21.out.bl).mono ?_
            rintro e w22 ⟨r22, rfl, hl22, hb22⟩
            have P22 := hid (P21.out.call2 hb22 hl22)
            refine hK.out _ _ (KS.out _ P22.out.bl) (fun _ => ?_)
            clear hK K hl22 hb22 P21
            obtain ⟨⟨k0, k1⟩, k2, k3⟩ := P22.out.cells
            have FD := hid P22.out.stored
            obtain ⟨xa, xn, xc, hx⟩ := (P22.out.x1 _ rfl).form
            obtain ⟨ya, yn, yc, hy⟩ := (P22.out.x2 _ rfl).form
            subst hx
            subst hy
            have KX := hid (fun W' (h : Below W3.heap.size W3 W') => KS.out W' h)
            clear KS HA1 HB1
            refine wpAnyH_ready (rs := [6]) (by kernel_rfl) (by simp) ?_
            refine AllReadyH.cons rfl (fun K hK => ?_) AllReadyH.nil
            go_simp
            refine hK.out _ _ (KX.out _ ((save_one w22 g17 (.slice xa xn xc)).below P22.out.bl P22.out.bl.size (fun k e => by have := (P22.out.y1 _ rfl).1; omega))) (fun _ => ?_)
            clear hK K
            refine wpAnyH_ready (rs := [7]) (by kernel_rfl) (by simp) ?_
            refine AllReadyH.cons rfl (fun K hK => ?_) AllReadyH.nil
            go_simp
            refine hK.out _ _ (KX.out _ FD.out.bl) (fun _ => ?_)
            clear hK K
            refine wpAnyH_done (by kernel_rfl) ?_ _
            refine NoPanic.normal ?_
            go_wp2_with fail
            go_meet
            exact ⟨g17, g21, _, _, rfl, rfl, FD⟩
      · go_simp
        have P23 := hid (P17.out.new2)
        refine hK.out _ _ (KS.out _ P23.out.bl) (fun _ => ?_)
        clear hK K P17
        revert P23
        generalize w17.alloc (.cells #[.slice none 0 0] 71) = w23
        generalize w17.heap.size = g23
        intro P23
        refine wpAnyH_ready (rs := [1]) (by kernel_rfl) (by simp) ?_
        refine AllReadyH.cons rfl (fun K hK => ?_) AllReadyH.nil
        · go_simp
          refine (HA1.out w23 P23.out.bl).mono ?_
          rintro e w24 ⟨r24, rfl, hl24, hb24⟩
          have P24 := hid (P23.out.call1 hb24 hl24)
          refine hK.out _ _ (KS.out _ P24.out.bl) (fun _ => ?_)
          clear hK K hl24 hb24 P23
          refine wpAnyH_ready (rs := [3]) (by kernel_rfl) (by simp) ?_
          refine AllReadyH.cons rfl (fun K hK => ?_) AllReadyH.nil
          · go_simp
            refine (HB1.out w24 P24.out.bl).mono ?_
            rintro e w25 ⟨r25, rfl, hl25, hb25⟩
            have P25 := hid (P24.out.call2 hb25 hl25)
            refine hK.out _ _ (KS.out _ P25.out.bl) (fun _ => ?_)
            clear hK K hl25 hb25 P24
            obtain ⟨⟨k0, k1⟩, k2, k3⟩ := P25.out.cells
            have FD := hid P25.out.stored
            obtain ⟨xa, xn, xc, hx⟩ := (P25.out.x1 _ rfl).form
            obtain ⟨ya, yn, yc, hy⟩ := (P25.out.x2 _ rfl).form
            subst hx
            subst hy
            have KX := hid (fun W' (h : Below W3.heap.size W3 W') => KS.out W' h)
            clear KS HA1 HB1
            refine wpAnyH_ready (rs := [6]) (by kernel_rfl) (by simp) ?_
            refine AllReadyH.cons rfl (fun K hK => ?_) AllReadyH.nil
            go_simp
            refine hK.out _ _ (KX.out _ ((save_one w25 g17 (.slice xa xn xc)).below P25.out.bl P25.out.bl.size (fun k e => by have := (P25.out.y1 _ rfl).1; omega))) (fun _ => ?_)
            clear hK K
            refine wpAnyH_ready (rs := [7]) (by kernel_rfl) (by simp) ?_
            refine AllReadyH.cons rfl (fun K hK => ?_) AllReadyH.nil
            go_simp
            refine hK.out _ _ (KX.out _ FD.out.bl) (fun _ => ?_)
            clear hK K
            refine wpAnyH_done (by kernel_rfl) ?_ _
            refine NoPanic.normal ?_
            go_wp2_with fail
            go_meet
            exact ⟨g17, g23, _, _, rfl, rfl, FD⟩
    · go_simp
      have P26 := hid (P0.out.new2)
      refine hK.out _ _ (KS.out _ P26.out.bl) (fun _ => ?_)
      clear hK K P0
      revert P26
      generalize w0.alloc (.cells #[.slice none 0 0] 71) = w26
      generalize w0.heap.size = g26
      intro P26
      refine wpAnyH_ready (rs := [1, 4]) (by kernel_rfl) (by simp) ?_
      refine AllReadyH.cons rfl (fun K hK => ?_) (AllReadyH.cons rfl (fun K hK => ?_) AllReadyH.nil)
      · go_simp
        refine (HA1.out w26 P26.out.bl).mono ?_
        rintro e w27 ⟨r27, rfl, hl27, hb27⟩
        have P27 := hid (P26.out.call1 hb27 hl27)
        refine hK.out _ _ (KS.out _ P27.out.bl) (fun _ => ?_)
        clear hK K hl27 hb27 P26
        refine wpAnyH_ready (rs := [3, 4]) (by kernel_rfl) (by simp) ?_
        refine AllReadyH.cons rfl (fun K hK => ?_) (AllReadyH.cons rfl (fun K hK => ?_) AllReadyH.nil)
        · go_simp
          refine (HB1.out w27 P27.out.bl).mono ?_
          rintro e w28 ⟨r28, rfl, hl28, hb28⟩
          have P28 := hid (P27.out.call2 hb28 hl28)
          refine hK.out _ _ (KS.out _ P28.out.bl) (fun _ => ?_)
          clear hK K hl28 hb28 P27
          refine wpAnyH_ready (rs := [4]) (by kernel_rfl) (by simp) ?_
          refine AllReadyH.cons rfl (fun K hK => ?_) AllReadyH.nil
          · go_simp
            have P29 := hid (P28.out.new1)
            refine hK.out _ _ (KS.out _ P29.out.bl) (fun _ => ?_)
            clear hK K P28
            revert P29
            generalize w28.alloc (.cells #[.slice none 0 0] 71) = w29
            generalize w28.heap.size = g29
            intro P29
            obtain ⟨⟨k0, k1⟩, k2, k3⟩ := P29.out.cells
            have FD := hid P29.out.stored
            obtain ⟨xa, xn, xc, hx⟩ := (P29.out.x1 _ rfl).form
            obtain ⟨ya, yn, yc, hy⟩ := (P29.out.x2 _ rfl).form
            subst hx
            subst hy
            have KX := hid (fun W' (h : Below W3.heap.size W3 W') => KS.out W' h)
            clear KS HA1 HB1
            refine wpAnyH_ready (rs := [6]) (by kernel_rfl) (by simp) ?_
            refine AllReadyH.cons rfl (fun K hK => ?_) AllReadyH.nil
            go_simp
            refine hK.out _ _ (KX.out _ ((save_one w29 g29 (.slice xa xn xc)).below P29.out.bl P29.out.bl.size (fun k e => by have := (P29.out.y1 _ rfl).1; omega))) (fun _ => ?_)
            clear hK K
            refine wpAnyH_ready (rs := [7]) (by kernel_rfl) (by simp) ?_
            refine AllReadyH.cons rfl (fun K hK => ?_) AllReadyH.nil
            go_simp
            refine hK.out _ _ (KX.out _ FD.out.bl) (fun _ => ?_)
            clear hK K
            refine wpAnyH_done (by kernel_rfl) ?_ _
            refine NoPanic.normal ?_
            go_wp2_with fail
            go_meet
            exact ⟨g29, g26, _, _, rfl, rfl, FD⟩
        · go_simp
          have P30 := hid (P27.out.new1)
          refine hK.out _ _ (KS.out _ P30.out.bl) (fun _ => ?_)
          clear hK K P27
          revert P30
          generalize w27.alloc (.cells #[.slice none 0 0] 71) = w30
          generalize w27.heap.size = g30
          intro P30
          refine wpAnyH_ready (rs := [3]) (by kernel_rfl) (by simp) ?_
          refine AllReadyH.cons rfl (fun K hK => ?_) AllReadyH.nil
          · go_simp
            refine (HB1.out w30 P30.out.bl).mono ?_
            rintro e w31 ⟨r31, rfl, hl31, hb31⟩
            have P31 := hid (P30.out.call2 hb31 hl31)
            refine hK.out _ _ (KS.out _ P31.out.bl) (fun _ => ?_)
            clear hK K hl31 hb31 P30
            obtain ⟨⟨k0, k1⟩, k2, k3⟩ := P31.out.cells
            have FD := hid P31.out.stored
            obtain ⟨xa, xn, xc, hx⟩ := (P31.out.x1 _ rfl).form
            obtain ⟨ya, yn, yc, hy⟩ := (P31.out.x2 _ rfl).form
            subst hx
            subst hy
            have KX := hid (fun W' (h : Below W3.heap.size W3 W') => KS.out W' h)
            clear KS HA1 HB1
            refine wpAnyH_ready (rs := [6]) (by kernel_rfl) (by simp) ?_
            refine AllReadyH.cons rfl (fun K hK => ?_) AllReadyH.nil
            go_simp
            refine hK.out _ _ (KX.out _ ((save_one w31 g30 (.slice xa xn xc)).below P31.out.bl P31.out.bl.size (fun k e => by have := (P31.out.y1 _ rfl).1; omega))) (fun _ => ?_)
            clear hK K
            refine wpAnyH_ready (rs := [7]) (by kernel_rfl) (by simp) ?_
            refine AllReadyH.cons rfl (fun K hK => ?_) AllReadyH.nil
            go_simp
            refine hK.out _ _ (KX.out _ FD.out.bl) (fun _ => ?_)
            clear hK K
            refine wpAnyH_done (by kernel_rfl) ?_ _
            refine NoPanic.normal ?_
            go_wp2_with fail
            go_meet
            exact ⟨g30, g26, _, _, rfl, rfl, FD⟩
      · go_simp
        have P32 := hid (P26.out.new1)
        refine hK.out _ _ (KS.out _ P32.out.bl) (fun _ => ?_)
        clear hK K P26
        revert P32
        generalize w26.alloc (.cells #[.slice none 0 0] 71) = w32
        generalize w26.heap.size = g32
        intro P32
        refine wpAnyH_ready (rs := [1]) (by kernel_rfl) (by simp) ?_
        refine AllReadyH.cons rfl (fun K hK => ?_) AllReadyH.nil
        · go_simp
          refine (HA1.out w32 P32.out.bl).mono ?_
          rintro e w33 ⟨r33, rfl, hl33, hb33⟩
          have P33 := hid (P32.out.call1 hb33 hl33)
          refine hK.out _ _ (KS.out _ P33.out.bl) (fun _ => ?_)
          clear hK K hl33 hb33 P32
          refine wpAnyH_ready (rs := [3]) (by kernel_rfl) (by simp) ?_
          refine AllReadyH.cons rfl (fun K hK => ?_) AllReadyH.nil
          · go_simp
            refine (HB1.out w33 P33.out.bl).mono ?_
            rintro e w34 ⟨r34, rfl, hl34, hb34⟩
            have P34 := hid (P33.out.call2 hb34 hl34)
            refine hK.out _ _ (KS.out _ P34.out.bl) (fun _ => ?_)
            clear hK K hl34 hb34 P33
            obtain ⟨⟨k0, k1⟩, k2, k3⟩ := P34.out.cells
            have FD := hid P34.out.stored
            obtain ⟨xa, xn, xc, hx⟩ := (P34.out.x1 _ rfl).form
            obtain ⟨ya, yn, yc, hy⟩ := (P34.out.x2 _ rfl).form
            subst hx
            subst hy
            have KX := hid (fun W' (h : Below W3.heap.size W3 W') => KS.out W' h)
            clear KS HA1 HB1
            refine wpAnyH_ready (rs := [6]) (by kernel_rfl) (by simp) ?_
            refine AllReadyH.cons rfl (fun K hK => ?_) AllReadyH.nil
            go_simp
            refine hK.out _ _ (KX.out _ ((save_one w34 g32 (.slice xa xn xc)).below P34.out.bl P34.out.bl.size (fun k e => by have := (P34.out.y1 _ rfl).1; omega))) (fun _ => ?_)
            clear hK K
            refine wpAnyH_ready (rs := [7]) (by kernel_rfl) (by simp) ?_
            refine AllReadyH.cons rfl (fun K hK => ?_) AllReadyH.nil
            go_simp
            refine hK.out _ _ (KX.out _ FD.out.bl) (fun _ => ?_)
            clear hK K
            refine wpAnyH_done (by kernel_rfl) ?_ _
            refine NoPanic.normal ?_
            go_wp2_with fail
            go_meet
            exact ⟨g32, g26, _, _, rfl, rfl, FD⟩
  case rest =>
    obtain ⟨gx, gy, rx, ry, rfl, rfl, FD⟩ := hcut
    obtain ⟨q0, q1, q2, q3⟩ := KS.out wc FD.out.bl
    have hsc := FD.out.bl.size
    have mk := fun w => run_make_to (2 ^ n') (2 ^ n') (Nat.le_refl _) PL w
    have HT2 : Hid (∃ T, T = 2 ^ n') := ⟨_, rfl⟩
    have HTn : Hid (2 ^ n' = 2 ^ n') := rfl
    rw [show (∀ b ∈ l', b < 2 ^ n') = (∀ b ∈ l', b < 2 ^ n') from rfl] at HLT
    generalize hT : 2 ^ n' = T at *
    have HTE := hid hT
    clear hT HT2 HTn
    have bA : Below wc.heap.size wc (wc.alloc (.cells (madeCells #[.int .i64 0] T) 3)) := (Below.refl _ _).alloc (Nat.le_refl _) _
    have zA := World.size_alloc wc (.cells (madeCells #[.int .i64 0] T) 3)
    have yA := World.alloc_heap_new wc (.cells (madeCells #[.int .i64 0] T) 3)
    have bB : Below (wc.alloc (.cells (madeCells #[.int .i64 0] T) 3)).heap.size (wc.alloc (.cells (madeCells #[.int .i64 0] T) 3)) ((wc.alloc (.cells (madeCells #[.int .i64 0] T) 3)).alloc (.cells #[.slice (some ⟨wc.heap.size, 0, none⟩) T T] 22)) := (Below.refl _ _).alloc (Nat.le_refl _) _
    have zB := World.size_alloc (wc.alloc (.cells (madeCells #[.int .i64 0] T) 3)) (.cells #[.slice (some ⟨wc.heap.size, 0, none⟩) T T] 22)
    have yB := World.alloc_heap_new (wc.alloc (.cells (madeCells #[.int .i64 0] T) 3)) (.cells #[.slice (some ⟨wc.heap.size, 0, none⟩) T T] 22)
    have yA2 := (bB.block _ (by omega)).trans yA
    rw [zA] at yB zB
    have BW := hid (bA.trans (bB.mono (by omega)))
    have OZ : Hid (Own wc.heap.size ((wc.alloc (.cells (madeCells #[.int .i64 0] T) 3)).alloc (.cells #[.slice (some ⟨wc.heap.size, 0, none⟩) T T] 22)) (.slice (some ⟨wc.heap.size, 0, none⟩) T T) (cntL l' T 0)) := by
      show Own _ _ _ _
      rw [cntL_zero]
      exact own_zeros yA2 (Nat.le_refl _) PL
    have YB := hid yB
    clear bA zA yA bB yA2 yB
    go_wp2_with fail
    revert OZ YB BW zB
    generalize (wc.alloc (.cells (madeCells #[.int .i64 0] T) 3)).alloc (.cells #[.slice (some ⟨wc.heap.size, 0, none⟩) T T] 22) = W4
    intro zB BW OZ YB
    go_loopw [9] (fun jx wr => ∃ i : Nat, i ≤ l'.length ∧ jx = .int .i64 i ∧ Hid (Save (fun g => g = wc.heap.size) W4 wr) ∧ Hid (Own wc.heap.size wr (.slice (some ⟨wc.heap.size, 0, none⟩) T T) (cntL l' T i))) (fun jx _ => l'.length - (intOf jx).toNat)
    case atStart => exact ⟨0, Nat.zero_le _, rfl, Save.refl _ _, OZ⟩
    case round =>
      obtain ⟨i, hi, rfl, HSr, HOr⟩ := hrel
      clear OZ q0 q1 q2 q3
      obtain ⟨q0, q1, q2, q3⟩ := KS.out W4 (FD.out.bl.trans (BW.out.mono FD.out.bl.size))
      have hsr := HSr.out.size
      have p0 := HSr.out.cellX q0 (by show w.heap.size ≠ _; omega)
      have p1 := HSr.out.cellX q1 (by show w.heap.size ≠ _; omega)
      have p2 := HSr.out.cellX q2 (by show w.heap.size + 1 ≠ _; omega)
      have p3 := HSr.out.cellX q3 (by show w.heap.size + 1 ≠ _; omega)
      have p4 := HSr.out.cellX (Boxed.cell YB.out) (by show wc.heap.size + 1 ≠ _; omega)
      clear q0 q1 q2 q3
      by_cases hlt : i < l'.length
      · have hlt' : (i : Int) < (l'.length : Int) := by omega
        have hmeas : l'.length - (i + 1) < l'.length - i := by omega
        have BR : Below W3.heap.size W3 wr := HSr.out.below (FD.out.bl.trans (BW.out.mono FD.out.bl.size)) (by omega) (fun k e => by omega)
        obtain ⟨a2, c2, e2, -, hcc⟩ := (IB.out wr BR).nats
        obtain ⟨rfl, rfl⟩ : a1 = a2 ∧ c1 = c2 := by simpa using e2
        obtain ⟨lb, lo, rfl, hlb, hcell⟩ := hcc (by omega)
        have cL := hcell i hlt
        have hbT := HLT.out _ (show l'.getD i 0 ∈ l' by simp [List.getD, hlt])
        have hz := cntL_new (T := T) HUP.out hlt hbT
        have hat := HOr.out.at (i := l'.getD i 0) (by rw [cntL_len]; exact hbT)
        have hfz := HOr.out.frozenAt (j := l'.getD i 0)
        rw [hz] at hat
        have OP := HOr.out.put (j := l'.getD i 0) (x := 1) (by rw [cntL_len]; exact hbT)
        rw [cntL_step hlt] at OP
        have HOP := hid OP
        have sv := hid (Save.setCell (X := fun g => g = wc.heap.size) HSr.out (p := ⟨wc.heap.size, l'.getD i 0, none⟩) (.inl rfl) (.int .i64 ((1 : Nat) : Int)))
        clear hcc hcell e2 hz OP BR HSr HOr KS HA1 HB1
        generalize l'.getD i 0 = b at *
        have hbT2 : (b : Int) < (T : Int) := by omega
        have cT : wr.cell? ⟨wc.heap.size, b, none⟩ = some (.int .i64 0) := hat
        clear hat
        go_wp2_with fail
        go_region
        go_wp2_with fail
        go_roundw
        case rel => exact ⟨i + 1, hlt, by go_num, sv.out.drew, HOP.out.below ((Below.refl _ _).drew)⟩
        case measure => exact hmeas
      · obtain rfl : i = l'.length := by omega
        have hlt' : ¬ ((l'.length : Nat) : Int) < ((l'.length : Nat) : Int) := by omega
        have hsf := fun (a : Addr) (c : Array Value) (w : World) => run_store Tryz.prog w a (.func (.func 55) #[] c) .plain rfl
        have B4 := hid (FD.out.bl.trans (BW.out.mono FD.out.bl.size))
        have B4r := hid (HSr.out.below B4.out (by omega) (fun k e => by omega))
        have BX := hid (fun k (h1 : k < wc.heap.size) => HSr.out.block k (by omega) (by omega) |>.trans (BW.out.block k h1))
        clear KS HA1 HB1 mk
        obtain ⟨WE, hWE⟩ : ∃ WE, (wr.alloc (.cells #[.slice none 0 0] 22)).alloc (.cells #[.func (.func 55) #[] #[.pointer (some ⟨wr.heap.size, 0, none⟩), .pointer (some ⟨w.heap.size, 0, none⟩), .pointer (some ⟨wc.heap.size + 1, 0, none⟩), .pointer (some ⟨w.heap.size + 1 + 1, 0, none⟩), .pointer (some ⟨w.heap.size + 1, 0, none⟩), .pointer (some ⟨gx, 0, none⟩), .pointer (some ⟨gy, 0, none⟩), .pointer (some ⟨wr.heap.size + 1, 0, none⟩)]] 73) = WE := ⟨_, rfl⟩
        have bE : Below wr.heap.size wr WE := by rw [← hWE]; exact ((Below.refl _ _).alloc (Nat.le_refl _) _).alloc (by rw [World.size_alloc]; omega) _
        have zE : WE.heap.size = wr.heap.size + 2 := by rw [← hWE]; simp
        have yP : Boxed WE wr.heap.size 22 (.slice none 0 0) := by
          show WE.heap[wr.heap.size]? = _
          rw [← hWE, Below.heap_alloc _ _ _ (by simp)]
          exact World.alloc_heap_new wr _
        have yF : Boxed WE (wr.heap.size + 1) 73 (.func (.func 55) #[] #[.pointer (some ⟨wr.heap.size, 0, none⟩), .pointer (some ⟨w.heap.size, 0, none⟩), .pointer (some ⟨wc.heap.size + 1, 0, none⟩), .pointer (some ⟨w.heap.size + 1 + 1, 0, none⟩), .pointer (some ⟨w.heap.size + 1, 0, none⟩), .pointer (some ⟨gx, 0, none⟩), .pointer (some ⟨gy, 0, none⟩), .pointer (some ⟨wr.heap.size + 1, 0, none⟩)]) := by
          rw [← hWE]
          have h := World.alloc_heap_new (wr.alloc (.cells #[.slice none 0 0] 22)) (.cells #[.func (.func 55) #[] #[.pointer (some ⟨wr.heap.size, 0, none⟩), .pointer (some ⟨w.heap.size, 0, none⟩), .pointer (some ⟨wc.heap.size + 1, 0, none⟩), .pointer (some ⟨w.heap.size + 1 + 1, 0, none⟩), .pointer (some ⟨w.heap.size + 1, 0, none⟩), .pointer (some ⟨gx, 0, none⟩), .pointer (some ⟨gy, 0, none⟩), .pointer (some ⟨wr.heap.size + 1, 0, none⟩)]] 73)
          rw [World.size_alloc] at h
          exact h
        have BE := hid (B4r.out.trans (bE.mono B4r.out.size))
        have eO : Boxed WE bO 22 (.slice none 0 0) := (BE.out.block _ (by omega)).trans yO
        have eD : Boxed WE bD 4 (.bool false) := (BE.out.block _ (by omega)).trans yD
        have eA : WE.heap[w.heap.size]? = _ := (BE.out.block _ (by omega)).trans xA
        have eB : WE.heap[w.heap.size + 1]? = _ := (BE.out.block _ (by omega)).trans xB
        have eF : Boxed WE (w.heap.size + 1 + 1) _ _ := (BE.out.block (w.heap.size + 2) (by omega)).trans xF
        obtain ⟨e0, e1⟩ := cells2 eA
        obtain ⟨e2, e3⟩ := cells2 eB
        have e4 := yF.cell
        have hsz : wc.heap.size + 2 ≤ wr.heap.size := by have := HSr.out.size; omega
        have B0E := hid (B3.out.trans (BE.out.mono (by omega)))
        by_cases hE : n = n' ∧ l.length = l'.length
        · have HDS : Hid (docS n l n' l' = (walkO (fun _ => habF (cirL n l) (cirL n' l')) (dorN l l') n n none []).2) := if_pos hE
          obtain ⟨hnn, hEL⟩ := hE
          subst hnn
          have gx1 := FD.out.bx.lt
          have gy1 := FD.out.by'.lt
          have gx2 := FD.out.gx
          have gy2 := FD.out.gy
          have LX : ∀ {r : Value} {L : List (List Nat)}, LL W3.heap.size (fun k => k = gx ∨ k = gy) wc r L → LL W3.heap.size (fun k => wc.heap.size ≤ k) WE r L := fun h =>
            (((h.other (Y := fun k => wc.heap.size ≤ k) (fun k e => .inr e)).save (Y := fun _ => False) (Save.of_below BW.out) (fun _ e => e.elim)).save HSr.out (fun k e => .inl (by show wc.heap.size ≤ k; omega))).save (Y := fun _ => False) (Save.of_below bE) (fun _ e => e.elim)
          have RD : ∀ W, Save (zOf wr.heap.size bO bD) WE W → Rds ⟨wr.heap.size, w.heap.size, wc.heap.size + 1, w.heap.size + 1 + 1, w.heap.size + 1, gx, gy, wr.heap.size + 1, bO, bD, wc.heap.size⟩ n (.slice a0 l.length c0) l l' rx ry ((List.range n).map (hab (cirL n l))) ((List.range n).map (hab (cirL n l'))) W := fun W hS => by
            have cx : ∀ {p : Addr} {x : Value}, WE.cell? p = some x → p.block ≠ wr.heap.size → p.block ≠ bO → p.block ≠ bD → W.cell? p = some x := fun hc h1 h2 h3 => hS.cellX hc (by
              rintro (h | h | h)
              · exact h1 h
              · exact h2 h
              · exact h3 h)
            have lr : ∀ {r : Value} {L : List (List Nat)}, LL W3.heap.size (fun k => wc.heap.size ≤ k) WE r L → (∀ x ∈ L, x.length ≤ 256) → LLr W r L := fun h hl => (h.save hS (by
              rintro k (h | h | h)
              · exact .inl (by show wc.heap.size ≤ k; omega)
              · exact .inr (by omega)
              · exact .inr (by omega))).read hl
            have hh : ∀ c : List Nat, ∀ x ∈ (List.range n).map (hab c), x.length ≤ 256 := fun c x hx => by
              obtain ⟨j, _, rfl⟩ := List.mem_map.1 hx
              unfold hab
              simp
            refine ⟨cx e0 (by show w.heap.size ≠ _; omega) (by show w.heap.size ≠ _; omega) (by show w.heap.size ≠ _; omega), cx e1 (by show w.heap.size ≠ _; omega) (by show w.heap.size ≠ _; omega) (by show w.heap.size ≠ _; omega), cx e2 (by show w.heap.size + 1 ≠ _; omega) (by show w.heap.size + 1 ≠ _; omega) (by show w.heap.size + 1 ≠ _; omega), cx eF.cell (by show w.heap.size + 1 + 1 ≠ _; omega) (by show w.heap.size + 1 + 1 ≠ _; omega) (by show w.heap.size + 1 + 1 ≠ _; omega), cx e4 (by show wr.heap.size + 1 ≠ _; omega) (by show wr.heap.size + 1 ≠ _; omega) (by show wr.heap.size + 1 ≠ _; omega), ?_, ?_, lr (LX FD.out.lx) (hh _), lr (LX FD.out.ly) (hh _), ?_, fun t ht => ?_, ?_⟩
            · exact cx (Boxed.cell ((bE.block gx (by omega)).trans ((HSr.out.block gx (by omega) (by show gx ≠ _; omega)).trans ((BW.out.block gx gx1).trans FD.out.bx)))) (by show gx ≠ _; omega) (by show gx ≠ _; omega) (by show gx ≠ _; omega)
            · exact cx (Boxed.cell ((bE.block gy (by omega)).trans ((HSr.out.block gy (by omega) (by show gy ≠ _; omega)).trans ((BW.out.block gy gy1).trans FD.out.by')))) (by show gy ≠ _; omega) (by show gy ≠ _; omega) (by show gy ≠ _; omega)
            · rw [HTE.out]
              exact cx ((bE.cell (p := ⟨wc.heap.size + 1, 0, none⟩) (by show wc.heap.size + 1 < _; omega)).trans p4) (by show wc.heap.size + 1 ≠ _; omega) (by show wc.heap.size + 1 ≠ _; omega) (by show wc.heap.size + 1 ≠ _; omega)
            · rw [HTE.out] at ht
              have hat := HOr.out.at (i := t) (by rw [cntL_len]; exact ht)
              rw [cntL_at ht, List.take_length] at hat
              have hc := cx ((bE.cell (p := ⟨wc.heap.size, t, none⟩) (by show wc.heap.size < _; omega)).trans hat) (by show wc.heap.size ≠ _; omega) (by show wc.heap.size ≠ _; omega) (by show wc.heap.size ≠ _; omega)
              rw [hc]
              by_cases hq : t ∈ l'
              · rw [if_pos hq, if_pos hq]; rfl
              · rw [if_neg hq, if_neg hq]; rfl
            · exact HI0.out.below (hS.below B0E.out (by omega) (by
                rintro k (h | h | h) <;> omega))
          have S0 : OrS WE wr.heap.size bO bD WE (.slice none 0 0) [] none := ⟨Save.refl _ _, yP, Own.nil _ _, eD, .slice none 0 0, eO, Own.nil _ _, fun g e => by cases e⟩
          have D1 := hid (dor_ok ⟨wr.heap.size, w.heap.size, wc.heap.size + 1, w.heap.size + 1 + 1, w.heap.size + 1, gx, gy, wr.heap.size + 1, bO, bD, wc.heap.size⟩ WE n (.slice a0 l.length c0) l l' rx ry (cirL n l) (cirL n l') hn HFN.out (by show wr.heap.size < _; omega) ⟨by show wr.heap.size ≠ bO; omega, by show wr.heap.size ≠ bD; omega, hne⟩ ⟨by show bO < _; omega, by show bD < _; omega⟩ RD n [] none WE _ (by simp) (beg_nil n) S0)
          have hnq : ((n : Int) == (n : Int)) = true := by simp
          have hlq : ((l.length : Int) == (l'.length : Int)) = true := by rw [hEL]; simp
          clear RD S0 LX eA eB eO eD eF yP yF bE FD BW BX HSr HOr YB
          go_upto_region 10 with fail
          clear hWE
          go_wp2_with fail
          refine D1.out.mono ?_
          rintro e W' ⟨rfl, vP', hS'⟩
          have HS := hid hS'
          clear hS' D1
          go_wp2_with fail
          go_end0
          refine ⟨rfl, HS.out.sv.below B0E.out (by omega) (by rintro k (h | h | h) <;> omega), ?_⟩
          rw [HDS.out]
          obtain ⟨r, h1, h2, -⟩ := HS.out.bo
          exact ⟨HS.out.bd, r, h1, h2.mono (by omega)⟩
        · have HDS : Hid (docS n l n' l' = none) := if_neg hE
          have HEE : Hid (OrdE w0 bO bD none WE) := ⟨B0E.out, eD, .slice none 0 0, eO, Own.nil _ _⟩
          by_cases hnn : n = n'
          · have hEL : ¬ l.length = l'.length := fun h => hE ⟨hnn, h⟩
            have hnq : ((n : Int) == (n' : Int)) = true := by rw [hnn]; simp
            have hlq : ((l.length : Int) == (l'.length : Int)) = false := by rw [beq_eq_false_iff_ne]; omega
            clear eA eB eO eD eF yP yF bE FD BW BX HSr HOr YB hE hnn hEL
            go_upto_region 10 with fail
            clear hWE
            go_wp2_with fail
            go_end0
            exact ⟨rfl, by rw [HDS.out]; exact HEE.out⟩
          · have hnq : ((n : Int) == (n' : Int)) = false := by rw [beq_eq_false_iff_ne]; omega
            clear eA eB eO eD eF yP yF bE FD BW BX HSr HOr YB hE hnn
            go_upto_region 10 with fail
            clear hWE
            go_wp2_with fail
            go_end0
            exact ⟨rfl, by rw [HDS.out]; exact HEE.out⟩
end Go.Proofs.YthlmnhcnpffjdaaGreat

namespace Go.Proofs.YthlmnhcnpffjdaaGreat
open Go.RowKit

theorem loop_find (l l' : List Nat) : ∀ (qs : List (List Nat)) (s : Option (List Nat)), (loopL (dorN l l') qs s).2 = ((qs.filter (allB l l')).head?).or s
  | [], s => rfl
  | q :: qs, s => by
    rw [loopL]
    unfold dorN
    by_cases h : allB l l' q = true
    · rw [if_pos h, if_neg (by simp), List.filter_cons_of_pos h]
      rfl
    · rw [if_neg h, if_pos rfl, List.filter_cons_of_neg h]
      exact loop_find l l' qs s
theorem docS_eq {n n' : Nat} {l l' : List Nat} (hn : n ≤ 8) (hf : Fam n l) (hb : Bas l) (hf' : Fam n' l') (hb' : Bas l') : docS n l n' l' = (isoK n l n' l').head? := by
  unfold docS
  by_cases h : n = n' ∧ l.length = l'.length
  · rw [if_pos h]
    obtain ⟨rfl, hl⟩ := h
    rw [walkO_eq, loop_find, doc_orders hn hf hb hf' hb' hl]
    unfold isoK
    rw [if_pos rfl]
    simp
  · rw [if_neg h]
    by_cases hnn : n = n'
    · rw [isoK_len hf (fun e => h ⟨hnn, e⟩)]
      rfl
    · unfold isoK
      rw [if_neg hnn]
      rfl
set_option maxRecDepth 20000 in
set_option maxHeartbeats 1000000 in
theorem IsoR_ok (n n' : Nat) (v v' : Value) (l l' : List Nat) (w : World) (hn : n ≤ 8) (hf : Fam n l) (hb : Bas l) (hI : Ints w v (N l)) (hn' : n' ≤ 8) (hf' : Fam n' l') (hb' : Bas l') (hI' : Ints w v' (N l')) :
    Calls Tryz.prog 10 #[.agg #[.int .i64 n, v], .agg #[.int .i64 n', v']] w fun e W' => ∃ r, e = .returned (.tuple #[r, .bool (isoK n l n' l').head?.isSome]) ∧ Own w.heap.size W' r ((isoK n l n' l').head?.getD []) ∧ Below w.heap.size w W' := by
  have z0 := box2_size w n v n' v'
  have b0 := box2_below w n v n' v'
  have hx : (w.alloc (.cells #[.int .i64 n, v] 24)).alloc (.cells #[.int .i64 n', v'] 24) = box2 w n v n' v' := rfl
  obtain ⟨W2, hW2⟩ : ∃ W2, W2 = box2 w n v n' v' := ⟨_, rfl⟩
  rw [← hW2] at z0 b0
  have b2 : Below W2.heap.size W2 ((W2.alloc (.cells #[.slice none 0 0] 22)).alloc (.cells #[.bool false] 4)) := ((Below.refl _ _).alloc (Nat.le_refl _) _).alloc (by simp) _
  have yO : Boxed ((W2.alloc (.cells #[.slice none 0 0] 22)).alloc (.cells #[.bool false] 4)) W2.heap.size 22 (.slice none 0 0) := by
    show ((W2.alloc (.cells #[.slice none 0 0] 22)).alloc (.cells #[.bool false] 4)).heap[W2.heap.size]? = _
    rw [Below.heap_alloc _ _ _ (by simp)]
    exact World.alloc_heap_new W2 _
  have yD : Boxed ((W2.alloc (.cells #[.slice none 0 0] 22)).alloc (.cells #[.bool false] 4)) (W2.heap.size + 1) 4 (.bool false) := by
    have h := World.alloc_heap_new (W2.alloc (.cells #[.slice none 0 0] 22)) (.cells #[.bool false] 4)
    rw [World.size_alloc] at h
    exact h
  have O1 := hid (Orders_ok n n' v v' l l' W2 _ W2.heap.size (W2.heap.size + 1) hn hf hb (hI.below b0) hn' hf' hb' (hI'.below b0) b2 (Nat.le_refl _) (by omega) (by omega) yO yD)
  rw [docS_eq hn hf hb hf' hb'] at O1
  rw [z0, hW2] at O1
  rw [hW2] at b0
  unfold box2 at O1 b0
  clear z0 hx b2 yO yD hW2
  obtain ⟨a0, c0, rfl, -, -⟩ := hI
  obtain ⟨a1, c1, rfl, -, -⟩ := hI'
  generalize (isoK n l n' l').head? = S at *
  have B0 := hid b0
  clear b0 hf hb hf' hb'
  go_enter Tryz.func10, Tryz.ntmps10
  go_wp2_with fail
  refine O1.out.mono ?_
  rintro e W' ⟨rfl, h1, h2, r, h3, h4⟩
  have HB := hid (h1.trans ((Below.refl _ W').drew.mono h1.size))
  have H4 := hid (h4.below ((Below.refl _ W').drew))
  obtain ⟨ra, rc, hr⟩ := ownsRow_form' h4
  subst hr
  have q1 : W'.cell? ⟨w.heap.size + 1 + 1 + 1, 0, none⟩ = some (.bool S.isSome) := h2.cell
  have q2 : W'.cell? ⟨w.heap.size + 1 + 1, 0, none⟩ = some (.slice ra (S.getD []).length rc) := h3.cell
  clear h1 h2 h3 h4 O1
  go_wp2_with fail
  go_region
  go_wp2_with fail
  go_ret2
  exact ⟨_, rfl, H4.out.mono B0.out.size, B0.out.trans (HB.out.mono B0.out.size)⟩
end Go.Proofs.YthlmnhcnpffjdaaGreat
