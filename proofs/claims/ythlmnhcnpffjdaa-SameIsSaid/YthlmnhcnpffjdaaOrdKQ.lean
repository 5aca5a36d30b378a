/- slices.Clone; same.Isomorphic. -/
import Derived.Test.YthlmnhcnpffjdaaOrdJQ
import Derived.Deep.RegionHeld3
import Derived.Lib.SliceRun
namespace Go.Proofs.Ythlmnhcnpffjdaa
open Go.RowKit

theorem Own.saveV {X : Nat → Prop} {B : Nat} {a b : World} {v : Value} {l : List Nat} (h : Own B a v l) (hs : Save X a b) (hg : ∀ g, v.ownBlock = some g → ¬ X g) : Own B b v l := by
  rcases Go.Joins.ownsRow_forms h with ⟨rfl, h0⟩ | ⟨g, cap, rfl⟩
  · obtain rfl : l = [] := List.length_eq_zero_iff.1 h0
    exact Own.nil _ _
  · exact h.save hs (hg g rfl)
/-- append of a whole list. -/
theorem run_app {B B' : Nat} {w : World} {v : Value} {g c : Nat} {l q : List Nat} (h : Own B w v l) (hq : Own B' w (.slice (some ⟨g, 0, none⟩) q.length c) q) (hl : l.length + q.length ≤ 256) (hB : B ≤ w.heap.size) (ty : TypeId) :
    ∃ v' w', (Builtin.append_ #[22, 22] ty #[v, .slice (some ⟨g, 0, none⟩) q.length c]).run Try.prog w = .ok v' w' ∧ Own B w' v' (l ++ q) ∧ w.grownBy w' v.ownBlock := by
  obtain ⟨i0, hi, hz0, hz1, hz2⟩ := info_parts Try.infoInt
  obtain ⟨v', w', hrun, r1, r2, r3⟩ := run_append_own (P := Try.prog) w B 22 ty 3 i0 (.int .i64 0) 1 8 Try.underlying22 hi hz0 hz1 hz2 rfl (by decide) v l.length (V l) h ⟨g, 0, none⟩ q.length c (V q)
    (by rw [V_len, Nat.mul_one]) (fun j u hu => by
      have hj : j < (V q).length := (List.getElem?_eq_some_iff.1 hu).1
      rw [V_len] at hj
      rw [← hu]
      have := World.ownsRow.cellAt hq j (by rw [Nat.mul_one]; exact hj)
      rw [← this]
      simp only [Addr.add]
      split
      · rename_i e; simp_all
      · simp)
    (fun u hu => by obtain ⟨x, _, rfl⟩ := List.mem_map.1 hu; rfl) (by unfold maxLen; omega) (by omega) hB
  refine ⟨v', w', hrun, ?_, r2⟩
  unfold Own
  rw [List.length_append, show V (l ++ q) = V l ++ V q by simp [V]]
  exact r1
theorem wpList_app {B B' : Nat} {w : World} {v : Value} {g c : Nat} {l q : List Nat} {ops : Array Oper} {rest : List Oper} {o : Oper} {a : Act} {Q : Exit → Act → World → Prop} (hgd : o.guard = none) (s x : Operand)
    (ho : o.op = .call { callee := .builtin .append, args := #[s, x], argTypes := #[22, 22] }) (hs : a.eval s = v) (hx : a.eval x = .slice (some ⟨g, 0, none⟩) q.length c) (h : Own B w v l) (hq : Own B' w (.slice (some ⟨g, 0, none⟩) q.length c) q) (hl : l.length + q.length ≤ 256) (hB : B ≤ w.heap.size)
    (hK : ∀ v' w', Own B w' v' (l ++ q) → w.grownBy w' v.ownBlock → wpList Try.prog ops Q rest (a.put o.dst v') w') : wpList Try.prog ops Q (o :: rest) a w := by
  refine wpList_plain hgd fun K hk => ?_
  obtain ⟨v', w', hrun, h1, h2⟩ := run_app h hq hl hB o.type
  unfold Oper.wp
  simp [execOp, ho, resolve, invoke, builtin, hs, hx, hrun, Result.andThen]
  exact hk _ _ (hK v' w' h1 h2)
set_option maxRecDepth 20000 in
theorem Clone_ok (B g c : Nat) (q : List Nat) (w : World) (hq : Own B w (.slice (some ⟨g, 0, none⟩) q.length c) q) (hl : q.length ≤ 256) :
    Calls Try.prog 52 #[.slice (some ⟨g, 0, none⟩) q.length c] w fun e w' => ∃ r, e = .returned r ∧ Own w.heap.size w' r q ∧ Below w.heap.size w w' := by
  have HQ := hid hq
  have hnil : ∀ W, (binOp .eql 22 (.slice (some ⟨g, 0, none⟩) q.length c) (.slice none 0 0)).run Try.prog W = .ok (.bool false) W := fun W => Lib.run_eql_slice_nil W _ _ _ _ _ _ _ Try.underlying22
  clear hq
  go_enter Try.func52, Try.ntmps52
  have OE : Own w.heap.size (w.alloc (.cells #[] 3)) (.slice (some ⟨w.heap.size, 0, none⟩) 0 0) [] := ⟨rfl, .inr ⟨w.heap.size, 0, #[], rfl, Nat.le_refl _, World.alloc_heap_new w _, Nat.le_refl _, Nat.zero_le _, rfl, rfl⟩⟩
  have HOE := hid OE
  have HQ2 := hid (HQ.out.save (X := fun _ => False) ((Save.refl _ _).alloc (.cells #[] 3)) id)
  clear OE HQ
  go_wp2_with (at_builtin; refine wpList_app rfl (.tmp 5) (.tmp 6) rfl rfl rfl HOE.out HQ2.out (by simp; omega) (by simp) ?_)
  intro v' w' ho hg
  have H1 : Hid (Own w.heap.size w' v' q) := ho
  have H2 : Hid (Below w.heap.size w w') := ((Below.refl _ w).alloc (Nat.le_refl _) _).grown hg (by simp) (fun k e => by cases e; exact Nat.le_refl _)
  obtain ⟨ra, rc, rfl⟩ := ownsRow_form' H1.out
  clear ho hg
  go_wp2_with fail
  go_ret
  exact ⟨_, rfl, H1.out, H2.out⟩
theorem between_bad (n k : Int) (v u : Value) (zs ys : List Int) (f : Value) (w : World) (h : Ints w v zs) (h' : Ints w u ys) (hc : chk2 n zs k ys ≠ 0) :
    Calls Try.prog 39 #[.agg #[.int .i64 n, v], .agg #[.int .i64 k, u], f] w fun e w' => e = .returned (.int .i64 (chk2 n zs k ys)) ∧ Below w.heap.size w w' := by
  have HB0 := hid (box2_below w n v k u)
  have R1 := hid (both_bad n k v u zs ys _ (h.below HB0.out) (h'.below HB0.out) hc)
  obtain ⟨a, cap, rfl, -, -⟩ := h
  obtain ⟨a1, cap1, rfl, -, -⟩ := h'
  generalize chk2 n zs k ys = q at *
  have hq : (q != 0) = true := by simp [hc]
  go_enter Try.func39, Try.ntmps39
  go_wp2_with fail
  refine R1.out.mono ?_
  rintro e w1 ⟨rfl, hb1⟩
  have HB1 : Hid (Below w.heap.size w ((w1.alloc (.cells #[.slice none 0 0] 22)).alloc (.cells #[.slice none 0 0] 22))) := ((HB0.out.trans (hb1.mono HB0.out.size)).alloc (Nat.le_trans HB0.out.size hb1.size) _).alloc (by have := Nat.le_trans HB0.out.size hb1.size; simp; omega) _
  clear hb1 R1
  go_wp2_with fail
  go_ret
  exact ⟨rfl, HB1.out⟩
/-- The answer: is there one? -/
def ansE (s : Option (List Nat)) : Int := if s.isSome = true then 0 else 5
/-- What Isomorphic's two variables hold. -/
def IsoI (w : World) (gN gI : Nat) (s : Option (List Nat)) (W : World) : Prop :=
  Below w.heap.size w W ∧ w.heap.size + 4 ≤ gN ∧ w.heap.size + 4 ≤ gI ∧ Boxed W (w.heap.size + 3) 25 (.int .i64 (ansE s)) ∧
    ∃ r, Boxed W (w.heap.size + 2) 22 r ∧ Own w.heap.size W r (s.getD []) ∧ ∀ g, r.ownBlock = some g → g ≠ gN ∧ g ≠ gI
theorem IsoI.save {w : World} {gN gI : Nat} {s : Option (List Nat)} {W W' : World} (h : IsoI w gN gI s W) (hs : Save (fun k => k = gN ∨ k = gI) W W') : IsoI w gN gI s W' := by
  obtain ⟨h1, h2, h3, h4, r, h5, h6, h7⟩ := h
  refine ⟨hs.below h1 h1.size (fun k hk => by omega), h2, h3, (hs.block _ h4.lt (by omega)).trans h4, r, (hs.block _ h5.lt (by omega)).trans h5, h6.saveV hs (fun g hg hx => ?_), h7⟩
  have := h7 g hg
  omega
set_option maxRecDepth 20000 in
set_option maxHeartbeats 1000000 in
theorem isoF_ok (w : World) (B gN gI n : Nat) (s : Option (List Nat)) (p : List Nat) (W : World) (_hB : w.heap.size + 4 ≤ B) (hI : IsoI w gN gI s W) (hp : p.length = n) (hn : n ≤ 8) (hO : OrdAt B W gN gI n p) :
    Calls Try.prog 55 #[ordV gN gI n p, .pointer (some ⟨w.heap.size + 2, 0, none⟩), .pointer (some ⟨w.heap.size + 3, 0, none⟩)] W fun e W' => e = .returned (.bool false) ∧ IsoI w gN gI (some p) W' ∧ Save (fun k => k < w.heap.size + 4) W W' := by
  have B1 : Below W.heap.size W (W.alloc (.cells #[.slice (some ⟨gN, 0, none⟩) p.length n, .slice (some ⟨gI, 0, none⟩) (2 ^ p.length) (2 ^ n)] 67)) := (Below.refl _ _).alloc (Nat.le_refl _) _
  have C1 := hid (Clone_ok B gN n p _ (hO.num.save (X := fun _ => False) (Save.of_below B1) id) (by omega))
  have HI := hid hI
  have hgN := hO.num.lt
  have hgI := hO.img.lt
  have HB1 := hid B1
  unfold ordV
  clear hO B1 hI hp hn
  generalize 2 ^ p.length = K at *
  generalize 2 ^ n = T at *
  go_enter Try.func55, Try.ntmps55
  go_wp2_with fail
  refine C1.out.mono ?_
  rintro e w2 ⟨r, rfl, ho, hb2⟩
  obtain ⟨h1, h2, h3, h4, r0, h5, h6, h7⟩ := HI.out
  have hW2 := HB1.out.trans (hb2.mono HB1.out.size)
  have b4 := (hW2.block _ h4.lt).trans h4
  have b5 := (hW2.block _ h5.lt).trans h5
  have hsz := HB1.out.size
  have hz1 : W.heap.size ≤ w2.heap.size := hW2.size
  have c4 := Boxed.cell b4
  have f4 := Boxed.frozen b4
  have c5 := Boxed.cell b5
  have f5 := Boxed.frozen b5
  have hl5 := h5.lt
  have hl4 := h4.lt
  have s3 : Save (fun k => k < w.heap.size + 4) W ((w2.setCell ⟨w.heap.size + 2, 0, none⟩ r).setCell ⟨w.heap.size + 3, 0, none⟩ (.int .i64 0)) := ((Save.of_below hW2).setCell (.inl (by show w.heap.size + 2 < _; omega)) _).setCell (.inl (by show w.heap.size + 3 < _; omega)) _
  have hown : Own W.heap.size ((w2.setCell ⟨w.heap.size + 2, 0, none⟩ r).setCell ⟨w.heap.size + 3, 0, none⟩ (.int .i64 0)) r p := (((ho.mono hsz).set (p := ⟨w.heap.size + 2, 0, none⟩) (by show w.heap.size + 2 < _; omega) _).set (p := ⟨w.heap.size + 3, 0, none⟩) (by show w.heap.size + 3 < _; omega) _)
  have hres : IsoI w gN gI (some p) ((w2.setCell ⟨w.heap.size + 2, 0, none⟩ r).setCell ⟨w.heap.size + 3, 0, none⟩ (.int .i64 0)) := by
    refine ⟨((h1.trans (hW2.mono h1.size)).setCell (p := ⟨w.heap.size + 2, 0, none⟩) (by show _ ≤ w.heap.size + 2; omega) _).setCell (p := ⟨w.heap.size + 3, 0, none⟩) (by show _ ≤ w.heap.size + 3; omega) _, h2, h3, ?_, r, ?_, hown.mono h1.size, fun g hg => ?_⟩
    · exact Boxed.set _ ((Below.heap_setCell _ _ _ _ (by show w.heap.size + 3 ≠ w.heap.size + 2; omega)).trans b4)
    · exact (Below.heap_setCell _ _ _ _ (by show w.heap.size + 2 ≠ w.heap.size + 3; omega)).trans (Boxed.set _ b5)
    · have := (World.ownsRow.lt hown g hg).1
      omega
  have HR := hid hres
  have HS := hid s3
  obtain ⟨ra, rc, rfl⟩ := ownsRow_form' ho
  have c4' : (w2.setCell ⟨w.heap.size + 2, 0, none⟩ (.slice ra p.length rc)).cell? ⟨w.heap.size + 3, 0, none⟩ = some (.int .i64 (ansE s)) := (World.cell?_of_block (w := w2) (Below.heap_setCell _ _ _ _ (by show w.heap.size + 3 ≠ w.heap.size + 2; omega))).trans c4
  have f4' : (w2.setCell ⟨w.heap.size + 2, 0, none⟩ (.slice ra p.length rc)).frozen? ⟨w.heap.size + 3, 0, none⟩ = false := (World.frozen?_of_block (w := w2) (Below.heap_setCell _ _ _ _ (by show w.heap.size + 3 ≠ w.heap.size + 2; omega))).trans f4
  clear hres s3 hown h1 h2 h3 h4 h5 h6 h7 hW2 b4 b5 ho hb2 HI C1 hgN hgI
  go_wp2_with fail
  go_ret
  exact ⟨rfl, HR.out, HS.out⟩
end Go.Proofs.Ythlmnhcnpffjdaa
