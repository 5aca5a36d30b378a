/- same.eachBetween, for whatever function is handed to it. -/
import Derived.Test.YthlmnhcnpffjdaaGreatOrdYQ
import Derived.Test.YthlmnhcnpffjdaaGreatPlainAll
import Derived.Deep.RegionHeld3
import Derived.Lib.SliceRun
namespace Go.Proofs.YthlmnhcnpffjdaaGreat
open Go.RowKit

theorem Save.of_lower {B : Nat} {a b : World} (h : Below B a b) : Save (fun k => B ≤ k) a b := ⟨h.os, h.tape, h.output, h.size, fun i _ hx => h.block i (by omega)⟩
/-- eachBetween's own function: are ranks kept? -/
theorem keepF_ok (n gN gI B bA bB : Nat) (p : List Nat) (vA vB : Value) (rA rB : Nat → Nat) (w : World) (hn : n ≤ 8) (hp : p.length ≤ n) (hb : Beg n p) (hO : OrdAt B w gN gI n p) (hA : RkAt w vA (2 ^ n) rA) (hB : RkAt w vB (2 ^ n) rB) (hbA : Boxed w bA 22 vA) (hbB : Boxed w bB 22 vB) :
    Calls Tryz.prog 64 #[ordV gN gI n p, .pointer (some ⟨bA, 0, none⟩), .pointer (some ⟨bB, 0, none⟩)] w fun e w' => e = .returned (.bool (keepB rA rB p)) ∧ Below w.heap.size w w' := by
  have B1 : Below w.heap.size w (w.alloc (.cells #[.slice (some ⟨gN, 0, none⟩) p.length n, .slice (some ⟨gI, 0, none⟩) (2 ^ p.length) (2 ^ n)] 58)) := (Below.refl _ _).alloc (Nat.le_refl _) _
  have hs0 := Save.of_below (X := fun _ => False) B1
  have K1 := hid (keepsRanks_ok n gN gI B p vA vB rA rB _ hn hp hb (hO.save hs0 id id) (hA.below B1) (hB.below B1))
  have cA := (B1.cell (p := ⟨bA, 0, none⟩) hbA.lt).trans hbA.cell
  have cB := (B1.cell (p := ⟨bB, 0, none⟩) hbB.lt).trans hbB.cell
  obtain ⟨ba, oa, ca, rfl, -, -⟩ := hA
  obtain ⟨bb, ob, cb, rfl, -, -⟩ := hB
  have HB1 := hid B1
  clear hO hs0 hbA hbB hb B1
  unfold ordV
  generalize 2 ^ p.length = K at *
  generalize 2 ^ n = T at *
  go_enter Tryz.func64, Tryz.ntmps64
  go_wp2_with fail
  refine K1.out.mono ?_
  rintro e w2 ⟨rfl, hb2⟩
  have HB2 := hid (HB1.out.trans (hb2.mono HB1.out.size))
  clear hb2 K1
  go_wp2_with fail
  go_ret
  exact ⟨rfl, HB2.out⟩
set_option maxRecDepth 20000 in
set_option maxHeartbeats 2000000 in
theorem between_ok {σ : Type} (m k gf : Nat) (cg : Array Value) (v u : Value) (l l' : List Nat) (fnd : σ → List Nat → Bool × σ) (Inv : Nat → Nat → σ → World → Prop) (s0 : σ) (w : World) (hm : m ≤ 8) (hf : Fam m l) (hb : Bas l) (h : Ints w v (N l)) (hk : k ≤ 8) (hf' : Fam k l') (hb' : Bas l') (h' : Ints w u (N l')) (eg : Enters gf)
    (hst : ∀ gN gI s W W', Inv gN gI s W → Save (fun k => k = gN ∨ k = gI) W W' → Inv gN gI s W')
    (hfnd : ∀ B gN gI s p W, w.heap.size ≤ B → Inv gN gI s W → Beg m p → p.length = m → OrdAt B W gN gI m p → B ≤ W.heap.size → Calls Tryz.prog gf (#[ordV gN gI m p] ++ cg) W fun e W' => e = .returned (.bool (fnd s p).1) ∧ Inv gN gI (fnd s p).2 W' ∧ Save (fun k => k < w.heap.size) W W')
    (hI : ∀ gN gI W, w.heap.size ≤ gN → w.heap.size ≤ gI → Below w.heap.size w W → Inv gN gI s0 W) :
    Calls Tryz.prog 37 #[.agg #[.int .i64 m, v], .agg #[.int .i64 k, u], .func (.func gf) #[] cg] w fun e W' => e = .returned (.int .i64 0) ∧ (∃ gN gI, Inv gN gI (loopL fnd (isoK m l k l') s0).2 W') ∧ w.heap.size ≤ W'.heap.size := by
  have B0 := box2_below w m v k u
  have R1 := hid (both_own m k v u l l' _ hm hf hb (h.below B0) hk hf' hb' (h'.below B0))
  have HSZ := hid (box2_size w m v k u)
  have HBL : Hid (∀ w2, Below (box2 w m v k u).heap.size (box2 w m v k u) w2 → _) := fun w2 h => box2_blocks h
  have HI := hid hI
  have EO : Hid (∀ W2 b1 b2 r r', m = k → l.length = l'.length → Below w.heap.size w W2 → RkOw w.heap.size W2 r (2 ^ m) (rk l) → RkOw w.heap.size W2 r' (2 ^ k) (rk l') → Boxed W2 b1 22 r → Boxed W2 b2 22 r' → w.heap.size ≤ b1 → w.heap.size ≤ b2 →
      Calls Tryz.prog 44 #[.int .i64 m, .func (.func 64) #[] #[.pointer (some ⟨b1, 0, none⟩), .pointer (some ⟨b2, 0, none⟩)], .func (.func gf) #[] cg] W2 fun e W' => e = .returned (.tuple #[]) ∧ (∃ gN gI, Inv gN gI (loopL fnd (isoK m l k l') s0).2 W') ∧ W2.heap.size ≤ W'.heap.size) := by
    intro W2 b1 b2 r r' hmk hll hw2 hr hr' hb1 hb2 h1 h2
    subst hmk
    have hs2 := hw2.size
    have E := each_ok m 64 gf #[.pointer (some ⟨b1, 0, none⟩), .pointer (some ⟨b2, 0, none⟩)] cg (fun _ => keepB (rk l) (rk l')) fnd (fun gN gI s W => Inv gN gI s W ∧ Save (fun k => k < w.heap.size) W2 W ∧ W2.heap.size ≤ gN ∧ W2.heap.size ≤ gI) s0 W2 hm (fun args w => enters_of Tryz.func64 (by kernel_rfl) rfl args w) eg
      (fun gN gI s a b h h3 => ⟨hst gN gI s a b h.1 h3, h.2.1.andThen h3 (fun i hi hy => by omega), h.2.2⟩)
      (fun gN gI s p W hI hbg hp0 hO hs => by
        have hle : p.length ≤ m := hO.num.cap
        refine (keepF_ok m gN gI W2.heap.size b1 b2 p r r' (rk l) (rk l') W hm hle hbg hO (hr.save hI.2.1 (fun _ h => h)).rkAt (hr'.save hI.2.1 (fun _ h => h)).rkAt ((hI.2.1.block b1 hb1.lt (by omega)).trans hb1) ((hI.2.1.block b2 hb2.lt (by omega)).trans hb2)).mono ?_
        rintro e W' ⟨rfl, hb⟩
        exact ⟨rfl, ⟨hst gN gI s W W' hI.1 (Save.of_below hb), hI.2.1.trans (Save.of_below hb), hI.2.2⟩, Save.of_below hb⟩)
      (fun gN gI s p W hI hbg hp0 hO hs => by
        refine (hfnd W2.heap.size gN gI s p W hs2 hI.1 hbg hp0 hO hs).mono ?_
        rintro e W' ⟨rfl, h3, h4⟩
        exact ⟨rfl, ⟨h3, hI.2.1.trans h4, hI.2.2⟩, h4.mono (fun _ h => by omega)⟩)
      (fun gN gI W h1 h2 h3 => ⟨hI gN gI W (by omega) (by omega) (hw2.trans (h3.mono hs2)), Save.of_below h3, h1, h2⟩)
    refine E.mono ?_
    rintro e W' ⟨rfl, ⟨gN, gI, h3⟩, h4⟩
    refine ⟨rfl, ⟨gN, gI, ?_⟩, h4⟩
    rw [walkO_eq, iso_walk hm hf hb hf' hb' (by rw [(hb.rkOn m).zero, (hb'.rkOn m).zero])] at h3
    unfold isoK
    rw [if_pos rfl]
    exact h3.1
  have HN : Hid (l.length ≠ l'.length → isoK m l k l' = []) := fun h => isoK_len hf h
  have HK : Hid (m ≠ k → isoK m l k l' = []) := fun h => if_neg h
  obtain ⟨a0, cap, hv, -, -⟩ := h.nats
  obtain ⟨a1, cap1, hu, -, -⟩ := h'.nats
  subst hv
  subst hu
  clear hst hfnd hI eg hf hb hf' hb' h h' B0
  generalize isoK m l k l' = IL at *
  generalize 2 ^ m = T at *
  generalize 2 ^ k = T' at *
  go_enter Tryz.func37, Tryz.ntmps37
  go_wp2_with fail
  refine R1.out.mono ?_
  rintro e w1 ⟨r, r', rfl, hr, hr', hb1⟩
  obtain ⟨y0, y1⟩ := HBL.out w1 hb1
  have hs1 := hb1.size
  rw [HSZ.out] at hs1
  have bw : Below w.heap.size w w1 := (box2_below w m (.slice a0 l.length cap) k (.slice a1 l'.length cap1)).trans (hb1.mono (by rw [HSZ.out]; omega))
  have hr2 := hr.mono (B' := w.heap.size) (by rw [HSZ.out]; omega)
  have hr2' := hr'.mono (B' := w.heap.size) (by rw [HSZ.out]; omega)
  have bn : Below w1.heap.size w1 ((w1.alloc (.cells #[r] 22)).alloc (.cells #[r'] 22)) := ((Below.refl _ _).alloc (Nat.le_refl _) _).alloc (by simp) _
  have x1 : Boxed ((w1.alloc (.cells #[r] 22)).alloc (.cells #[r'] 22)) w1.heap.size 22 r := (Below.heap_alloc _ _ _ (by simp)).trans (Boxed.new w1 22 r)
  have x2 : Boxed ((w1.alloc (.cells #[r] 22)).alloc (.cells #[r'] 22)) (w1.heap.size + 1) 22 r' := by
    have := Boxed.new (w1.alloc (.cells #[r] 22)) 22 r'
    rwa [World.size_alloc] at this
  have hI2 : ∃ gN gI, Inv gN gI s0 ((w1.alloc (.cells #[r] 22)).alloc (.cells #[r'] 22)) := ⟨w.heap.size, w.heap.size, HI.out _ _ _ (Nat.le_refl _) (Nat.le_refl _) (bw.trans (bn.mono bw.size))⟩
  have hsn := bn.size
  have EO2 := hid (fun e1 e2 => EO.out _ w1.heap.size (w1.heap.size + 1) r r' e1 e2 (bw.trans (bn.mono bw.size)) (hr2.below bn) (hr2'.below bn) x1 x2 (by omega) (by omega))
  obtain ⟨c0, c1⟩ := cells2 ((bn.block w.heap.size (by omega)).trans y0)
  obtain ⟨c2, c3⟩ := cells2 ((bn.block (w.heap.size + 1) (by omega)).trans y1)
  have HI2 := hid hI2
  have hsw : w.heap.size ≤ ((w1.alloc (.cells #[r] 22)).alloc (.cells #[r'] 22)).heap.size := Nat.le_trans bw.size bn.size
  obtain ⟨rb, ro, rc, rfl, -⟩ := hr
  obtain ⟨rb', ro', rc', rfl, -⟩ := hr'
  have HSW := hid hsw
  clear EO R1 HBL hb1 y0 y1 bn x1 x2 bw hI2 hr2 hr2' HSZ HI hsw hsn
  by_cases hmk : m = k
  · have hmk' : ((m : Int) != (k : Int)) = false := by simp [hmk]
    by_cases hll : l.length = l'.length
    · have hll' : ((l.length : Int) != (l'.length : Int)) = false := by simp [hll]
      have E3 := hid (EO2.out hmk hll)
      clear hmk hll EO2 HN HK HI2
      go_wp2_with fail
      refine E3.out.mono ?_
      rintro e w3 ⟨rfl, h3, h4⟩
      have H3 := hid h3
      have H4 := hid (Nat.le_trans HSW.out h4)
      clear h3 h4 E3
      go_wp2_with fail
      go_ret
      exact ⟨rfl, H3.out, H4.out⟩
    · have hll' : ((l.length : Int) != (l'.length : Int)) = true := by rw [bne_iff_ne]; omega
      have e0 := hid (HN.out hll)
      clear hmk hll EO2 HN HK
      go_wp2_with fail
      go_ret
      exact ⟨rfl, by rw [e0.out]; exact HI2.out, HSW.out⟩
  · have hmk' : ((m : Int) != (k : Int)) = true := by rw [bne_iff_ne]; omega
    have e0 := hid (HK.out hmk)
    clear hmk EO2 HN HK
    go_wp2_with fail
    go_ret
    exact ⟨rfl, by rw [e0.out]; exact HI2.out, HSW.out⟩
end Go.Proofs.YthlmnhcnpffjdaaGreat

namespace Go.Proofs.YthlmnhcnpffjdaaGreat
open Go.RowKit

theorem Own.saveV {X : Nat → Prop} {B : Nat} {a b : World} {v : Value} {l : List Nat} (h : Own B a v l) (hs : Save X a b) (hg : ∀ g, v.ownBlock = some g → ¬ X g) : Own B b v l := by
  rcases Go.Joins.ownsRow_forms h with ⟨rfl, h0⟩ | ⟨g, cap, rfl⟩
  · obtain rfl : l = [] := List.length_eq_zero_iff.1 h0
    exact Own.nil _ _
  · exact h.save hs (hg g rfl)
/-- append of a whole list. -/
theorem run_app {B B' : Nat} {w : World} {v : Value} {g c : Nat} {l q : List Nat} (h : Own B w v l) (hq : Own B' w (.slice (some ⟨g, 0, none⟩) q.length c) q) (hl : l.length + q.length ≤ 256) (hB : B ≤ w.heap.size) (ty : TypeId) :
    ∃ v' w', (Builtin.append_ #[22, 22] ty #[v, .slice (some ⟨g, 0, none⟩) q.length c]).run Tryz.prog w = .ok v' w' ∧ Own B w' v' (l ++ q) ∧ w.grownBy w' v.ownBlock := by
  obtain ⟨i0, hi, hz0, hz1, hz2⟩ := info_parts Tryz.infoInt
  obtain ⟨v', w', hrun, r1, r2, r3⟩ := run_append_own (P := Tryz.prog) w B 22 ty 3 i0 (.int .i64 0) 1 8 Tryz.underlying22 hi hz0 hz1 hz2 rfl (by decide) v l.length (V l) h ⟨g, 0, none⟩ q.length c (V q)
    (by rw [V_len, Nat.mul_one]) (fun j u hu => by
      have hj : j < (V q).length := (List.getElem?_eq_some_iff.1 hu).1
      rw [V_len] at hj
      rw [← hu]
      have := World.ownsRow.cellAt hq j (by rw [Nat.mul_one]; exact hj)
      rw [← this]
      simp only [Addr.add]
      split
      · rename_i e; simp_all
      · simp)
    (fun u hu => by obtain ⟨x, _, rfl⟩ := List.mem_map.1 hu; rfl) (by unfold maxLen; omega) (by omega) hB
  refine ⟨v', w', hrun, ?_, r2⟩
  unfold Own
  rw [List.length_append, show V (l ++ q) = V l ++ V q by simp [V]]
  exact r1
theorem wpList_app {B B' : Nat} {w : World} {v : Value} {g c : Nat} {l q : List Nat} {ops : Array Oper} {rest : List Oper} {o : Oper} {a : Act} {Q : Exit → Act → World → Prop} (hgd : o.guard = none) (s x : Operand)
    (ho : o.op = .call { callee := .builtin .append, args := #[s, x], argTypes := #[22, 22] }) (hs : a.eval s = v) (hx : a.eval x = .slice (some ⟨g, 0, none⟩) q.length c) (h : Own B w v l) (hq : Own B' w (.slice (some ⟨g, 0, none⟩) q.length c) q) (hl : l.length + q.length ≤ 256) (hB : B ≤ w.heap.size)
    (hK : ∀ v' w', Own B w' v' (l ++ q) → w.grownBy w' v.ownBlock → wpList Tryz.prog ops Q rest (a.put o.dst v') w') : wpList Tryz.prog ops Q (o :: rest) a w := by
  refine wpList_plain hgd fun K hk => ?_
  obtain ⟨v', w', hrun, h1, h2⟩ := run_app h hq hl hB o.type
  unfold Oper.wp
  simp [execOp, ho, resolve, invoke, builtin, hs, hx, hrun, Result.andThen]
  exact hk _ _ (hK v' w' h1 h2)
set_option maxRecDepth 20000 in
theorem Clone_ok (B g c : Nat) (q : List Nat) (w : World) (hq : Own B w (.slice (some ⟨g, 0, none⟩) q.length c) q) (hl : q.length ≤ 256) :
    Calls Tryz.prog 39 #[.slice (some ⟨g, 0, none⟩) q.length c] w fun e w' => ∃ r, e = .returned r ∧ Own w.heap.size w' r q ∧ Below w.heap.size w w' := by
  have HQ := hid hq
  have hnil : ∀ W, (binOp .eql 22 (.slice (some ⟨g, 0, none⟩) q.length c) (.slice none 0 0)).run Tryz.prog W = .ok (.bool false) W := fun W => Lib.run_eql_slice_nil W _ _ _ _ _ _ _ Tryz.underlying22
  clear hq
  go_enter Tryz.func39, Tryz.ntmps39
  have OE : Own w.heap.size (w.alloc (.cells #[] 3)) (.slice (some ⟨w.heap.size, 0, none⟩) 0 0) [] := ⟨rfl, .inr ⟨w.heap.size, 0, #[], rfl, Nat.le_refl _, World.alloc_heap_new w _, Nat.le_refl _, Nat.zero_le _, rfl, rfl⟩⟩
  have HOE := hid OE
  have HQ2 := hid (HQ.out.save (X := fun _ => False) ((Save.refl _ _).alloc (.cells #[] 3)) id)
  clear OE HQ
  go_wp2_with (at_builtin; refine wpList_app rfl (.tmp 5) (.tmp 6) rfl rfl rfl HOE.out HQ2.out (by simp; omega) (by simp) ?_)
  intro v' w' ho hg
  have H1 : Hid (Own w.heap.size w' v' q) := ho
  have H2 : Hid (Below w.heap.size w w') := ((Below.refl _ w).alloc (Nat.le_refl _) _).grown hg (by simp) (fun k e => by cases e; exact Nat.le_refl _)
  obtain ⟨ra, rc, rfl⟩ := ownsRow_form' H1.out
  clear ho hg
  go_wp2_with fail
  go_ret
  exact ⟨_, rfl, H1.out, H2.out⟩
theorem between_bad (n k : Int) (v u : Value) (zs ys : List Int) (f : Value) (w : World) (h : Ints w v zs) (h' : Ints w u ys) (hc : chk2 n zs k ys ≠ 0) :
    Calls Tryz.prog 37 #[.agg #[.int .i64 n, v], .agg #[.int .i64 k, u], f] w fun e w' => e = .returned (.int .i64 (chk2 n zs k ys)) ∧ Below w.heap.size w w' := by
  have HB0 := hid (box2_below w n v k u)
  have R1 := hid (both_bad n k v u zs ys _ (h.below HB0.out) (h'.below HB0.out) hc)
  obtain ⟨a, cap, rfl, -, -⟩ := h
  obtain ⟨a1, cap1, rfl, -, -⟩ := h'
  generalize chk2 n zs k ys = q at *
  have hq : (q != 0) = true := by simp [hc]
  go_enter Tryz.func37, Tryz.ntmps37
  go_wp2_with fail
  refine R1.out.mono ?_
  rintro e w1 ⟨rfl, hb1⟩
  have HB1 : Hid (Below w.heap.size w ((w1.alloc (.cells #[.slice none 0 0] 22)).alloc (.cells #[.slice none 0 0] 22))) := ((HB0.out.trans (hb1.mono HB0.out.size)).alloc (Nat.le_trans HB0.out.size hb1.size) _).alloc (by have := Nat.le_trans HB0.out.size hb1.size; simp; omega) _
  clear hb1 R1
  go_wp2_with fail
  go_ret
  exact ⟨rfl, HB1.out⟩
/-- The answer: is there one? -/
def ansE (s : Option (List Nat)) : Int := if s.isSome = true then 0 else 5
/-- What Isomorphic's two variables hold. -/
def IsoI (w : World) (gN gI : Nat) (s : Option (List Nat)) (W : World) : Prop :=
  Below w.heap.size w W ∧ w.heap.size + 4 ≤ gN ∧ w.heap.size + 4 ≤ gI ∧ Boxed W (w.heap.size + 3) 25 (.int .i64 (ansE s)) ∧
    ∃ r, Boxed W (w.heap.size + 2) 22 r ∧ Own w.heap.size W r (s.getD []) ∧ ∀ g, r.ownBlock = some g → g ≠ gN ∧ g ≠ gI
theorem IsoI.save {w : World} {gN gI : Nat} {s : Option (List Nat)} {W W' : World} (h : IsoI w gN gI s W) (hs : Save (fun k => k = gN ∨ k = gI) W W') : IsoI w gN gI s W' := by
  obtain ⟨h1, h2, h3, h4, r, h5, h6, h7⟩ := h
  refine ⟨hs.below h1 h1.size (fun k hk => by omega), h2, h3, (hs.block _ h4.lt (by omega)).trans h4, r, (hs.block _ h5.lt (by omega)).trans h5, h6.saveV hs (fun g hg hx => ?_), h7⟩
  have := h7 g hg
  omega
set_option maxRecDepth 20000 in
set_option maxHeartbeats 1000000 in
theorem isoF_ok (w : World) (B gN gI n : Nat) (s : Option (List Nat)) (p : List Nat) (W : World) (_hB : w.heap.size + 4 ≤ B) (hI : IsoI w gN gI s W) (hp : p.length = n) (hn : n ≤ 8) (hO : OrdAt B W gN gI n p) :
    Calls Tryz.prog 38 #[ordV gN gI n p, .pointer (some ⟨w.heap.size + 2, 0, none⟩), .pointer (some ⟨w.heap.size + 3, 0, none⟩)] W fun e W' => e = .returned (.bool false) ∧ IsoI w gN gI (some p) W' ∧ Save (fun k => k < w.heap.size + 4) W W' := by
  have B1 : Below W.heap.size W (W.alloc (.cells #[.slice (some ⟨gN, 0, none⟩) p.length n, .slice (some ⟨gI, 0, none⟩) (2 ^ p.length) (2 ^ n)] 58)) := (Below.refl _ _).alloc (Nat.le_refl _) _
  have C1 := hid (Clone_ok B gN n p _ (hO.num.save (X := fun _ => False) (Save.of_below B1) id) (by omega))
  have HI := hid hI
  have hgN := hO.num.lt
  have hgI := hO.img.lt
  have HB1 := hid B1
  unfold ordV
  clear hO B1 hI hp hn
  generalize 2 ^ p.length = K at *
  generalize 2 ^ n = T at *
  go_enter Tryz.func38, Tryz.ntmps38
  go_wp2_with fail
  refine C1.out.mono ?_
  rintro e w2 ⟨r, rfl, ho, hb2⟩
  obtain ⟨h1, h2, h3, h4, r0, h5, h6, h7⟩ := HI.out
  have hW2 := HB1.out.trans (hb2.mono HB1.out.size)
  have b4 := (hW2.block _ h4.lt).trans h4
  have b5 := (hW2.block _ h5.lt).trans h5
  have hsz := HB1.out.size
  have hz1 : W.heap.size ≤ w2.heap.size := hW2.size
  have c4 := Boxed.cell b4
  have f4 := Boxed.frozen b4
  have c5 := Boxed.cell b5
  have f5 := Boxed.frozen b5
  have hl5 := h5.lt
  have hl4 := h4.lt
  have s3 : Save (fun k => k < w.heap.size + 4) W ((w2.setCell ⟨w.heap.size + 2, 0, none⟩ r).setCell ⟨w.heap.size + 3, 0, none⟩ (.int .i64 0)) := ((Save.of_below hW2).setCell (.inl (by show w.heap.size + 2 < _; omega)) _).setCell (.inl (by show w.heap.size + 3 < _; omega)) _
  have hown : Own W.heap.size ((w2.setCell ⟨w.heap.size + 2, 0, none⟩ r).setCell ⟨w.heap.size + 3, 0, none⟩ (.int .i64 0)) r p := (((ho.mono hsz).set (p := ⟨w.heap.size + 2, 0, none⟩) (by show w.heap.size + 2 < _; omega) _).set (p := ⟨w.heap.size + 3, 0, none⟩) (by show w.heap.size + 3 < _; omega) _)
  have hres : IsoI w gN gI (some p) ((w2.setCell ⟨w.heap.size + 2, 0, none⟩ r).setCell ⟨w.heap.size + 3, 0, none⟩ (.int .i64 0)) := by
    refine ⟨((h1.trans (hW2.mono h1.size)).setCell (p := ⟨w.heap.size + 2, 0, none⟩) (by show _ ≤ w.heap.size + 2; omega) _).setCell (p := ⟨w.heap.size + 3, 0, none⟩) (by show _ ≤ w.heap.size + 3; omega) _, h2, h3, ?_, r, ?_, hown.mono h1.size, fun g hg => ?_⟩
    · exact Boxed.set _ ((Below.heap_setCell _ _ _ _ (by show w.heap.size + 3 ≠ w.heap.size + 2; omega)).trans b4)
    · exact (Below.heap_setCell _ _ _ _ (by show w.heap.size + 2 ≠ w.heap.size + 3; omega)).trans (Boxed.set _ b5)
    · have := (World.ownsRow.lt hown g hg).1
      omega
  have HR := hid hres
  have HS := hid s3
  obtain ⟨ra, rc, rfl⟩ := ownsRow_form' ho
  have c4' : (w2.setCell ⟨w.heap.size + 2, 0, none⟩ (.slice ra p.length rc)).cell? ⟨w.heap.size + 3, 0, none⟩ = some (.int .i64 (ansE s)) := (World.cell?_of_block (w := w2) (Below.heap_setCell _ _ _ _ (by show w.heap.size + 3 ≠ w.heap.size + 2; omega))).trans c4
  have f4' : (w2.setCell ⟨w.heap.size + 2, 0, none⟩ (.slice ra p.length rc)).frozen? ⟨w.heap.size + 3, 0, none⟩ = false := (World.frozen?_of_block (w := w2) (Below.heap_setCell _ _ _ _ (by show w.heap.size + 3 ≠ w.heap.size + 2; omega))).trans f4
  clear hres s3 hown h1 h2 h3 h4 h5 h6 h7 hW2 b4 b5 ho hb2 HI C1 hgN hgI
  go_wp2_with fail
  go_ret
  exact ⟨rfl, HR.out, HS.out⟩
end Go.Proofs.YthlmnhcnpffjdaaGreat

namespace Go.Proofs.YthlmnhcnpffjdaaGreat
open Go.RowKit

theorem loop_head (L : List (List Nat)) : (loopL (fun (_ : Option (List Nat)) (p : List Nat) => (false, some p)) L none).2 = L.head? := by
  cases L with
  | nil => rfl
  | cons q qs => rw [loopL]; rfl
/-- The world where Isomorphic's variables are laid. -/
def box4 (w : World) (m : Int) (v : Value) (k : Int) (u : Value) : World := ((box2 w m v k u).alloc (.cells #[.slice none 0 0] 22)).alloc (.cells #[.int .i64 5] 25)
theorem box4_size (w : World) (m : Int) (v : Value) (k : Int) (u : Value) : (box4 w m v k u).heap.size = w.heap.size + 4 := by unfold box4; simp [box2_size]
theorem box4_two (w : World) (m : Int) (v : Value) (k : Int) (u : Value) : Below (box2 w m v k u).heap.size (box2 w m v k u) (box4 w m v k u) := ((Below.refl _ _).alloc (Nat.le_refl _) _).alloc (by simp) _
theorem box4_first (w : World) (m : Int) (v : Value) (k : Int) (u : Value) : Boxed (box4 w m v k u) (w.heap.size + 2) 22 (.slice none 0 0) := by
  unfold box4
  refine (Below.heap_alloc _ _ _ (by simp [box2_size])).trans ?_
  have := Boxed.new (box2 w m v k u) 22 (.slice none 0 0)
  rwa [box2_size] at this
theorem box4_answer (w : World) (m : Int) (v : Value) (k : Int) (u : Value) : Boxed (box4 w m v k u) (w.heap.size + 3) 25 (.int .i64 5) := by
  unfold box4
  have := Boxed.new ((box2 w m v k u).alloc (.cells #[.slice none 0 0] 22)) 25 (.int .i64 5)
  rwa [World.size_alloc, box2_size] at this
theorem box4_below (w : World) (m : Int) (v : Value) (k : Int) (u : Value) : Below w.heap.size w (box4 w m v k u) := (box2_below w m v k u).trans ((box4_two w m v k u).mono (box2_below w m v k u).size)
theorem box4_cells (w : World) (m : Int) (v : Value) (k : Int) (u : Value) : (box4 w m v k u).cell? ⟨w.heap.size, 0, none⟩ = some (.int .i64 m) ∧ (box4 w m v k u).cell? ⟨w.heap.size, 1, none⟩ = some v ∧ (box4 w m v k u).cell? ⟨w.heap.size + 1, 0, none⟩ = some (.int .i64 k) ∧ (box4 w m v k u).cell? ⟨w.heap.size + 1, 1, none⟩ = some u := by
  obtain ⟨y0, y1⟩ := box2_blocks (box4_two w m v k u)
  exact ⟨(cells2 y0).1, (cells2 y0).2, (cells2 y1).1, (cells2 y1).2⟩
set_option maxRecDepth 20000 in
set_option maxHeartbeats 1000000 in
theorem Isomorphic_ok (m k : Nat) (v u : Value) (l l' : List Nat) (w : World) (hm : m ≤ 8) (hf : Fam m l) (hb : Bas l) (h : Ints w v (N l)) (hk : k ≤ 8) (hf' : Fam k l') (hb' : Bas l') (h' : Ints w u (N l')) :
    Calls Tryz.prog 12 #[.agg #[.int .i64 m, v], .agg #[.int .i64 k, u]] w fun e w' => ∃ r, e = .returned (.tuple #[r, .int .i64 (ansE (isoK m l k l').head?)]) ∧ Own w.heap.size w' r ((isoK m l k l').head?.getD []) ∧ Below w.heap.size w w' := by
  have BW := box4_below w m v k u
  have hsz := box4_size w m v k u
  have E1 := hid (between_ok m k 38 #[.pointer (some ⟨w.heap.size + 2, 0, none⟩), .pointer (some ⟨w.heap.size + 3, 0, none⟩)] v u l l' (fun (_ : Option (List Nat)) p => (false, some p)) (fun gN gI s W => IsoI w gN gI s W) none (box4 w m v k u) hm hf hb (h.below BW) hk hf' hb' (h'.below BW)
    (fun args w => enters_of Tryz.func38 (by kernel_rfl) rfl args w)
    (fun gN gI s W W' h hs => h.save hs)
    (fun B gN gI s p W hB hI hbg hp hO hBW => by
      rw [hsz] at hB ⊢
      exact isoF_ok w B gN gI m s p W hB hI hp hm hO)
    (fun gN gI W h1 h2 h3 => by
      rw [hsz] at h1 h2 h3
      exact ⟨BW.trans (h3.mono (by omega)), h1, h2, (h3.block _ (by omega)).trans (box4_answer w m v k u), _, (h3.block _ (by omega)).trans (box4_first w m v k u), Own.nil _ _, fun g e => by cases e⟩))
  rw [loop_head] at E1
  generalize isoK m l k l' = IL at *
  obtain ⟨x0, x1, x2, x3⟩ := box4_cells w m v k u
  have hw4 : ((box2 w m v k u).alloc (.cells #[.slice none 0 0] 22)).alloc (.cells #[.int .i64 5] 25) = box4 w m v k u := rfl
  obtain ⟨a0, cap, hv, -, -⟩ := h.nats
  obtain ⟨a1, cap1, hu, -, -⟩ := h'.nats
  subst hv
  subst hu
  unfold box2 at hw4
  clear hf hb hf' hb' h h' BW hsz
  go_enter Tryz.func12, Tryz.ntmps12
  go_wp2_with fail
  refine E1.out.mono ?_
  rintro e w2 ⟨rfl, ⟨gN, gI, hI⟩, hs⟩
  obtain ⟨h1, -, -, h4, r, h5, h6, -⟩ := hI
  have c4 : w2.cell? ⟨w.heap.size + 1 + 1 + 1, 0, none⟩ = some (.int .i64 (ansE IL.head?)) := h4.cell
  have c5 : w2.cell? ⟨w.heap.size + 1 + 1, 0, none⟩ = some r := h5.cell
  have HD : Hid (∀ q, Below w.heap.size w (w2.drewN q)) := fun q => h1.trans ⟨rfl, rfl, rfl, Nat.le_refl _, fun _ _ => rfl⟩
  have HO : Hid (∀ q, Own w.heap.size (w2.drewN q) r (IL.head?.getD [])) := fun q => h6.below ⟨rfl, rfl, rfl, Nat.le_refl _, fun _ _ => rfl⟩
  obtain ⟨ra, rc, rfl⟩ := ownsRow_form' h6
  clear h1 h4 h5 h6 E1 hs hw4 x0 x1 x2 x3
  go_wp2_with fail
  go_quiet (fail)
  go_wp2_with fail
  go_ret2
  exact ⟨.slice ra (IL.head?.getD []).length rc, rfl, HO.out _, HD.out _⟩
theorem Isomorphic_bad (n k : Int) (v u : Value) (zs ys : List Int) (w : World) (h : Ints w v zs) (h' : Ints w u ys) (hc : chk2 n zs k ys ≠ 0) :
    Calls Tryz.prog 12 #[.agg #[.int .i64 n, v], .agg #[.int .i64 k, u]] w fun e w' => e = .returned (.tuple #[.slice none 0 0, .int .i64 (chk2 n zs k ys)]) ∧ Below w.heap.size w w' := by
  have BW := box4_below w n v k u
  have E1 := hid (between_bad n k v u zs ys (.func (.func 38) #[] #[.pointer (some ⟨w.heap.size + 2, 0, none⟩), .pointer (some ⟨w.heap.size + 3, 0, none⟩)]) _ (h.below BW) (h'.below BW) hc)
  obtain ⟨x0, x1, x2, x3⟩ := box4_cells w n v k u
  have hw4 : ((box2 w n v k u).alloc (.cells #[.slice none 0 0] 22)).alloc (.cells #[.int .i64 5] 25) = box4 w n v k u := rfl
  have HB := hid BW
  obtain ⟨a0, cap, rfl, -, -⟩ := h
  obtain ⟨a1, cap1, rfl, -, -⟩ := h'
  unfold box2 at hw4
  generalize chk2 n zs k ys = q at *
  have hq : (q != 0) = true := by simp [hc]
  clear BW hc
  go_enter Tryz.func12, Tryz.ntmps12
  go_wp2_with fail
  refine E1.out.mono ?_
  rintro e w2 ⟨rfl, hb2⟩
  have HB2 := hid (HB.out.trans (hb2.mono HB.out.size))
  clear hb2 E1 x0 x1 x2 x3 hw4
  go_wp2_with fail
  go_ret2
  exact ⟨rfl, HB2.out⟩
end Go.Proofs.YthlmnhcnpffjdaaGreat

namespace Go.Proofs.YthlmnhcnpffjdaaGreat
open Go.RowKit

/-- One more is counted. -/
def cntF (s : Int) (_ : List Nat) : Bool × Int := (true, IntKind.i64.wrap (s + 1))
theorem goes_len (n : Nat) : ∀ (k : Nat) (p : List Nat), (goes n k p).length ≤ n ^ k
  | 0, p => by rw [goes]; simp
  | k + 1, p => by
    rw [goes, Nat.pow_succ, Nat.mul_comm]
    have h : ∀ (xs : List Nat), (xs.flatMap fun x => if x ∈ p then [] else goes n k (p ++ [x])).length ≤ xs.length * n ^ k := fun xs => by
      induction xs with
      | nil => simp
      | cons x xs ih =>
        rw [List.flatMap_cons, List.length_append, List.length_cons, Nat.succ_mul]
        have h1 : (if x ∈ p then [] else goes n k (p ++ [x])).length ≤ n ^ k := by
          split
          · exact Nat.zero_le _
          · exact goes_len n k _
        omega
    have := h (List.range n)
    rwa [List.length_range] at this
theorem iso_len {n : Nat} (hn : n ≤ 8) (A B : List Nat) : (isoL n A B).length ≤ 16777216 := by
  have h1 : (isoL n A B).length ≤ (goes n n []).length := List.length_filter_le _ _
  have h2 := goes_len n n []
  have h3 : n ^ n ≤ 8 ^ 8 := Nat.le_trans (Nat.pow_le_pow_left hn n) (Nat.pow_le_pow_right (by decide) hn)
  exact Nat.le_trans h1 (Nat.le_trans h2 (Nat.le_trans h3 (by decide)))
theorem cnt_loop : ∀ (L : List (List Nat)) (s : Nat), s + L.length ≤ 16777216 → (loopL cntF L (s : Int)).2 = ((s + L.length : Nat) : Int)
  | [], s, _ => rfl
  | q :: qs, s, h => by
    rw [List.length_cons] at h
    rw [loopL]
    have e : IntKind.i64.wrap ((s : Int) + 1) = ((s + 1 : Nat) : Int) := by
      rw [show ((s : Int) + 1) = ((s + 1 : Nat) : Int) by omega]
      exact wrap_i64_nat _ (by omega)
    show (if (true : Bool) = true then loopL cntF qs (IntKind.i64.wrap ((s : Int) + 1)) else _).2 = _
    rw [if_pos rfl, e, cnt_loop qs (s + 1) (by omega), List.length_cons]
    congr 1
    omega
/-- What Group's variable holds. -/
def GrpI (w : World) (gN gI : Nat) (s : Int) (W : World) : Prop := Below w.heap.size w W ∧ w.heap.size + 2 ≤ gN ∧ w.heap.size + 2 ≤ gI ∧ Boxed W (w.heap.size + 1) 3 (.int .i64 s)
theorem GrpI.save {w : World} {gN gI : Nat} {s : Int} {W W' : World} (h : GrpI w gN gI s W) (hs : Save (fun k => k = gN ∨ k = gI) W W') : GrpI w gN gI s W' := by
  obtain ⟨h1, h2, h3, h4⟩ := h
  exact ⟨hs.below h1 h1.size (fun k hk => by omega), h2, h3, (hs.block _ h4.lt (by omega)).trans h4⟩
set_option maxRecDepth 20000 in
set_option maxHeartbeats 1000000 in
theorem grpF_ok (w : World) (B gN gI n : Nat) (s : Int) (p : List Nat) (W : World) (hI : GrpI w gN gI s W) (_hO : OrdAt B W gN gI n p) :
    Calls Tryz.prog 40 #[ordV gN gI n p, .pointer (some ⟨w.heap.size + 1, 0, none⟩)] W fun e W' => e = .returned (.bool true) ∧ GrpI w gN gI (IntKind.i64.wrap (s + 1)) W' ∧ Save (fun k => k < w.heap.size + 2) W W' := by
  have B1 : Below W.heap.size W (W.alloc (.cells #[.slice (some ⟨gN, 0, none⟩) p.length n, .slice (some ⟨gI, 0, none⟩) (2 ^ p.length) (2 ^ n)] 58)) := (Below.refl _ _).alloc (Nat.le_refl _) _
  obtain ⟨h1, h2, h3, h4⟩ := hI
  have b4 := (B1.block _ h4.lt).trans h4
  have c4 := Boxed.cell b4
  have f4 := Boxed.frozen b4
  have hl4 := h4.lt
  unfold ordV
  generalize 2 ^ p.length = K at *
  generalize 2 ^ n = T at *
  have HS : Hid (Save (fun k => k < w.heap.size + 2) W ((W.setCell ⟨w.heap.size + 1, 0, none⟩ (.int .i64 (IntKind.i64.wrap (s + 1)))).alloc (.cells #[.slice (some ⟨gN, 0, none⟩) p.length n, .slice (some ⟨gI, 0, none⟩) K T] 58))) := ((Save.refl _ W).setCell (p := ⟨w.heap.size + 1, 0, none⟩) (.inl (by show w.heap.size + 1 < _; omega)) _).alloc _
  have h1s : w.heap.size ≤ W.heap.size := h1.size
  have HR : Hid (GrpI w gN gI (IntKind.i64.wrap (s + 1)) ((W.setCell ⟨w.heap.size + 1, 0, none⟩ (.int .i64 (IntKind.i64.wrap (s + 1)))).alloc (.cells #[.slice (some ⟨gN, 0, none⟩) p.length n, .slice (some ⟨gI, 0, none⟩) K T] 58))) :=
    ⟨(h1.setCell (p := ⟨w.heap.size + 1, 0, none⟩) (by show _ ≤ w.heap.size + 1; omega) _).alloc (by rw [show (W.setCell ⟨w.heap.size + 1, 0, none⟩ (.int .i64 (IntKind.i64.wrap (s + 1)))).heap.size = W.heap.size by simp [World.setCell]]; exact h1s) _, h2, h3, (Below.heap_alloc _ _ _ (by rw [show (W.setCell ⟨w.heap.size + 1, 0, none⟩ (.int .i64 (IntKind.i64.wrap (s + 1)))).heap.size = W.heap.size by simp [World.setCell]]; exact hl4)).trans (Boxed.set _ h4)⟩
  have hwr : wrap64 (s + 1) = IntKind.i64.wrap (s + 1) := by rw [← IntWalk.i64_left]
  generalize IntKind.i64.wrap (s + 1) = s' at *
  clear h1 h2 h3 h4 b4 B1
  go_enter Tryz.func40, Tryz.ntmps40
  go_wp2_with fail
  go_ret
  exact ⟨rfl, HR.out, HS.out⟩
theorem boxG_cells (w : World) (m : Int) (v : Value) : Below w.heap.size w ((w.alloc (.cells #[.int .i64 m, v] 24)).alloc (.cells #[.int .i64 0] 3)) ∧ ((w.alloc (.cells #[.int .i64 m, v] 24)).alloc (.cells #[.int .i64 0] 3)).heap.size = w.heap.size + 2 ∧ ((w.alloc (.cells #[.int .i64 m, v] 24)).alloc (.cells #[.int .i64 0] 3)).heap[w.heap.size]? = some (.cells #[.int .i64 m, v] 24 (0, 0)) ∧ Boxed ((w.alloc (.cells #[.int .i64 m, v] 24)).alloc (.cells #[.int .i64 0] 3)) (w.heap.size + 1) 3 (.int .i64 0) := by
  refine ⟨((Below.refl _ _).alloc (Nat.le_refl _) _).alloc (by simp) _, by simp, (Below.heap_alloc _ _ _ (by simp)).trans (World.alloc_heap_new w _), ?_⟩
  have := Boxed.new (w.alloc (.cells #[.int .i64 m, v] 24)) 3 (.int .i64 0)
  rwa [World.size_alloc] at this
set_option maxRecDepth 20000 in
set_option maxHeartbeats 1000000 in
theorem Group_ok (m : Nat) (v : Value) (l : List Nat) (w : World) (hm : m ≤ 8) (hf : Fam m l) (hb : Bas l) (h : Ints w v (N l)) :
    Calls Tryz.prog 13 #[.agg #[.int .i64 m, v]] w fun e w' => e = .returned (.tuple #[.int .i64 ((isoL m l l).length : Nat), .int .i64 0]) ∧ Below w.heap.size w w' := by
  obtain ⟨BW, hsz, hblk, hbox⟩ := boxG_cells w m v
  have hCL : (loopL cntF (isoK m l m l) 0).2 = ((isoL m l l).length : Int) := by
    have := cnt_loop (isoL m l l) 0 (by have := iso_len hm l l; omega)
    rw [Nat.zero_add] at this
    unfold isoK
    rw [if_pos rfl]
    exact this
  obtain ⟨x0, x1⟩ := cells2 hblk
  have E1 := hid (between_ok m m 40 #[.pointer (some ⟨w.heap.size + 1, 0, none⟩)] v v l l cntF (fun gN gI s W => GrpI w gN gI s W) 0 _ hm hf hb (h.below BW) hm hf hb (h.below BW)
    (fun args w => enters_of Tryz.func40 (by kernel_rfl) rfl args w)
    (fun gN gI s W W' h hs => h.save hs)
    (fun B gN gI s p W hB hI hbg hp hO hBW => by
      rw [hsz]
      exact grpF_ok w B gN gI m s p W hI hO)
    (fun gN gI W h1 h2 h3 => by
      rw [hsz] at h1 h2 h3
      exact ⟨BW.trans (h3.mono (by omega)), h1, h2, (h3.block _ (by omega)).trans hbox⟩))
  rw [hCL] at E1
  obtain ⟨a0, cap, hv, -, -⟩ := h.nats
  subst hv
  generalize (isoL m l l).length = C at *
  clear hf hb h BW hsz hbox hCL hblk
  go_enter Tryz.func13, Tryz.ntmps13
  go_wp2_with fail
  refine E1.out.mono ?_
  rintro e w2 ⟨rfl, ⟨gN, gI, h1, -, -, h4⟩, -⟩
  have c4 := h4.cell
  have H1 := hid h1
  clear h1 h4 E1 x0 x1
  go_wp2_with fail
  go_ret2
  exact ⟨rfl, H1.out⟩
set_option maxHeartbeats 1000000 in
theorem Group_bad (n : Int) (v : Value) (zs : List Int) (w : World) (h : Ints w v zs) (hc : chkR n zs ≠ 0) :
    Calls Tryz.prog 13 #[.agg #[.int .i64 n, v]] w fun e w' => e = .returned (.tuple #[.int .i64 0, .int .i64 (chkR n zs)]) ∧ Below w.heap.size w w' := by
  obtain ⟨BW, hsz, hblk, hbox⟩ := boxG_cells w n v
  have hc2 : chk2 n zs n zs = chkR n zs := by unfold chk2; rw [if_neg hc]
  obtain ⟨x0, x1⟩ := cells2 hblk
  have E1 := hid (between_bad n n v v zs zs (.func (.func 40) #[] #[.pointer (some ⟨w.heap.size + 1, 0, none⟩)]) _ (h.below BW) (h.below BW) (by rw [hc2]; exact hc))
  rw [hc2] at E1
  have HBW := hid BW
  have HBX := hid hbox
  obtain ⟨a0, cap, rfl, -, -⟩ := h
  generalize chkR n zs = q at *
  clear BW hbox hblk hc2
  go_enter Tryz.func13, Tryz.ntmps13
  go_wp2_with fail
  refine E1.out.mono ?_
  rintro e w2 ⟨rfl, hb2⟩
  have b4 : Boxed w2 (w.heap.size + 1) 3 (.int .i64 0) := (hb2.block (w.heap.size + 1) (by omega)).trans HBX.out
  have c4 := b4.cell
  have H1 := hid (HBW.out.trans (hb2.mono HBW.out.size))
  clear hb2 E1 x0 x1 b4
  go_wp2_with fail
  go_ret2
  exact ⟨rfl, H1.out⟩
end Go.Proofs.YthlmnhcnpffjdaaGreat
