/- slices.Clone; same.Isomorphic. -/
import Derived.Test.YtgdcfogikchjeaaOrdJQ
import Derived.Deep.RegionHeld3
import Derived.Lib.SliceRun
namespace Go.Proofs.Ytgdcfogikchjeaa
open Go.RowKit

theorem Own.saveV {X : Nat → Prop} {B : Nat} {a b : World} {v : Value} {l : List Nat} (h : Own B a v l) (hs : Save X a b) (hg : ∀ g, v.ownBlock = some g → ¬ X g) : Own B b v l := by
  rcases Go.Joins.ownsRow_forms h with ⟨rfl, h0⟩ | ⟨g, cap, rfl⟩
  · obtain rfl : l = [] := List.length_eq_zero_iff.1 h0
    exact Own.nil _ _
  · exact h.save hs (hg g rfl)
/-- append of a whole list. -/
theorem run_app {B B' : Nat} {w : World} {v : Value} {g c : Nat} {l q : List Nat} (h : Own B w v l) (hq : Own B' w (.slice (some ⟨g, 0, none⟩) q.length c) q) (hl : l.length + q.length ≤ 256) (hB : B ≤ w.heap.size) (ty : TypeId) :
    ∃ v' w', (Builtin.append_ #[31, 31] ty #[v, .slice (some ⟨g, 0, none⟩) q.length c]).run Try.prog w = .ok v' w' ∧ Own B w' v' (l ++ q) ∧ w.grownBy w' v.ownBlock := by
  obtain ⟨i0, hi, hz0, hz1, hz2⟩ := info_parts Try.infoInt
  obtain ⟨v', w', hrun, r1, r2, r3⟩ := run_append_own (P := Try.prog) w B 31 ty 3 i0 (.int .i64 0) 1 8 Try.underlying31 hi hz0 hz1 hz2 rfl (by decide) v l.length (V l) h ⟨g, 0, none⟩ q.length c (V q)
    (by rw [V_len, Nat.mul_one]) (fun j u hu => by
      have hj : j < (V q).length := (List.getElem?_eq_some_iff.1 hu).1
      rw [V_len] at hj
      rw [← hu]
      have := World.ownsRow.cellAt hq j (by rw [Nat.mul_one]; exact hj)
      rw [← this]
      simp only [Addr.add]
      split
      · rename_i e; simp_all
      · simp)
    (fun u hu => by obtain ⟨x, _, rfl⟩ := List.mem_map.1 hu; rfl) (by unfold maxLen; omega) (by omega) hB
  refine ⟨v', w', hrun, ?_, r2⟩
  unfold Own
  rw [List.length_append, show V (l ++ q) = V l ++ V q by simp [V]]
  exact r1
theorem wpList_app {B B' : Nat} {w : World} {v : Value} {g c : Nat} {l q : List Nat} {ops : Array Oper} {rest : List Oper} {o : Oper} {a : Act} {Q : Exit → Act → World → Prop} (hgd : o.guard = none) (s x : Operand)
    (ho : o.op = .call { callee := .builtin .append, args := #[s, x], argTypes := #[31, 31] }) (hs : a.eval s = v) (hx : a.eval x = .slice (some ⟨g, 0, none⟩) q.length c) (h : Own B w v l) (hq : Own B' w (.slice (some ⟨g, 0, none⟩) q.length c) q) (hl : l.length + q.length ≤ 256) (hB : B ≤ w.heap.size)
    (hK : ∀ v' w', Own B w' v' (l ++ q) → w.grownBy w' v.ownBlock → wpList Try.prog ops Q rest (a.put o.dst v') w') : wpList Try.prog ops Q (o :: rest) a w := by
  refine wpList_plain hgd fun K hk => ?_
  obtain ⟨v', w', hrun, h1, h2⟩ := run_app h hq hl hB o.type
  unfold Oper.wp
  simp [execOp, ho, resolve, invoke, builtin, hs, hx, hrun, Result.andThen]
  exact hk _ _ (hK v' w' h1 h2)
set_option maxRecDepth 20000 in
theorem Clone_ok (B g c : Nat) (q : List Nat) (w : World) (hq : Own B w (.slice (some ⟨g, 0, none⟩) q.length c) q) (hl : q.length ≤ 256) :
    Calls Try.prog 86 #[.slice (some ⟨g, 0, none⟩) q.length c] w fun e w' => ∃ r, e = .returned r ∧ Own w.heap.size w' r q ∧ Below w.heap.size w w' := by
  have HQ := hid hq
  have hnil : ∀ W, (binOp .eql 31 (.slice (some ⟨g, 0, none⟩) q.length c) (.slice none 0 0)).run Try.prog W = .ok (.bool false) W := fun W => Lib.run_eql_slice_nil W _ _ _ _ _ _ _ Try.underlying31
  clear hq
  go_enter Try.func86, Try.ntmps86
  have OE : Own w.heap.size (w.alloc (.cells #[] 3)) (.slice (some ⟨w.heap.size, 0, none⟩) 0 0) [] := ⟨rfl, .inr ⟨w.heap.size, 0, #[], rfl, Nat.le_refl _, World.alloc_heap_new w _, Nat.le_refl _, Nat.zero_le _, rfl, rfl⟩⟩
  have HOE := hid OE
  have HQ2 := hid (HQ.out.save (X := fun _ => False) ((Save.refl _ _).alloc (.cells #[] 3)) id)
  clear OE HQ
  go_wp2_with (at_builtin; refine wpList_app rfl (.tmp 5) (.tmp 6) rfl rfl rfl HOE.out HQ2.out (by simp; omega) (by simp) ?_)
  intro v' w' ho hg
  have H1 : Hid (Own w.heap.size w' v' q) := ho
  have H2 : Hid (Below w.heap.size w w') := ((Below.refl _ w).alloc (Nat.le_refl _) _).grown hg (by simp) (fun k e => by cases e; exact Nat.le_refl _)
  obtain ⟨ra, rc, rfl⟩ := ownsRow_form' H1.out
  clear ho hg
  go_wp2_with fail
  go_ret
  exact ⟨_, rfl, H1.out, H2.out⟩
theorem between_bad (n k : Int) (v u : Value) (zs ys : List Int) (f : Value) (w : World) (h : Ints w v zs) (h' : Ints w u ys) (hc : chk2 n zs k ys ≠ 0) :
    Calls Try.prog 84 #[.agg #[.int .i64 n, v], .agg #[.int .i64 k, u], f] w fun e w' => e = .returned (.int .i64 (chk2 n zs k ys)) ∧ Below w.heap.size w w' := by
  have HB0 := hid (box2_below w n v k u)
  have R1 := hid (both_bad n k v u zs ys _ (h.below HB0.out) (h'.below HB0.out) hc)
  obtain ⟨a, cap, rfl, -, -⟩ := h
  obtain ⟨a1, cap1, rfl, -, -⟩ := h'
  generalize chk2 n zs k ys = q at *
  have hq : (q != 0) = true := by simp [hc]
  go_enter Try.func84, Try.ntmps84
  go_wp2_with fail
  refine R1.out.mono ?_
  rintro e w1 ⟨rfl, hb1⟩
  have HB1 : Hid (Below w.heap.size w ((w1.alloc (.cells #[.slice none 0 0] 31)).alloc (.cells #[.slice none 0 0] 31))) := ((HB0.out.trans (hb1.mono HB0.out.size)).alloc (Nat.le_trans HB0.out.size hb1.size) _).alloc (by have := Nat.le_trans HB0.out.size hb1.size; simp; omega) _
  clear hb1 R1
  go_wp2_with fail
  go_ret
  exact ⟨rfl, HB1.out⟩
/-- The answer: is there one? -/
def ansE (s : Option (List Nat)) : Int := if s.isSome = true then 0 else 5
/-- What Isomorphic's two variables hold. -/
def IsoI (w : World) (gN gI : Nat) (s : Option (List Nat)) (W : World) : Prop :=
  Below w.heap.size w W ∧ w.heap.size + 4 ≤ gN ∧ w.heap.size + 4 ≤ gI ∧ Boxed W (w.heap.size + 3) 28 (.int .i64 (ansE s)) ∧
    ∃ r, Boxed W (w.heap.size + 2) 31 r ∧ Own w.heap.size W r (s.getD []) ∧ ∀ g, r.ownBlock = some g → g ≠ gN ∧ g ≠ gI
theorem IsoI.save {w : World} {gN gI : Nat} {s : Option (List Nat)} {W W' : World} (h : IsoI w gN gI s W) (hs : Save (fun k => k = gN ∨ k = gI) W W') : IsoI w gN gI s W' := by
  obtain ⟨h1, h2, h3, h4, r, h5, h6, h7⟩ := h
  refine ⟨hs.below h1 h1.size (fun k hk => by omega), h2, h3, (hs.block _ h4.lt (by omega)).trans h4, r, (hs.block _ h5.lt (by omega)).trans h5, h6.saveV hs (fun g hg hx => ?_), h7⟩
  have := h7 g hg
  omega
set_option maxRecDepth 20000 in
set_option maxHeartbeats 1000000 in
theorem isoF_ok (w : World) (B gN gI n : Nat) (s : Option (List Nat)) (p : List Nat) (W : World) (_hB : w.heap.size + 4 ≤ B) (hI : IsoI w gN gI s W) (hp : p.length = n) (hn : n ≤ 8) (hO : OrdAt B W gN gI n p) :
    Calls Try.prog 85 #[ordV gN gI n p, .pointer (some ⟨w.heap.size + 2, 0, none⟩), .pointer (some ⟨w.heap.size + 3, 0, none⟩)] W fun e W' => e = .returned (.bool false) ∧ IsoI w gN gI (some p) W' ∧ Save (fun k => k < w.heap.size + 4) W W' := by
  have B1 : Below W.heap.size W (W.alloc (.cells #[.slice (some ⟨gN, 0, none⟩) p.length n, .slice (some ⟨gI, 0, none⟩) (2 ^ p.length) (2 ^ n)] 120)) := (Below.refl _ _).alloc (Nat.le_refl _) _
  have C1 := hid (Clone_ok B gN n p _ (hO.num.save (X := fun _ => False) (Save.of_below B1) id) (by omega))
  have HI := hid hI
  have hgN := hO.num.lt
  have hgI := hO.img.lt
  have HB1 := hid B1
  unfold ordV
  clear hO B1 hI hp hn
  generalize 2 ^ p.length = K at *
  generalize 2 ^ n = T at *
  go_enter Try.func85, Try.ntmps85
  go_wp2_with fail
  refine C1.out.mono ?_
  rintro e w2 ⟨r, rfl, ho, hb2⟩
  obtain ⟨h1, h2, h3, h4, r0, h5, h6, h7⟩ := HI.out
  have hW2 := HB1.out.trans (hb2.mono HB1.out.size)
  have b4 := (hW2.block _ h4.lt).trans h4
  have b5 := (hW2.block _ h5.lt).trans h5
  have hsz := HB1.out.size
  have hz1 : W.heap.size ≤ w2.heap.size := hW2.size
  have c4 := Boxed.cell b4
  have f4 := Boxed.frozen b4
  have c5 := Boxed.cell b5
  have f5 := Boxed.frozen b5
  have hl5 := h5.lt
  have hl4 := h4.lt
  have s3 : Save (fun k => k < w.heap.size + 4) W ((w2.setCell ⟨w.heap.size + 2, 0, none⟩ r).setCell ⟨w.heap.size + 3, 0, none⟩ (.int .i64 0)) := ((Save.of_below hW2).setCell (.inl (by show w.heap.size + 2 < _; omega)) _).setCell (.inl (by show w.heap.size + 3 < _; omega)) _
  have hown : Own W.heap.size ((w2.setCell ⟨w.heap.size + 2, 0, none⟩ r).setCell ⟨w.heap.size + 3, 0, none⟩ (.int .i64 0)) r p := (((ho.mono hsz).set (p := ⟨w.heap.size + 2, 0, none⟩) (by show w.heap.size + 2 < _; omega) _).set (p := ⟨w.heap.size + 3, 0, none⟩) (by show w.heap.size + 3 < _; omega) _)
  have hres : IsoI w gN gI (some p) ((w2.setCell ⟨w.heap.size + 2, 0, none⟩ r).setCell ⟨w.heap.size + 3, 0, none⟩ (.int .i64 0)) := by
    refine ⟨((h1.trans (hW2.mono h1.size)).setCell (p := ⟨w.heap.size + 2, 0, none⟩) (by show _ ≤ w.heap.size + 2; omega) _).setCell (p := ⟨w.heap.size + 3, 0, none⟩) (by show _ ≤ w.heap.size + 3; omega) _, h2, h3, ?_, r, ?_, hown.mono h1.size, fun g hg => ?_⟩
    · exact Boxed.set _ ((Below.heap_setCell _ _ _ _ (by show w.heap.size + 3 ≠ w.heap.size + 2; omega)).trans b4)
    · exact (Below.heap_setCell _ _ _ _ (by show w.heap.size + 2 ≠ w.heap.size + 3; omega)).trans (Boxed.set _ b5)
    · have := (World.ownsRow.lt hown g hg).1
      omega
  have HR := hid hres
  have HS := hid s3
  obtain ⟨ra, rc, rfl⟩ := ownsRow_form' ho
  have c4' : (w2.setCell ⟨w.heap.size + 2, 0, none⟩ (.slice ra p.length rc)).cell? ⟨w.heap.size + 3, 0, none⟩ = some (.int .i64 (ansE s)) := (World.cell?_of_block (w := w2) (Below.heap_setCell _ _ _ _ (by show w.heap.size + 3 ≠ w.heap.size + 2; omega))).trans c4
  have f4' : (w2.setCell ⟨w.heap.size + 2, 0, none⟩ (.slice ra p.length rc)).frozen? ⟨w.heap.size + 3, 0, none⟩ = false := (World.frozen?_of_block (w := w2) (Below.heap_setCell _ _ _ _ (by show w.heap.size + 3 ≠ w.heap.size + 2; omega))).trans f4
  clear hres s3 hown h1 h2 h3 h4 h5 h6 h7 hW2 b4 b5 ho hb2 HI C1 hgN hgI
  go_wp2_with fail
  go_ret
  exact ⟨rfl, HR.out, HS.out⟩
end Go.Proofs.Ytgdcfogikchjeaa

namespace Go.Proofs.Ytgdcfogikchjeaa
open Go.RowKit

theorem loop_head (L : List (List Nat)) : (loopL (fun (_ : Option (List Nat)) (p : List Nat) => (false, some p)) L none).2 = L.head? := by
  cases L with
  | nil => rfl
  | cons q qs => rw [loopL]; rfl
/-- The world where Isomorphic's variables are laid. -/
def box4 (w : World) (m : Int) (v : Value) (k : Int) (u : Value) : World := ((box2 w m v k u).alloc (.cells #[.slice none 0 0] 31)).alloc (.cells #[.int .i64 5] 28)
theorem box4_size (w : World) (m : Int) (v : Value) (k : Int) (u : Value) : (box4 w m v k u).heap.size = w.heap.size + 4 := by unfold box4; simp [box2_size]
theorem box4_two (w : World) (m : Int) (v : Value) (k : Int) (u : Value) : Below (box2 w m v k u).heap.size (box2 w m v k u) (box4 w m v k u) := ((Below.refl _ _).alloc (Nat.le_refl _) _).alloc (by simp) _
theorem box4_first (w : World) (m : Int) (v : Value) (k : Int) (u : Value) : Boxed (box4 w m v k u) (w.heap.size + 2) 31 (.slice none 0 0) := by
  unfold box4
  refine (Below.heap_alloc _ _ _ (by simp [box2_size])).trans ?_
  have := Boxed.new (box2 w m v k u) 31 (.slice none 0 0)
  rwa [box2_size] at this
theorem box4_answer (w : World) (m : Int) (v : Value) (k : Int) (u : Value) : Boxed (box4 w m v k u) (w.heap.size + 3) 28 (.int .i64 5) := by
  unfold box4
  have := Boxed.new ((box2 w m v k u).alloc (.cells #[.slice none 0 0] 31)) 28 (.int .i64 5)
  rwa [World.size_alloc, box2_size] at this
theorem box4_below (w : World) (m : Int) (v : Value) (k : Int) (u : Value) : Below w.heap.size w (box4 w m v k u) := (box2_below w m v k u).trans ((box4_two w m v k u).mono (box2_below w m v k u).size)
theorem box4_cells (w : World) (m : Int) (v : Value) (k : Int) (u : Value) : (box4 w m v k u).cell? ⟨w.heap.size, 0, none⟩ = some (.int .i64 m) ∧ (box4 w m v k u).cell? ⟨w.heap.size, 1, none⟩ = some v ∧ (box4 w m v k u).cell? ⟨w.heap.size + 1, 0, none⟩ = some (.int .i64 k) ∧ (box4 w m v k u).cell? ⟨w.heap.size + 1, 1, none⟩ = some u := by
  obtain ⟨y0, y1⟩ := box2_blocks (box4_two w m v k u)
  exact ⟨(cells2 y0).1, (cells2 y0).2, (cells2 y1).1, (cells2 y1).2⟩
set_option maxRecDepth 20000 in
set_option maxHeartbeats 1000000 in
theorem Isomorphic_ok (m k : Nat) (v u : Value) (l l' : List Nat) (w : World) (hm : m ≤ 8) (hf : Fam m l) (hb : Bas l) (h : Ints w v (N l)) (hk : k ≤ 8) (hf' : Fam k l') (hb' : Bas l') (h' : Ints w u (N l')) :
    Calls Try.prog 74 #[.agg #[.int .i64 m, v], .agg #[.int .i64 k, u]] w fun e w' => ∃ r, e = .returned (.tuple #[r, .int .i64 (ansE (isoK m l k l').head?)]) ∧ Own w.heap.size w' r ((isoK m l k l').head?.getD []) ∧ Below w.heap.size w w' := by
  have BW := box4_below w m v k u
  have hsz := box4_size w m v k u
  have E1 := hid (between_ok m k 85 #[.pointer (some ⟨w.heap.size + 2, 0, none⟩), .pointer (some ⟨w.heap.size + 3, 0, none⟩)] v u l l' (fun (_ : Option (List Nat)) p => (false, some p)) (fun gN gI s W => IsoI w gN gI s W) none (box4 w m v k u) hm hf hb (h.below BW) hk hf' hb' (h'.below BW)
    (fun args w => enters_of Try.func85 (by kernel_rfl) rfl args w)
    (fun gN gI s W W' h hs => h.save hs)
    (fun B gN gI s p W hB hI hbg hp hO hBW => by
      rw [hsz] at hB ⊢
      exact isoF_ok w B gN gI m s p W hB hI hp hm hO)
    (fun gN gI W h1 h2 h3 => by
      rw [hsz] at h1 h2 h3
      exact ⟨BW.trans (h3.mono (by omega)), h1, h2, (h3.block _ (by omega)).trans (box4_answer w m v k u), _, (h3.block _ (by omega)).trans (box4_first w m v k u), Own.nil _ _, fun g e => by cases e⟩))
  rw [loop_head] at E1
  generalize isoK m l k l' = IL at *
  obtain ⟨x0, x1, x2, x3⟩ := box4_cells w m v k u
  have hw4 : ((box2 w m v k u).alloc (.cells #[.slice none 0 0] 31)).alloc (.cells #[.int .i64 5] 28) = box4 w m v k u := rfl
  obtain ⟨a0, cap, hv, -, -⟩ := h.nats
  obtain ⟨a1, cap1, hu, -, -⟩ := h'.nats
  subst hv
  subst hu
  unfold box2 at hw4
  clear hf hb hf' hb' h h' BW hsz
  go_enter Try.func74, Try.ntmps74
  go_wp2_with fail
  refine E1.out.mono ?_
  rintro e w2 ⟨rfl, ⟨gN, gI, hI⟩, hs⟩
  obtain ⟨h1, -, -, h4, r, h5, h6, -⟩ := hI
  have c4 : w2.cell? ⟨w.heap.size + 1 + 1 + 1, 0, none⟩ = some (.int .i64 (ansE IL.head?)) := h4.cell
  have c5 : w2.cell? ⟨w.heap.size + 1 + 1, 0, none⟩ = some r := h5.cell
  have HD : Hid (∀ q, Below w.heap.size w (w2.drewN q)) := fun q => h1.trans ⟨rfl, rfl, rfl, Nat.le_refl _, fun _ _ => rfl⟩
  have HO : Hid (∀ q, Own w.heap.size (w2.drewN q) r (IL.head?.getD [])) := fun q => h6.below ⟨rfl, rfl, rfl, Nat.le_refl _, fun _ _ => rfl⟩
  obtain ⟨ra, rc, rfl⟩ := ownsRow_form' h6
  clear h1 h4 h5 h6 E1 hs hw4 x0 x1 x2 x3
  go_wp2_with fail
  go_quiet (fail)
  go_wp2_with fail
  go_ret2
  exact ⟨.slice ra (IL.head?.getD []).length rc, rfl, HO.out _, HD.out _⟩
theorem Isomorphic_bad (n k : Int) (v u : Value) (zs ys : List Int) (w : World) (h : Ints w v zs) (h' : Ints w u ys) (hc : chk2 n zs k ys ≠ 0) :
    Calls Try.prog 74 #[.agg #[.int .i64 n, v], .agg #[.int .i64 k, u]] w fun e w' => e = .returned (.tuple #[.slice none 0 0, .int .i64 (chk2 n zs k ys)]) ∧ Below w.heap.size w w' := by
  have BW := box4_below w n v k u
  have E1 := hid (between_bad n k v u zs ys (.func (.func 85) #[] #[.pointer (some ⟨w.heap.size + 2, 0, none⟩), .pointer (some ⟨w.heap.size + 3, 0, none⟩)]) _ (h.below BW) (h'.below BW) hc)
  obtain ⟨x0, x1, x2, x3⟩ := box4_cells w n v k u
  have hw4 : ((box2 w n v k u).alloc (.cells #[.slice none 0 0] 31)).alloc (.cells #[.int .i64 5] 28) = box4 w n v k u := rfl
  have HB := hid BW
  obtain ⟨a0, cap, rfl, -, -⟩ := h
  obtain ⟨a1, cap1, rfl, -, -⟩ := h'
  unfold box2 at hw4
  generalize chk2 n zs k ys = q at *
  have hq : (q != 0) = true := by simp [hc]
  clear BW hc
  go_enter Try.func74, Try.ntmps74
  go_wp2_with fail
  refine E1.out.mono ?_
  rintro e w2 ⟨rfl, hb2⟩
  have HB2 := hid (HB.out.trans (hb2.mono HB.out.size))
  clear hb2 E1 x0 x1 x2 x3 hw4
  go_wp2_with fail
  go_ret2
  exact ⟨rfl, HB2.out⟩
end Go.Proofs.Ytgdcfogikchjeaa
