/- slices.Grow, slices.Concat. -/
import Derived.Test.YtfajbmcdkhgipaaDoorConcW
import Derived.Test.YtfajbmcdkhgipaaDoorEqQ
import Derived.Deep.RegionHeld3
import Derived.Test.YtfajbmcdkhgipaaDoorOwnW
import Derived.Test.YtfajbmcdkhgipaaDoorTZW
import Derived.Test.YtfajbmcdkhgipaaDoorFgDW
import Derived.Test.YtfajbmcdkhgipaaDoorPlainAll1
namespace Go.Proofs.YtfajbmcdkhgipaaDoor
open Go.RowKit

theorem run_append_made {P : Program} (w : World) (t u ty e : TypeId) (i : TypeInfo) (z : Value) (ht : P.underlying t = some (.slice e)) (hu : P.underlying u = some (.int .i64)) (hi : P.info? e = some i) (hz : i.zero = some z) (hsize : i.size = 1)
    (n : Nat) (h0 : 0 < n) (h63 : (n : Int) ≤ 9223372036854775807) (h48 : n * i.bytes ≤ 281474976710656) :
    (Builtin.append_ #[t, u] ty #[.slice none 0 0, .int .i64 (n : Int)]).run P w =
      .ok (.slice (some ⟨w.heap.size, 0, none⟩) n (grownCap w n 0 e)) (w.drew.alloc (.cells (Builtin.zeroCells z.cells n ++ Builtin.zeroCells z.cells (grownCap w n 0 e - n)) e)) := by
  have hn : n ≠ 0 := by omega
  have h63' : ¬ (9223372036854775807 < (n : Int)) := by omega
  have h48' : ¬ (281474976710656 < Builtin.nextslicecap n 0 * i.bytes) := by rw [nextslicecap_zero h0]; omega
  have hw : IntKind.i64.wrap (n : Int) = (n : Int) := wrap_i64_nat n (by omega)
  have hneg : ¬ (n : Int) < 0 := by omega
  have h48i : ¬ (281474976710656 < (n : Int) * (i.bytes : Int)) := by rw [← Int.natCast_mul]; omega
  simp [Builtin.append_, run_underlying ht, run_underlying hu, sizeOf, typeInfo, zeroValue, hi, hz, hsize, asInt, asIntOf, hw, hneg, h48i, hn, h63', h48', Question.forced, run_firstCells_none, newRow, grownCap]
/-- append(nil, make(n)...), for the walk. -/
theorem wpList_append_made {P : Program} (w : World) {ops : Array Oper} {rest : List Oper} {o : Oper} {a : Act} {Q : Exit → Act → World → Prop} (hgd : o.guard = none) (s x : Operand) (t u : TypeId)
    (ho : o.op = .call { callee := .builtin .append, args := #[s, x], argTypes := #[t, u] })
    (e : TypeId) (i : TypeInfo) (z : Value) (bytes : Nat) (ht : P.underlying t = some (.slice e)) (hu : P.underlying u = some (.int .i64)) (hi : P.info? e = some i) (hz : i.zero = some z) (hsize : i.size = 1) (hby : i.bytes = bytes) (hzs : z.cells.size = 1)
    (n : Nat) (hs : a.eval s = .slice none 0 0) (hx : a.eval x = .int .i64 (n : Int)) (h0 : 0 < n) (h63 : n ≤ maxLen) (h48 : n * bytes ≤ 281474976710656)
    (h : ∀ cap w', w'.ownsRow w.heap.size e 1 (.slice (some ⟨w.heap.size, 0, none⟩) 0 cap) 0 [] → Below w.heap.size w w' → n ≤ cap → wpList P ops Q rest (a.put o.dst (.slice (some ⟨w.heap.size, 0, none⟩) n cap)) w') :
    wpList P ops Q (o :: rest) a w := by
  subst hby
  refine wpList_plain hgd fun K hK => ?_
  have hr := run_append_made (P := P) w t u o.type e i z ht hu hi hz hsize n h0 (by simp only [maxLen] at h63; omega) h48
  have hge := grownCap_ge w n 0 e
  have hcm : grownCap w n 0 e ≤ maxLen := grownCap_le_maxLen w n 0 e h63
  unfold Oper.wp execOp
  simp only [ho, resolve, invoke, builtin, Sem.run_bind, Sem.run_pure, Result.andThen_ok, List.map_toArray, List.map_cons, List.map_nil, hs, hx, hr]
  refine hK _ _ (h _ _ ⟨rfl, .inr ⟨w.heap.size, _, _, rfl, Nat.le_refl _, heap_alloc_new w.drew _, Nat.zero_le _, hcm, ?_, ?_⟩⟩ ((Below.refl _ w).drew.alloc (Nat.le_refl _) _) hge)
  · simp only [Array.size_append, size_zeroCells, hzs]
    omega
  · simp
def flatN (LS : List (List Nat)) (k : Nat) : List Nat := (LS.take k).flatten
theorem flat_succ {LS : List (List Nat)} {k : Nat} (h : k < LS.length) : flatN LS (k + 1) = flatN LS k ++ LS.getD k [] := by
  unfold flatN
  rw [← List.take_append_getElem h, List.flatten_append]
  simp [List.getD, h]
theorem flat_len_le (LS : List (List Nat)) (k : Nat) : (flatN LS k).length ≤ (flatN LS LS.length).length := by
  have e : flatN LS LS.length = flatN LS k ++ (LS.drop k).flatten := by unfold flatN; rw [List.take_length, ← List.flatten_append, List.take_append_drop]
  rw [e, List.length_append]
  omega
theorem V_append (a b : List Nat) : V (a ++ b) = V a ++ V b := by simp [V]
/-- A slice of numbers at a cell. -/
def SlAt (w : World) (g k : Nat) (l : List Nat) : Prop := ∃ b off c, w.cell? ⟨g, k, none⟩ = some (.slice (some ⟨b, off, none⟩) l.length c) ∧ b < w.heap.size ∧ ∀ j u, (V l)[j]? = some u → w.cell? ((⟨b, off, none⟩ : Addr).add j) = some u
theorem SlAt.below {w w' : World} {g k : Nat} {l : List Nat} (hg : g < w.heap.size) (h : SlAt w g k l) (hb : Below w.heap.size w w') : SlAt w' g k l := by
  obtain ⟨b, off, c, h1, h2, h3⟩ := h
  exact ⟨b, off, c, (hb.cell (p := ⟨g, k, none⟩) hg).trans h1, Nat.lt_of_lt_of_le h2 hb.size, fun j u hu => (hb.cell (p := (⟨b, off, none⟩ : Addr).add j) (by simp only [Addr.add]; split <;> exact h2)).trans (h3 j u hu)⟩
end Go.Proofs.YtfajbmcdkhgipaaDoor

namespace Go.Proofs.YtfajbmcdkhgipaaDoor
open Go.RowKit

def VZ (l : List Int) : List Value := l.map (Value.int .i64)
theorem VZ_len (l : List Int) : (VZ l).length = l.length := by simp [VZ]
theorem VZ_snoc (l : List Int) (s : Int) : VZ (l ++ [s]) = VZ l ++ [.int .i64 s] := by simp [VZ]
/-- v is a slice of the call's own, of elements of type t, that holds l. -/
def OwnZ (t : TypeId) (B : Nat) (w : World) (v : Value) (l : List Int) : Prop := w.ownsRow B t 1 v l.length (VZ l)
theorem OwnZ.nil (t : TypeId) (B : Nat) (w : World) : OwnZ t B w (.slice none 0 0) [] := World.ownsRow_nil _ _ _ _
theorem OwnZ.snoc {t : TypeId} {B : Nat} {w : World} {v : Value} {l : List Int} {s : Int} (h : w.ownsRow B t 1 v (l.length + 1) (VZ l ++ [.int .i64 s])) : OwnZ t B w v (l ++ [s]) := by
  unfold OwnZ; rw [VZ_snoc]; simpa using h
theorem OwnZ.grown {t : TypeId} {B : Nat} {w wr w1 : World} {u : Value} {l : List Int} {o : Obj} (hown : OwnZ t B wr u l) (hnx : Below B w wr) (hB : B ≤ wr.heap.size) (hg : (wr.alloc o).grownBy w1 u.ownBlock) : Below B w w1 :=
  (hnx.alloc hB o).grown hg (by simp; omega) (fun j hj => (World.ownsRow.lt hown j hj).1)
theorem OwnZ.below {t : TypeId} {B : Nat} {w w' : World} {v : Value} {l : List Int} (h : OwnZ t B w v l) (hb : Below w.heap.size w w') : OwnZ t B w' v l := by
  obtain ⟨h0, h1⟩ := h
  refine ⟨h0, h1.imp_right ?_⟩
  rintro ⟨g, cap, cur, hv, hg, hheap, hr⟩
  have hlt : g < w.heap.size := by
    rcases Nat.lt_or_ge g w.heap.size with h | h
    · exact h
    · rw [Array.getElem?_eq_none h] at hheap; cases hheap
  exact ⟨g, cap, cur, hv, hg, (hb.block g hlt).trans hheap, hr⟩
theorem OwnZ.mono {t : TypeId} {B B' : Nat} {w : World} {v : Value} {l : List Int} (h : OwnZ t B w v l) (hb : B' ≤ B) : OwnZ t B' w v l := Go.Joins.ownsRow_le h hb
theorem OwnZ.ints {t : TypeId} {B : Nat} {w : World} {v : Value} {l : List Int} (h : OwnZ t B w v l) (hl : l.length ≤ 17592186044416) : Ints w v l := by
  rcases Go.Joins.ownsRow_forms h with ⟨rfl, h0⟩ | ⟨g, cap, rfl⟩
  · have : l = [] := List.length_eq_zero_iff.1 h0
    subst this
    exact ⟨none, 0, rfl, by simp, fun h => by simp at h⟩
  · refine ⟨_, cap, rfl, hl, fun hn => ⟨g, 0, rfl, ?_, fun i hi => ?_⟩⟩
    · exact (World.ownsRow.lt h g rfl).2
    · rw [Nat.zero_add, World.ownsRow.cellAt h i (by omega)]
      simp [VZ, List.getD, hi]
end Go.Proofs.YtfajbmcdkhgipaaDoor

namespace Go.Proofs.YtfajbmcdkhgipaaDoor
open Go.RowKit

theorem ownZ_form {t : TypeId} {B : Nat} {w : World} {v : Value} {l : List Int} (h : OwnZ t B w v l) : ∃ a c, v = .slice a l.length c := by
  rcases Go.Joins.ownsRow_forms h with ⟨rfl, h0⟩ | ⟨g, cap, rfl⟩
  · exact ⟨_, _, by rw [h0]⟩
  · exact ⟨_, _, rfl⟩
set_option maxRecDepth 20000 in
set_option maxHeartbeats 800000 in
theorem GrowZ_any (n : Nat) (w : World) (hn : 0 < n) (hn2 : n ≤ 512) :
    Calls Tryd.prog 33 #[.slice none 0 0, .int .i64 n] w fun e w' => ∃ r, e = .returned r ∧ OwnZ 2 w.heap.size w' r [] ∧ Below w.heap.size w w' := by
  have h1 : ¬ (n : Int) < 0 := by omega
  have h2 : (n : Int) > 0 := by omega
  have h3 : (0 : Int) < n := by omega
  obtain ⟨i, hi, hzz⟩ := Option.map_eq_some_iff.1 (Tryd.infoLong)
  simp only [Prod.mk.injEq] at hzz
  obtain ⟨hz, hs, hb⟩ := hzz
  go_enter Tryd.func33, Tryd.ntmps33
  go_wp2_with (refine wpList_append_made _ rfl _ _ 25 3 rfl 2 i (.int .i64 0) 8 Tryd.underlying25 (by kernel_rfl) hi hz hs hb rfl n rfl rfl hn (by unfold maxLen; omega) (by omega) ?_; intro cap w1 hown hbel hcap)
  go_ret
  exact ⟨_, rfl, hown, hbel⟩
def flatZ (LS : List (List Int)) (k : Nat) : List Int := (LS.take k).flatten
theorem flatZ_succ {LS : List (List Int)} {k : Nat} (h : k < LS.length) : flatZ LS (k + 1) = flatZ LS k ++ LS.getD k [] := by
  unfold flatZ
  rw [← List.take_append_getElem h, List.flatten_append]
  simp [List.getD, h]
theorem flatZ_len_le (LS : List (List Int)) (k : Nat) : (flatZ LS k).length ≤ (flatZ LS LS.length).length := by
  have e : flatZ LS LS.length = flatZ LS k ++ (LS.drop k).flatten := by unfold flatZ; rw [List.take_length, ← List.flatten_append, List.take_append_drop]
  rw [e, List.length_append]
  omega
theorem VZ_append (a b : List Int) : VZ (a ++ b) = VZ a ++ VZ b := by simp [VZ]
/-- A slice of numbers at a cell. -/
def SlAtZ (w : World) (g k : Nat) (l : List Int) : Prop := ∃ b off c, w.cell? ⟨g, k, none⟩ = some (.slice (some ⟨b, off, none⟩) l.length c) ∧ b < w.heap.size ∧ ∀ j u, (VZ l)[j]? = some u → w.cell? ((⟨b, off, none⟩ : Addr).add j) = some u
theorem SlAtZ.below {w w' : World} {g k : Nat} {l : List Int} (hg : g < w.heap.size) (h : SlAtZ w g k l) (hb : Below w.heap.size w w') : SlAtZ w' g k l := by
  obtain ⟨b, off, c, h1, h2, h3⟩ := h
  exact ⟨b, off, c, (hb.cell (p := ⟨g, k, none⟩) hg).trans h1, Nat.lt_of_lt_of_le h2 hb.size, fun j u hu => (hb.cell (p := (⟨b, off, none⟩ : Addr).add j) (by simp only [Addr.add]; split <;> exact h2)).trans (h3 j u hu)⟩
set_option maxRecDepth 20000 in
set_option maxHeartbeats 1600000 in
theorem ConcatZ_any (g cap : Nat) (LS : List (List Int)) (w : World) (hg : g < w.heap.size) (hL : LS.length ≤ 8) (h0 : 0 < (flatZ LS LS.length).length) (h2 : (flatZ LS LS.length).length ≤ 512)
    (h : ∀ k, k < LS.length → SlAtZ w g k (LS.getD k [])) :
    Calls Tryd.prog 16 #[.slice (some ⟨g, 0, none⟩) LS.length cap] w fun e w' => ∃ r, e = .returned r ∧ OwnZ 2 w.heap.size w' r (flatZ LS LS.length) ∧ Below w.heap.size w w' := by
  obtain ⟨i0, hi, hzz⟩ := Option.map_eq_some_iff.1 (Tryd.infoLong)
  simp only [Prod.mk.injEq] at hzz
  obtain ⟨hz0, hz1, hz2⟩ := hzz
  have HH := hid h
  clear h
  go_enter Tryd.func16, Tryd.ntmps16
  go_wp2_with fail
  go_loopw [3, 11] (fun z i wr => ∃ k : Nat, k ≤ LS.length ∧ i = .int .i64 k ∧ z = .int .i64 ((flatZ LS k).length : Nat) ∧ w = wr) (fun _ i _ => LS.length - (intOf i).toNat)
  case atStart => exact ⟨0, Nat.zero_le _, rfl, rfl, rfl⟩
  case round =>
    obtain ⟨k, hk, rfl, rfl, rfl⟩ := hrel
    by_cases hlt : k < LS.length
    · obtain ⟨b, off, c, hc, _, _⟩ := HH.out k hlt
      have F := hid (flatZ_succ hlt)
      have hle := flatZ_len_le LS (k + 1)
      rw [F.out, List.length_append] at hle
      generalize LS.getD k [] = x at *
      have hki : (k : Int) < (LS.length : Int) := by omega
      have hsum : ((flatZ LS k).length : Int) + (x.length : Int) = (((flatZ LS k).length + x.length : Nat) : Int) := by omega
      have hpos : ¬ (((flatZ LS k).length + x.length : Nat) : Int) < 0 := by omega
      generalize hS : (flatZ LS k).length + x.length = S at *
      go_wp2_with fail
      go_roundw
      case rel => exact ⟨k + 1, by omega, by go_num, by rw [F.out, List.length_append, hS], trivial⟩
      case measure => simp [intOf]; omega
    · have hkk : k = LS.length := by omega
      subst hkk
      have HG := hid (GrowZ_any (flatZ LS LS.length).length w h0 h2)
      go_wp2_with fail
      refine HG.out.mono ?_
      rintro e w1 ⟨r1, rfl, hr1, hb1⟩
      have HR1 := hid hr1
      have HB1 := hid hb1
      obtain ⟨ra, rc, rfl⟩ := ownZ_form hr1
      clear hr1 hb1
      go_wp2_with fail
      go_loopw [6, 27] (fun u i wr => ∃ k : Nat, k ≤ LS.length ∧ i = .int .i64 k ∧ OwnZ 2 w.heap.size wr u (flatZ LS k) ∧ Below w.heap.size w wr) (fun _ i _ => LS.length - (intOf i).toNat)
      case atStart => exact ⟨0, Nat.zero_le _, rfl, HR1.out, HB1.out⟩
      case round =>
        obtain ⟨k, hk, rfl, hown, hnx⟩ := hrel
        by_cases hlt' : k < LS.length
        · have hS := (HH.out k hlt').below hg hnx
          have F := hid (flatZ_succ hlt')
          have hle := flatZ_len_le LS (k + 1)
          rw [F.out, List.length_append] at hle
          generalize LS.getD k [] = x at *
          obtain ⟨b, off, c, hc, hbl, hnews⟩ := hS
          have hki : (k : Int) < (LS.length : Int) := by omega
          have HN := hid hnews
          have HO := hid hown
          have HX := hid hnx
          have hsz := hnx.size
          clear hnews hown hnx
          go_wp2_with (refine wpList_append_own _ rfl _ _ 25 rfl w.heap.size 2 i0 (.int .i64 0) 1 8 Tryd.underlying25 hi hz0 hz1 hz2 rfl (by decide) _ (flatZ LS k).length _ rfl HO.out ⟨b, off, none⟩ x.length c (VZ x) rfl (by rw [VZ_len]; omega) HN.out (by intro u hu; obtain ⟨y, _, rfl⟩ := List.mem_map.1 hu; rfl) (by unfold maxLen; omega) (by omega) hsz ?_; intro v' w2 hown' hgrow _)
          have HO2 : Hid (OwnZ 2 w.heap.size w2 v' (flatZ LS (k + 1))) := by
            show OwnZ _ _ _ _ _
            rw [F.out]
            unfold OwnZ
            rw [VZ_append, List.length_append]
            exact hown'
          have HX2 : Hid (Below w.heap.size w w2) := HX.out.grown hgrow hsz (fun j hj => (World.ownsRow.lt HO.out j hj).1)
          clear hown' hgrow
          go_roundw
          case rel => exact ⟨k + 1, by omega, by go_num, HO2.out, HX2.out⟩
          case measure => simp [intOf]; omega
        · have hkk : k = LS.length := by omega
          subst hkk
          have HO := hid hown
          go_wp2_with fail
          go_ret
          exact ⟨_, rfl, HO.out, hnx⟩
end Go.Proofs.YtfajbmcdkhgipaaDoor

namespace Go.Proofs.YtfajbmcdkhgipaaDoor
open Go.RowKit

/-- The rank of a graph's matroid. -/
def gR (F : List (Int × Int)) : Nat := rk (gbL F) (2 ^ F.length - 1)
/-- The coefficients of colours. -/
def chF (N : Nat) (F : List (Int × Int)) : Nat → Int := ccF N (gR F) (chrS (rk (gbL F)) (gR F) (2 ^ F.length))
theorem add_plainG (b off i : Nat) : (⟨b, off, none⟩ : Addr).add i = ⟨b, off + i, none⟩ := by unfold Addr.add; split <;> simp_all
theorem GrM.rank_le {E : List (Nat × Nat)} {n m : Nat} {l : List Nat} (h : GrM E n m l) {s : Nat} (hs : s < 2 ^ m) : rk l s ≤ n := by
  rw [h.rank s hs]
  have hm := h.len
  subst hm
  rw [← isle_rank (n := n) (E := E) (s := s) h.ends hs]
  omega
set_option maxRecDepth 20000 in
set_option maxHeartbeats 2000000 in
theorem Chromatic_any (n : Int) (v : Value) (F : List (Int × Int)) (w : World) (h : EdgesI w v F) :
    Calls Tryd.prog 4 #[.agg #[.int .i64 n, v]] w fun e w' => (graphR n F ≠ 0 → e = .returned (.tuple #[.slice none 0 0, .int .i64 (graphR n F)])) ∧ (graphR n F = 0 → ∃ u, e = .returned (.tuple #[u, .int .i64 0]) ∧ RkZ w' u (n.toNat + 1) (chF n.toNat F)) ∧ Below w.heap.size w w' := by
  have HI := hid h
  obtain ⟨a, cap, rfl, -, -⟩ := h
  have HB0 : Hid (Below w.heap.size w (w.alloc (.cells #[.int .i64 n, .slice a F.length cap] 24))) := (Below.refl _ _).alloc (Nat.le_refl _) _
  have X0 := hid (World.alloc_heap_new w (.cells #[.int .i64 n, .slice a F.length cap] 24))
  have GR := hid (Graphic_any n _ F _ (HI.out.below HB0.out))
  by_cases hg : graphR n F = 0
  · obtain ⟨N, rfl, hN1, hN7, -, hG⟩ := graph_is hg
    have HG := hid hG
    have HZ := hid hg
    have hRN : gR F ≤ N := HG.out.rank_le (Nat.sub_lt (Nat.two_pow_pos _) (by decide))
    go_enter Tryd.func4, Tryd.ntmps4
    go_wp2_with fail
    refine GR.out.mono ?_
    rintro e w1 ⟨hm, -⟩
    obtain ⟨r, rfl, ho, hb⟩ := hm hg
    change Own _ _ _ (gbL F) at ho
    obtain ⟨ra, rc, rfl⟩ := ownsRow_form' ho
    have B1 := hid (HB0.out.trans (hb.mono HB0.out.size))
    have I1 := hid (ho.ints (Nat.le_trans (fam_len HG.out.m8 HG.out.fam) (by decide)))
    have hk := (Below.refl _ w1).alloc (Nat.le_refl _) (.cells #[.int .i64 F.length, .slice ra (gbL F).length rc] 43)
    have B2 := hid (B1.out.trans (hk.mono B1.out.size))
    have X2 := hid ((hb.trans (hk.mono hb.size)).block _ (Array.getElem?_eq_some_iff.1 X0.out).1 |>.trans X0.out)
    have CH := hid (Characteristic_ok F.length _ (gbL F) _ HG.out.m8 HG.out.fam HG.out.bas (I1.out.below hk))
    clear ho hb hm hg GR HI HB0 hk X0
    go_wp2_with fail
    refine CH.out.mono ?_
    rintro e w2 ⟨u, rfl, hz, hb⟩
    change RkZ w2 u (gR F + 1) _ at hz
    have Z2 := hid hz
    obtain ⟨zb, zo, zc, rfl, -, -⟩ := hz
    have B3 := hid (B2.out.trans (hb.mono B2.out.size))
    obtain ⟨y0, y1, -, -⟩ := two_cells (((hb.block _ (Array.getElem?_eq_some_iff.1 X2.out).1)).trans X2.out)
    obtain ⟨D, hD, hD2⟩ : ∃ D : Nat, (N : Int) - (gR F : Int) = (D : Int) ∧ Hid (D = N - gR F) := ⟨N - gR F, by omega, rfl⟩
    have hD7 : D ≤ 7 := by have := hD2.out; omega
    have hmk := fun w => run_make_row' (P := Tryd.prog) 25 2 (.int .i64 0) 8 Tryd.underlying25 Tryd.infoLong rfl .i64 .i64 D (by omega) (by omega) w
    have hR8 : gR F ≤ 8 := rk_small HG.out.m8 HG.out.fam _
    have tb := TblZ.new w2 D 2
    have k1 : Below w2.heap.size w2 (w2.alloc (.cells (madeCells #[.int .i64 0] D) 2)) := (Below.refl _ _).alloc (Nat.le_refl _) _
    have s1 := World.size_alloc w2 (.cells (madeCells #[.int .i64 0] D) 2)
    obtain ⟨w3, hw3⟩ : ∃ w3, w2.alloc (.cells (madeCells #[.int .i64 0] D) 2) = w3 := ⟨_, rfl⟩
    rw [hw3] at tb k1 s1
    have k2 : Below w3.heap.size w3 (w3.alloc (.cells #[.slice (some ⟨w2.heap.size, 0, none⟩) D D, .slice (some ⟨zb, zo, none⟩) (gR F + 1) zc] 25)) := (Below.refl _ _).alloc (Nat.le_refl _) _
    have x4 := World.alloc_heap_new w3 (.cells #[.slice (some ⟨w2.heap.size, 0, none⟩) D D, .slice (some ⟨zb, zo, none⟩) (gR F + 1) zc] 25)
    obtain ⟨w4, hw4⟩ : ∃ w4, w3.alloc (.cells #[.slice (some ⟨w2.heap.size, 0, none⟩) D D, .slice (some ⟨zb, zo, none⟩) (gR F + 1) zc] 25) = w4 := ⟨_, rfl⟩
    rw [hw4] at k2 x4
    have B4 := hid (B3.out.trans ((k1.trans (k2.mono k1.size)).mono B3.out.size))
    obtain ⟨c0, c1, -, -⟩ := two_cells x4
    have CC := hid (ConcatZ_any w3.heap.size 2 [List.replicate D 0, (List.range (gR F + 1)).map (chrS (rk (gbL F)) (gR F) (2 ^ F.length))] w4 (Array.getElem?_eq_some_iff.1 x4).1 (by simp) (by simp [flatZ]; omega) (by simp [flatZ]; omega) fun k hk => by
      match k, hk with
      | 0, _ =>
        refine ⟨w2.heap.size, 0, D, by simpa using c0, Nat.lt_of_lt_of_le tb.size k2.size, fun j u hj => ?_⟩
        have hjD : j < D := by
          have := (List.getElem?_eq_some_iff.1 hj).1
          simpa [VZ] using this
        have h9 := (tb.below k2).cell j hjD
        simp [VZ, hjD] at hj
        rw [add_plainG, Nat.zero_add, h9, ← hj]
      | 1, _ =>
        have Z4 := (Z2.out.below k1).below k2
        obtain ⟨b', o', c', e', hb', hc'⟩ := Z4
        injection e' with q1 q2 q3
        injection q1 with q1
        injection q1 with q4 q5 q6
        subst q4; subst q5; subst q3
        refine ⟨zb, zo, zc, by simpa using c1, hb', fun j u hj => ?_⟩
        have hjD : j < gR F + 1 := by
          have := (List.getElem?_eq_some_iff.1 hj).1
          simpa [VZ] using this
        have h9 := hc' j hjD
        simp [VZ, hjD] at hj
        rw [add_plainG, h9, ← hj]
        rfl)
    have hs3 : Hid (w3.heap.size = w2.heap.size + 1) := s1
    clear tb k1 k2 x4 c0 c1 Z2 s1
    go_wp2_with fail
    refine CC.out.mono ?_
    rintro e w5 ⟨r5, rfl, ho, hb⟩
    have B5 := hid (B4.out.trans (hb.mono B4.out.size))
    change OwnZ _ _ _ _ (flatZ [List.replicate D 0, (List.range (gR F + 1)).map (chrS (rk (gbL F)) (gR F) (2 ^ F.length))] 2) at ho
    have RK : Hid (RkZ w5 r5 (N + 1) (chF N F)) := by
      have hlen : (flatZ [List.replicate D 0, (List.range (gR F + 1)).map (chrS (rk (gbL F)) (gR F) (2 ^ F.length))] 2).length = N + 1 := by
        have := hD2.out
        simp [flatZ]
        omega
      have hI := ho.ints (by rw [hlen]; omega)
      obtain ⟨x, c5, rfl, -, hc⟩ := hI
      obtain ⟨b5, o5, rfl, hb5, hc5⟩ := hc (by rw [hlen]; omega)
      rw [hlen] at hc5 ⊢
      refine ⟨b5, o5, c5, rfl, hb5, fun i hi => ?_⟩
      rw [hc5 i hi]
      congr 2
      have hDN := hD2.out
      unfold chF ccF
      rw [← hDN]
      by_cases hiD : i < D
      · rw [if_pos hiD]
        simp [flatZ, List.getD, List.getElem?_append_left, hiD]
      · rw [if_neg hiD]
        have h9 : i - D < gR F + 1 := by omega
        simp [flatZ, List.getD, List.getElem?_append_right, h9, Nat.not_lt.1 hiD]
    obtain ⟨b5, o5, c5, rfl, -, -⟩ := RK.out
    clear ho hb CC hw3 hw4
    go_wp2_with fail
    exact bodyPost_ret (results_tmp2 rfl _ _ _) rfl ⟨fun e => absurd HZ.out e, fun _ => ⟨_, rfl, by rw [Int.toNat_natCast]; exact RK.out⟩, B5.out⟩
  · obtain ⟨q, hq⟩ : ∃ q, graphR n F = q := ⟨_, rfl⟩
    rw [hq] at hg GR ⊢
    have HN := hid hg
    have hg1 : (q != 0) = true := by rw [bne_iff_ne]; exact hg
    go_enter Tryd.func4, Tryd.ntmps4
    go_wp2_with fail
    refine GR.out.mono ?_
    rintro e w1 ⟨-, hm⟩
    obtain ⟨rfl, hb⟩ := hm hg
    have B1 := hid (HB0.out.trans (hb.mono HB0.out.size))
    clear hb hm hg GR HI HB0
    go_wp2_with fail
    exact bodyPost_ret (results_tmp2 rfl _ _ _) rfl ⟨fun _ => rfl, fun e => absurd e HN.out, B1.out.alloc B1.out.size _⟩
end Go.Proofs.YtfajbmcdkhgipaaDoor
