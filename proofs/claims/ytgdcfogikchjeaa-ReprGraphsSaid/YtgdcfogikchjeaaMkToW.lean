/- slices.Grow, slices.Concat. -/
import Derived.Test.YtgdcfogikchjeaaConcW
import Derived.Test.YtgdcfogikchjeaaEqW
import Derived.Deep.RegionHeld3
import Derived.Test.YtgdcfogikchjeaaRanksWW
import Derived.Test.YtgdcfogikchjeaaQuietW
import Derived.Test.YtgdcfogikchjeaaPlainAll
import Derived.Test.YtgdcfogikchjeaaOrdBW
import Derived.Test.YtgdcfogikchjeaaKLmQ
import Derived.Test.YtgdcfogikchjeaaSieveW
import Derived.Deep.OwnRows
namespace Go.Proofs.Ytgdcfogikchjeaa
open Go.RowKit

theorem run_append_made {P : Program} (w : World) (t u ty e : TypeId) (i : TypeInfo) (z : Value) (ht : P.underlying t = some (.slice e)) (hu : P.underlying u = some (.int .i64)) (hi : P.info? e = some i) (hz : i.zero = some z) (hsize : i.size = 1)
    (n : Nat) (h0 : 0 < n) (h63 : (n : Int) ≤ 9223372036854775807) (h48 : n * i.bytes ≤ 281474976710656) :
    (Builtin.append_ #[t, u] ty #[.slice none 0 0, .int .i64 (n : Int)]).run P w =
      .ok (.slice (some ⟨w.heap.size, 0, none⟩) n (grownCap w n 0 e)) (w.drew.alloc (.cells (Builtin.zeroCells z.cells n ++ Builtin.zeroCells z.cells (grownCap w n 0 e - n)) e)) := by
  have hn : n ≠ 0 := by omega
  have h63' : ¬ (9223372036854775807 < (n : Int)) := by omega
  have h48' : ¬ (281474976710656 < Builtin.nextslicecap n 0 * i.bytes) := by rw [nextslicecap_zero h0]; omega
  have hw : IntKind.i64.wrap (n : Int) = (n : Int) := wrap_i64_nat n (by omega)
  have hneg : ¬ (n : Int) < 0 := by omega
  have h48i : ¬ (281474976710656 < (n : Int) * (i.bytes : Int)) := by rw [← Int.natCast_mul]; omega
  simp [Builtin.append_, run_underlying ht, run_underlying hu, sizeOf, typeInfo, zeroValue, hi, hz, hsize, asInt, asIntOf, hw, hneg, h48i, hn, h63', h48', Question.forced, run_firstCells_none, newRow, grownCap]
/-- append(nil, make(n)...), for the walk. -/
theorem wpList_append_made {P : Program} (w : World) {ops : Array Oper} {rest : List Oper} {o : Oper} {a : Act} {Q : Exit → Act → World → Prop} (hgd : o.guard = none) (s x : Operand) (t u : TypeId)
    (ho : o.op = .call { callee := .builtin .append, args := #[s, x], argTypes := #[t, u] })
    (e : TypeId) (i : TypeInfo) (z : Value) (bytes : Nat) (ht : P.underlying t = some (.slice e)) (hu : P.underlying u = some (.int .i64)) (hi : P.info? e = some i) (hz : i.zero = some z) (hsize : i.size = 1) (hby : i.bytes = bytes) (hzs : z.cells.size = 1)
    (n : Nat) (hs : a.eval s = .slice none 0 0) (hx : a.eval x = .int .i64 (n : Int)) (h0 : 0 < n) (h63 : n ≤ maxLen) (h48 : n * bytes ≤ 281474976710656)
    (h : ∀ cap w', w'.ownsRow w.heap.size e 1 (.slice (some ⟨w.heap.size, 0, none⟩) 0 cap) 0 [] → Below w.heap.size w w' → n ≤ cap → wpList P ops Q rest (a.put o.dst (.slice (some ⟨w.heap.size, 0, none⟩) n cap)) w') :
    wpList P ops Q (o :: rest) a w := by
  subst hby
  refine wpList_plain hgd fun K hK => ?_
  have hr := run_append_made (P := P) w t u o.type e i z ht hu hi hz hsize n h0 (by simp only [maxLen] at h63; omega) h48
  have hge := grownCap_ge w n 0 e
  have hcm : grownCap w n 0 e ≤ maxLen := grownCap_le_maxLen w n 0 e h63
  unfold Oper.wp execOp
  simp only [ho, resolve, invoke, builtin, Sem.run_bind, Sem.run_pure, Result.andThen_ok, List.map_toArray, List.map_cons, List.map_nil, hs, hx, hr]
  refine hK _ _ (h _ _ ⟨rfl, .inr ⟨w.heap.size, _, _, rfl, Nat.le_refl _, heap_alloc_new w.drew _, Nat.zero_le _, hcm, ?_, ?_⟩⟩ ((Below.refl _ w).drew.alloc (Nat.le_refl _) _) hge)
  · simp only [Array.size_append, size_zeroCells, hzs]
    omega
  · simp
set_option maxHeartbeats 800000 in
theorem Grow_any (n : Nat) (w : World) (hn : 0 < n) (hn2 : n ≤ 512) :
    Calls Try.prog 63 #[.slice none 0 0, .int .i64 n] w fun e w' => ∃ r, e = .returned r ∧ Own w.heap.size w' r [] ∧ Below w.heap.size w w' := by
  have h1 : ¬ (n : Int) < 0 := by omega
  have h2 : (n : Int) > 0 := by omega
  have h3 : (0 : Int) < n := by omega
  obtain ⟨i, hi, hzz⟩ := Option.map_eq_some_iff.1 (Try.infoInt)
  simp only [Prod.mk.injEq] at hzz
  obtain ⟨hz, hs, hb⟩ := hzz
  go_enter Try.func63, Try.ntmps63
  go_wp2_with (refine wpList_append_made _ rfl _ _ 31 3 rfl 3 i (.int .i64 0) 8 Try.underlying31 (by kernel_rfl) hi hz hs hb rfl n rfl rfl hn (by unfold maxLen; omega) (by omega) ?_; intro cap w1 hown hbel hcap)
  go_ret
  exact ⟨_, rfl, hown, hbel⟩
def flatN (LS : List (List Nat)) (k : Nat) : List Nat := (LS.take k).flatten
theorem flat_succ {LS : List (List Nat)} {k : Nat} (h : k < LS.length) : flatN LS (k + 1) = flatN LS k ++ LS.getD k [] := by
  unfold flatN
  rw [← List.take_append_getElem h, List.flatten_append]
  simp [List.getD, h]
theorem flat_len_le (LS : List (List Nat)) (k : Nat) : (flatN LS k).length ≤ (flatN LS LS.length).length := by
  have e : flatN LS LS.length = flatN LS k ++ (LS.drop k).flatten := by unfold flatN; rw [List.take_length, ← List.flatten_append, List.take_append_drop]
  rw [e, List.length_append]
  omega
theorem V_append (a b : List Nat) : V (a ++ b) = V a ++ V b := by simp [V]
/-- A slice of numbers at a cell. -/
def SlAt (w : World) (g k : Nat) (l : List Nat) : Prop := ∃ b off c, w.cell? ⟨g, k, none⟩ = some (.slice (some ⟨b, off, none⟩) l.length c) ∧ b < w.heap.size ∧ ∀ j u, (V l)[j]? = some u → w.cell? ((⟨b, off, none⟩ : Addr).add j) = some u
theorem SlAt.below {w w' : World} {g k : Nat} {l : List Nat} (hg : g < w.heap.size) (h : SlAt w g k l) (hb : Below w.heap.size w w') : SlAt w' g k l := by
  obtain ⟨b, off, c, h1, h2, h3⟩ := h
  exact ⟨b, off, c, (hb.cell (p := ⟨g, k, none⟩) hg).trans h1, Nat.lt_of_lt_of_le h2 hb.size, fun j u hu => (hb.cell (p := (⟨b, off, none⟩ : Addr).add j) (by simp only [Addr.add]; split <;> exact h2)).trans (h3 j u hu)⟩
set_option maxHeartbeats 1600000 in
theorem Concat_any (g cap : Nat) (LS : List (List Nat)) (w : World) (hg : g < w.heap.size) (hL : LS.length ≤ 8) (h0 : 0 < (flatN LS LS.length).length) (h2 : (flatN LS LS.length).length ≤ 512)
    (h : ∀ k, k < LS.length → SlAt w g k (LS.getD k [])) :
    Calls Try.prog 47 #[.slice (some ⟨g, 0, none⟩) LS.length cap] w fun e w' => ∃ r, e = .returned r ∧ Own w.heap.size w' r (flatN LS LS.length) ∧ Below w.heap.size w w' := by
  obtain ⟨i0, hi, hzz⟩ := Option.map_eq_some_iff.1 (Try.infoInt)
  simp only [Prod.mk.injEq] at hzz
  obtain ⟨hz0, hz1, hz2⟩ := hzz
  have HH := hid h
  clear h
  go_enter Try.func47, Try.ntmps47
  go_wp2_with fail
  go_loopw [3, 11] (fun z i wr => ∃ k : Nat, k ≤ LS.length ∧ i = .int .i64 k ∧ z = .int .i64 ((flatN LS k).length : Nat) ∧ w = wr) (fun _ i _ => LS.length - (intOf i).toNat)
  case atStart => exact ⟨0, Nat.zero_le _, rfl, rfl, rfl⟩
  case round =>
    obtain ⟨k, hk, rfl, rfl, rfl⟩ := hrel
    by_cases hlt : k < LS.length
    · obtain ⟨b, off, c, hc, _, _⟩ := HH.out k hlt
      have F := hid (flat_succ hlt)
      have hle := flat_len_le LS (k + 1)
      rw [F.out, List.length_append] at hle
      generalize LS.getD k [] = x at *
      have hki : (k : Int) < (LS.length : Int) := by omega
      have hsum : ((flatN LS k).length : Int) + (x.length : Int) = (((flatN LS k).length + x.length : Nat) : Int) := by omega
      have hpos : ¬ (((flatN LS k).length + x.length : Nat) : Int) < 0 := by omega
      generalize hS : (flatN LS k).length + x.length = S at *
      go_wp2_with fail
      go_roundw
      case rel => exact ⟨k + 1, by omega, by go_num, by rw [F.out, List.length_append, hS], trivial⟩
      case measure => simp [intOf]; omega
    · have hkk : k = LS.length := by omega
      subst hkk
      have HG := hid (Grow_any (flatN LS LS.length).length w h0 h2)
      go_wp2_with fail
      refine HG.out.mono ?_
      rintro e w1 ⟨r1, rfl, hr1, hb1⟩
      have HR1 := hid hr1
      have HB1 := hid hb1
      obtain ⟨ra, rc, rfl⟩ := ownsRow_form' hr1
      clear hr1 hb1
      go_wp2_with fail
      go_loopw [6, 27] (fun u i wr => ∃ k : Nat, k ≤ LS.length ∧ i = .int .i64 k ∧ Own w.heap.size wr u (flatN LS k) ∧ Below w.heap.size w wr) (fun _ i _ => LS.length - (intOf i).toNat)
      case atStart => exact ⟨0, Nat.zero_le _, rfl, HR1.out, HB1.out⟩
      case round =>
        obtain ⟨k, hk, rfl, hown, hnx⟩ := hrel
        by_cases hlt' : k < LS.length
        · have hS := (HH.out k hlt').below hg hnx
          have F := hid (flat_succ hlt')
          have hle := flat_len_le LS (k + 1)
          rw [F.out, List.length_append] at hle
          generalize LS.getD k [] = x at *
          obtain ⟨b, off, c, hc, hbl, hnews⟩ := hS
          have hki : (k : Int) < (LS.length : Int) := by omega
          have HN := hid hnews
          have HO := hid hown
          have HX := hid hnx
          have hsz := hnx.size
          clear hnews hown hnx
          go_wp2_with (refine wpList_append_own _ rfl _ _ 31 rfl w.heap.size 3 i0 (.int .i64 0) 1 8 Try.underlying31 hi hz0 hz1 hz2 rfl (by decide) _ (flatN LS k).length _ rfl HO.out ⟨b, off, none⟩ x.length c (V x) rfl (by rw [V_len]; omega) HN.out (by intro u hu; obtain ⟨y, _, rfl⟩ := List.mem_map.1 hu; rfl) (by unfold maxLen; omega) (by omega) hsz ?_; intro v' w2 hown' hgrow _)
          have HO2 : Hid (Own w.heap.size w2 v' (flatN LS (k + 1))) := by
            show Own _ _ _ _
            rw [F.out]
            unfold Own
            rw [V_append, List.length_append]
            exact hown'
          have HX2 : Hid (Below w.heap.size w w2) := HX.out.grown hgrow hsz (fun j hj => (World.ownsRow.lt HO.out j hj).1)
          clear hown' hgrow
          go_roundw
          case rel => exact ⟨k + 1, by omega, by go_num, HO2.out, HX2.out⟩
          case measure => simp [intOf]; omega
        · have hkk : k = LS.length := by omega
          subst hkk
          have HO := hid hown
          go_wp2_with fail
          go_ret
          exact ⟨_, rfl, HO.out, hnx⟩
end Go.Proofs.Ytgdcfogikchjeaa

namespace Go.Proofs.Ytgdcfogikchjeaa
open Go.RowKit

/-- A block of T numbers, of whatever sign. -/
structure TblZ (g : Nat) (w : World) (T : Nat) (f : Nat → Int) : Prop where
  cell : ∀ i, i < T → w.cell? ⟨g, i, none⟩ = some (.int .i64 (f i))
  frozen : ∀ i, w.frozen? ⟨g, i, none⟩ = false
  size : g < w.heap.size
theorem TblZ.set {g : Nat} {w : World} {T : Nat} {f f' : Nat → Int} (h : TblZ g w T f) (j : Nat) (x : Int) (hj : j < T) (hf : ∀ i, i < T → f' i = if j = i then x else f i) : TblZ g (w.setCell ⟨g, j, none⟩ (.int .i64 x)) T f' := by
  refine ⟨fun i hi => ?_, fun i => (World.frozen?_setCell _ _ _ _).trans (h.frozen i), by simpa using h.size⟩
  rw [hf i hi]
  by_cases e : j = i
  · subst e
    rw [World.cell?_setCell_same _ _ _ (h.cell j hj)]; simp
  · rw [World.cell?_setCell_other _ _ _ _ (by simp), h.cell i hi]
    simp [e]
theorem TblZ.congr {g : Nat} {w : World} {T : Nat} {f f' : Nat → Int} (h : TblZ g w T f) (hf : ∀ i, i < T → f' i = f i) : TblZ g w T f' := ⟨fun i hi => by rw [hf i hi]; exact h.cell i hi, h.frozen, h.size⟩
theorem TblZ.below {g : Nat} {w w' : World} {T : Nat} {f : Nat → Int} (h : TblZ g w T f) (hb : Below w.heap.size w w') : TblZ g w' T f :=
  ⟨fun i hi => (hb.cell (p := ⟨g, i, none⟩) h.size).trans (h.cell i hi), fun i => (froz_below hb h.size).trans (h.frozen i), Nat.lt_of_lt_of_le h.size hb.size⟩
def RkZ (w : World) (v : Value) (T : Nat) (f : Nat → Int) : Prop := ∃ b off cap, v = .slice (some ⟨b, off, none⟩) T cap ∧ b < w.heap.size ∧ ∀ i, i < T → w.cell? ⟨b, off + i, none⟩ = some (.int .i64 (f i))
theorem RkZ.below {w w' : World} {v : Value} {T : Nat} {f : Nat → Int} (h : RkZ w v T f) (hb : Below w.heap.size w w') : RkZ w' v T f := by
  obtain ⟨b, off, cap, rfl, h1, h2⟩ := h
  exact ⟨b, off, cap, rfl, Nat.lt_of_lt_of_le h1 hb.size, fun i hi => (hb.cell (p := ⟨b, off + i, none⟩) h1).trans (h2 i hi)⟩
/-- A row being filled. -/
def ztab (k : Nat) (a : Nat → Int) (b : Int) (i : Nat) : Int := if i < k then a i else if i = k then b else 0
theorem ztab_lt {k i : Nat} {b : Int} {a : Nat → Int} (h : i < k) : ztab k a b i = a i := if_pos h
theorem ztab_at {k : Nat} {b : Int} {a : Nat → Int} : ztab k a b k = b := by unfold ztab; simp
theorem ztab_set {k : Nat} {b b' : Int} {a : Nat → Int} (i : Nat) : ztab k a b' i = if k = i then b' else ztab k a b i := by
  unfold ztab
  by_cases h : k = i
  · subst h
    simp
  · have h2 : ¬ i = k := fun e => h e.symm
    simp [h, h2]
theorem ztab_up {k : Nat} {a : Nat → Int} (i : Nat) : ztab (k + 1) a 0 i = ztab k a (a k) i := by
  unfold ztab
  by_cases h : i < k
  · rw [if_pos h, if_pos (by omega)]
  · by_cases h2 : i = k
    · subst h2
      simp
    · have h3 : ¬ i < k + 1 := by omega
      simp [h, h2, h3]
theorem TblZ.new (w : World) (T : Nat) (t : TypeId) : TblZ w.heap.size (w.alloc (.cells (madeCells #[.int .i64 0] T) t)) T (fun _ => 0) := by
  refine ⟨fun i hi => ?_, fun i => World.frozen?_alloc_at _ _ _ _ rfl, by simp⟩
  rw [World.cell?_alloc_at _ _ _ _ rfl]
  simp [madeCells, hi, Nat.mod_one]
theorem TblZ.drewN {g : Nat} {w : World} {T : Nat} {f : Nat → Int} (h : TblZ g w T f) (n : Nat) : TblZ g (w.drewN n) T f := ⟨h.cell, h.frozen, h.size⟩
theorem TblZ.drew {g : Nat} {w : World} {T : Nat} {f : Nat → Int} (h : TblZ g w T f) : TblZ g w.drew T f := ⟨h.cell, h.frozen, h.size⟩
theorem TblZ.rkZ {g : Nat} {w : World} {T cap : Nat} {f : Nat → Int} (h : TblZ g w T f) : RkZ w (.slice (some ⟨g, 0, none⟩) T cap) T f := ⟨g, 0, cap, rfl, h.size, fun i hi => by rw [Nat.zero_add]; exact h.cell i hi⟩
theorem RkAt.cellAt {w w' : World} {b off cap T : Nat} {r : Nat → Nat} (h : RkAt w (.slice (some ⟨b, off, none⟩) T cap) T r) (hb : Below w.heap.size w w') {i : Nat} (hi : i < T) : w'.cell? ⟨b, off + i, none⟩ = some (.int .i64 (r i : Nat)) := by
  obtain ⟨b', off', cp', e, h1, h2⟩ := h.below hb
  obtain ⟨⟨rfl, rfl⟩, rfl⟩ : (b = b' ∧ off = off') ∧ cap = cp' := by simpa using e
  exact h2 i hi
theorem RkZ.cellAt {w w' : World} {b off cap T : Nat} {r : Nat → Int} (h : RkZ w (.slice (some ⟨b, off, none⟩) T cap) T r) (hb : Below w.heap.size w w') {i : Nat} (hi : i < T) : w'.cell? ⟨b, off + i, none⟩ = some (.int .i64 (r i)) := by
  obtain ⟨b', off', cp', e, h1, h2⟩ := h.below hb
  obtain ⟨⟨rfl, rfl⟩, rfl⟩ : (b = b' ∧ off = off') ∧ cap = cp' := by simpa using e
  exact h2 i hi
end Go.Proofs.Ytgdcfogikchjeaa

namespace Go.Proofs.Ytgdcfogikchjeaa
open Go.RowKit

theorem TblZ.save {g : Nat} {w w' : World} {T : Nat} {f : Nat → Int} {X : Nat → Prop} (h : TblZ g w T f) (hs : Save X w w') (hg : ¬ X g) : TblZ g w' T f :=
  ⟨fun i hi => (World.cell?_of_block (hs.block g h.size hg)).trans (h.cell i hi), fun i => (World.frozen?_of_block (hs.block g h.size hg)).trans (h.frozen i), Nat.lt_of_lt_of_le h.size hs.size⟩
/-- v reads as c numbers in a block of which X holds. -/
def RdZ (w : World) (v : Value) (c : Nat) (o : Nat → Int) (X : Nat → Prop) : Prop := ∃ a cap, v = .slice a c cap ∧ (0 < c → ∃ b off, a = some ⟨b, off, none⟩ ∧ X b ∧ b < w.heap.size ∧ ∀ i, i < c → w.cell? ⟨b, off + i, none⟩ = some (.int .i64 (o i)))
end Go.Proofs.Ytgdcfogikchjeaa

namespace Go.Proofs.Ytgdcfogikchjeaa
open Go.RowKit

theorem run_make_to (l c : Nat) (hlc : l ≤ c) (hc : c ≤ 256) (w : World) : (Instr.makeSlice 31 (.int .i64 (l : Int)) (.int .i64 (c : Int))).run Try.prog w = .ok (.slice (some ⟨w.heap.size, 0, none⟩) l c) (w.alloc (.cells (madeCells #[.int .i64 0] c) 3)) := by
  obtain ⟨i0, hi, hz0, hz1, hz2⟩ := info_parts Try.infoInt
  have h := run_make (P := Try.prog) w 31 3 i0 (.int .i64 0) Try.underlying31 hi hz0 .i64 .i64 l c (by omega) (by omega) (by rw [hz2]; omega) (by omega)
  simp only [Int.toNat_natCast, hz1, Nat.mul_one] at h
  exact h
theorem own_made {B b c : Nat} {w : World} (h : w.heap[b]? = some (.cells (madeCells #[.int .i64 0] c) 3 (0, 0))) (hB : B ≤ b) (hc : c ≤ 256) (l : List Nat) (hl : l = [] ∨ (l = [0] ∧ 1 ≤ c)) : Own B w (.slice (some ⟨b, 0, none⟩) l.length c) l := by
  refine ⟨by rw [V_len, Nat.mul_one], .inr ⟨b, c, _, rfl, hB, h, ?_, by unfold maxLen; omega, by rw [size_madeCells, Nat.mul_one], ?_⟩⟩
  · rcases hl with rfl | ⟨rfl, h1⟩
    · exact Nat.zero_le _
    · exact h1
  · rcases hl with rfl | ⟨rfl, h1⟩
    · rfl
    · obtain ⟨c, rfl⟩ : ∃ c', c = c' + 1 := ⟨c - 1, by omega⟩
      simp only [madeCells, Array.toList_map, Array.toList_range, List.range_succ_eq_map]
      rfl
end Go.Proofs.Ytgdcfogikchjeaa
