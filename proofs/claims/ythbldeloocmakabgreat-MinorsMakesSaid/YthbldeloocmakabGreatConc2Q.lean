/- slices.Grow, slices.Concat. -/
import Derived.Test.YthbldeloocmakabGreatConcW
import Derived.Test.YthbldeloocmakabGreatEqQ
import Derived.Deep.RegionHeld3
namespace Go.Proofs.YthbldeloocmakabGreat
open Go.RowKit

theorem run_append_made {P : Program} (w : World) (t u ty e : TypeId) (i : TypeInfo) (z : Value) (ht : P.underlying t = some (.slice e)) (hu : P.underlying u = some (.int .i64)) (hi : P.info? e = some i) (hz : i.zero = some z) (hsize : i.size = 1)
    (n : Nat) (h0 : 0 < n) (h63 : (n : Int) ≤ 9223372036854775807) (h48 : n * i.bytes ≤ 281474976710656) :
    (Builtin.append_ #[t, u] ty #[.slice none 0 0, .int .i64 (n : Int)]).run P w =
      .ok (.slice (some ⟨w.heap.size, 0, none⟩) n (grownCap w n 0 e)) (w.drew.alloc (.cells (Builtin.zeroCells z.cells n ++ Builtin.zeroCells z.cells (grownCap w n 0 e - n)) e)) := by
  have hn : n ≠ 0 := by omega
  have h63' : ¬ (9223372036854775807 < (n : Int)) := by omega
  have h48' : ¬ (281474976710656 < Builtin.nextslicecap n 0 * i.bytes) := by rw [nextslicecap_zero h0]; omega
  have hw : IntKind.i64.wrap (n : Int) = (n : Int) := wrap_i64_nat n (by omega)
  have hneg : ¬ (n : Int) < 0 := by omega
  have h48i : ¬ (281474976710656 < (n : Int) * (i.bytes : Int)) := by rw [← Int.natCast_mul]; omega
  simp [Builtin.append_, run_underlying ht, run_underlying hu, sizeOf, typeInfo, zeroValue, hi, hz, hsize, asInt, asIntOf, hw, hneg, h48i, hn, h63', h48', Question.forced, run_firstCells_none, newRow, grownCap]
/-- append(nil, make(n)...), for the walk. -/
theorem wpList_append_made {P : Program} (w : World) {ops : Array Oper} {rest : List Oper} {o : Oper} {a : Act} {Q : Exit → Act → World → Prop} (hgd : o.guard = none) (s x : Operand) (t u : TypeId)
    (ho : o.op = .call { callee := .builtin .append, args := #[s, x], argTypes := #[t, u] })
    (e : TypeId) (i : TypeInfo) (z : Value) (bytes : Nat) (ht : P.underlying t = some (.slice e)) (hu : P.underlying u = some (.int .i64)) (hi : P.info? e = some i) (hz : i.zero = some z) (hsize : i.size = 1) (hby : i.bytes = bytes) (hzs : z.cells.size = 1)
    (n : Nat) (hs : a.eval s = .slice none 0 0) (hx : a.eval x = .int .i64 (n : Int)) (h0 : 0 < n) (h63 : n ≤ maxLen) (h48 : n * bytes ≤ 281474976710656)
    (h : ∀ cap w', w'.ownsRow w.heap.size e 1 (.slice (some ⟨w.heap.size, 0, none⟩) 0 cap) 0 [] → Below w.heap.size w w' → n ≤ cap → wpList P ops Q rest (a.put o.dst (.slice (some ⟨w.heap.size, 0, none⟩) n cap)) w') :
    wpList P ops Q (o :: rest) a w := by
  subst hby
  refine wpList_plain hgd fun K hK => ?_
  have hr := run_append_made (P := P) w t u o.type e i z ht hu hi hz hsize n h0 (by simp only [maxLen] at h63; omega) h48
  have hge := grownCap_ge w n 0 e
  have hcm : grownCap w n 0 e ≤ maxLen := grownCap_le_maxLen w n 0 e h63
  unfold Oper.wp execOp
  simp only [ho, resolve, invoke, builtin, Sem.run_bind, Sem.run_pure, Result.andThen_ok, List.map_toArray, List.map_cons, List.map_nil, hs, hx, hr]
  refine hK _ _ (h _ _ ⟨rfl, .inr ⟨w.heap.size, _, _, rfl, Nat.le_refl _, heap_alloc_new w.drew _, Nat.zero_le _, hcm, ?_, ?_⟩⟩ ((Below.refl _ w).drew.alloc (Nat.le_refl _) _) hge)
  · simp only [Array.size_append, size_zeroCells, hzs]
    omega
  · simp
set_option maxHeartbeats 800000 in
theorem Grow_any (n : Nat) (w : World) (hn : 0 < n) (hn2 : n ≤ 512) :
    Calls Tryz.prog 83 #[.slice none 0 0, .int .i64 n] w fun e w' => ∃ r, e = .returned r ∧ Own w.heap.size w' r [] ∧ Below w.heap.size w w' := by
  have h1 : ¬ (n : Int) < 0 := by omega
  have h2 : (n : Int) > 0 := by omega
  have h3 : (0 : Int) < n := by omega
  obtain ⟨i, hi, hzz⟩ := Option.map_eq_some_iff.1 (Tryz.infoInt)
  simp only [Prod.mk.injEq] at hzz
  obtain ⟨hz, hs, hb⟩ := hzz
  go_enter Tryz.func83, Tryz.ntmps83
  go_wp2_with (refine wpList_append_made _ rfl _ _ 22 3 rfl 3 i (.int .i64 0) 8 Tryz.underlying22 (by kernel_rfl) hi hz hs hb rfl n rfl rfl hn (by unfold maxLen; omega) (by omega) ?_; intro cap w1 hown hbel hcap)
  go_ret
  exact ⟨_, rfl, hown, hbel⟩
def flatN (LS : List (List Nat)) (k : Nat) : List Nat := (LS.take k).flatten
theorem flat_succ {LS : List (List Nat)} {k : Nat} (h : k < LS.length) : flatN LS (k + 1) = flatN LS k ++ LS.getD k [] := by
  unfold flatN
  rw [← List.take_append_getElem h, List.flatten_append]
  simp [List.getD, h]
theorem flat_len_le (LS : List (List Nat)) (k : Nat) : (flatN LS k).length ≤ (flatN LS LS.length).length := by
  have e : flatN LS LS.length = flatN LS k ++ (LS.drop k).flatten := by unfold flatN; rw [List.take_length, ← List.flatten_append, List.take_append_drop]
  rw [e, List.length_append]
  omega
theorem V_append (a b : List Nat) : V (a ++ b) = V a ++ V b := by simp [V]
/-- A slice of numbers at a cell. -/
def SlAt (w : World) (g k : Nat) (l : List Nat) : Prop := ∃ b off c, w.cell? ⟨g, k, none⟩ = some (.slice (some ⟨b, off, none⟩) l.length c) ∧ b < w.heap.size ∧ ∀ j u, (V l)[j]? = some u → w.cell? ((⟨b, off, none⟩ : Addr).add j) = some u
theorem SlAt.below {w w' : World} {g k : Nat} {l : List Nat} (hg : g < w.heap.size) (h : SlAt w g k l) (hb : Below w.heap.size w w') : SlAt w' g k l := by
  obtain ⟨b, off, c, h1, h2, h3⟩ := h
  exact ⟨b, off, c, (hb.cell (p := ⟨g, k, none⟩) hg).trans h1, Nat.lt_of_lt_of_le h2 hb.size, fun j u hu => (hb.cell (p := (⟨b, off, none⟩ : Addr).add j) (by simp only [Addr.add]; split <;> exact h2)).trans (h3 j u hu)⟩
set_option maxHeartbeats 1600000 in
theorem Concat_any (g cap : Nat) (LS : List (List Nat)) (w : World) (hg : g < w.heap.size) (hL : LS.length ≤ 8) (h0 : 0 < (flatN LS LS.length).length) (h2 : (flatN LS LS.length).length ≤ 512)
    (h : ∀ k, k < LS.length → SlAt w g k (LS.getD k [])) :
    Calls Tryz.prog 55 #[.slice (some ⟨g, 0, none⟩) LS.length cap] w fun e w' => ∃ r, e = .returned r ∧ Own w.heap.size w' r (flatN LS LS.length) ∧ Below w.heap.size w w' := by
  obtain ⟨i0, hi, hzz⟩ := Option.map_eq_some_iff.1 (Tryz.infoInt)
  simp only [Prod.mk.injEq] at hzz
  obtain ⟨hz0, hz1, hz2⟩ := hzz
  have HH := hid h
  clear h
  go_enter Tryz.func55, Tryz.ntmps55
  go_wp2_with fail
  go_loopw [3, 11] (fun z i wr => ∃ k : Nat, k ≤ LS.length ∧ i = .int .i64 k ∧ z = .int .i64 ((flatN LS k).length : Nat) ∧ w = wr) (fun _ i _ => LS.length - (intOf i).toNat)
  case atStart => exact ⟨0, Nat.zero_le _, rfl, rfl, rfl⟩
  case round =>
    obtain ⟨k, hk, rfl, rfl, rfl⟩ := hrel
    by_cases hlt : k < LS.length
    · obtain ⟨b, off, c, hc, _, _⟩ := HH.out k hlt
      have F := hid (flat_succ hlt)
      have hle := flat_len_le LS (k + 1)
      rw [F.out, List.length_append] at hle
      generalize LS.getD k [] = x at *
      have hki : (k : Int) < (LS.length : Int) := by omega
      have hsum : ((flatN LS k).length : Int) + (x.length : Int) = (((flatN LS k).length + x.length : Nat) : Int) := by omega
      have hpos : ¬ (((flatN LS k).length + x.length : Nat) : Int) < 0 := by omega
      generalize hS : (flatN LS k).length + x.length = S at *
      go_wp2_with fail
      go_roundw
      case rel => exact ⟨k + 1, by omega, by go_num, by rw [F.out, List.length_append, hS], trivial⟩
      case measure => simp [intOf]; omega
    · have hkk : k = LS.length := by omega
      subst hkk
      have HG := hid (Grow_any (flatN LS LS.length).length w h0 h2)
      go_wp2_with fail
      refine HG.out.mono ?_
      rintro e w1 ⟨r1, rfl, hr1, hb1⟩
      have HR1 := hid hr1
      have HB1 := hid hb1
      obtain ⟨ra, rc, rfl⟩ := ownsRow_form' hr1
      clear hr1 hb1
      go_wp2_with fail
      go_loopw [6, 27] (fun u i wr => ∃ k : Nat, k ≤ LS.length ∧ i = .int .i64 k ∧ Own w.heap.size wr u (flatN LS k) ∧ Below w.heap.size w wr) (fun _ i _ => LS.length - (intOf i).toNat)
      case atStart => exact ⟨0, Nat.zero_le _, rfl, HR1.out, HB1.out⟩
      case round =>
        obtain ⟨k, hk, rfl, hown, hnx⟩ := hrel
        by_cases hlt' : k < LS.length
        · have hS := (HH.out k hlt').below hg hnx
          have F := hid (flat_succ hlt')
          have hle := flat_len_le LS (k + 1)
          rw [F.out, List.length_append] at hle
          generalize LS.getD k [] = x at *
          obtain ⟨b, off, c, hc, hbl, hnews⟩ := hS
          have hki : (k : Int) < (LS.length : Int) := by omega
          have HN := hid hnews
          have HO := hid hown
          have HX := hid hnx
          have hsz := hnx.size
          clear hnews hown hnx
          go_wp2_with (refine wpList_append_own _ rfl _ _ 22 rfl w.heap.size 3 i0 (.int .i64 0) 1 8 Tryz.underlying22 hi hz0 hz1 hz2 rfl (by decide) _ (flatN LS k).length _ rfl HO.out ⟨b, off, none⟩ x.length c (V x) rfl (by rw [V_len]; omega) HN.out (by intro u hu; obtain ⟨y, _, rfl⟩ := List.mem_map.1 hu; rfl) (by unfold maxLen; omega) (by omega) hsz ?_; intro v' w2 hown' hgrow _)
          have HO2 : Hid (Own w.heap.size w2 v' (flatN LS (k + 1))) := by
            show Own _ _ _ _
            rw [F.out]
            unfold Own
            rw [V_append, List.length_append]
            exact hown'
          have HX2 : Hid (Below w.heap.size w w2) := HX.out.grown hgrow hsz (fun j hj => (World.ownsRow.lt HO.out j hj).1)
          clear hown' hgrow
          go_roundw
          case rel => exact ⟨k + 1, by omega, by go_num, HO2.out, HX2.out⟩
          case measure => simp [intOf]; omega
        · have hkk : k = LS.length := by omega
          subst hkk
          have HO := hid hown
          go_wp2_with fail
          go_ret
          exact ⟨_, rfl, HO.out, hnx⟩
end Go.Proofs.YthbldeloocmakabGreat
