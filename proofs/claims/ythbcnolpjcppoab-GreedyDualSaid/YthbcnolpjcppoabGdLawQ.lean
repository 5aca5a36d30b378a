/- The law rotakeep.GreedyDual. -/
import Derived.Test.YthbcnolpjcppoabGrBestQ
import Derived.Test.YthbcnolpjcppoabDualQ
namespace Go.Proofs.Ythbcnolpjcppoab
open Go.RowKit

theorem one_m : Fam 1 [1] ∧ Bas [1] := ⟨⟨by decide, by decide⟩, (bas_iff (by decide)).2 ⟨by decide, by decide +kernel, by decide +kernel⟩⟩
theorem hv9 : hvO [9] = [0] := by
  have h := hvO_by [9]
  exact h.unique ⟨⟨by decide, by decide⟩, by decide, List.pairwise_singleton _ _⟩
theorem best9 : grS (rk [1]) 0 (hvO [9]) = 1 := by rw [hv9]; decide +kernel
/-- v is a list of numbers of the call's own. -/
def OwnI (B : Nat) (w : World) (v : Value) (zs : List Int) : Prop := w.ownsRow B 3 1 v zs.length (zs.map (Value.int .i64))
theorem OwnI.nil (B : Nat) (w : World) : OwnI B w (.slice none 0 0) [] := World.ownsRow_nil _ _ _ _
theorem OwnI.snoc {B : Nat} {w : World} {v : Value} {l : List Int} {s : Int} (h : w.ownsRow B 3 1 v (l.length + 1) (l.map (Value.int .i64) ++ [.int .i64 s])) : OwnI B w v (l ++ [s]) := by
  unfold OwnI; rw [List.map_append]; simpa using h
theorem OwnI.ints {B : Nat} {w : World} {v : Value} {l : List Int} (h : OwnI B w v l) (hl : l.length ≤ 17592186044416) : Ints w v l := by
  obtain ⟨h0, h1⟩ := h
  rcases h1 with ⟨rfl, hn⟩ | ⟨g, cap, cur, rfl, hbase, hheap, hc1, hc2, hc3, htake⟩
  · have : l = [] := List.length_eq_zero_iff.1 hn
    subst this
    exact ⟨none, 0, rfl, by simp, fun h => by simp at h⟩
  · refine ⟨_, cap, rfl, hl, fun hn => ⟨g, 0, rfl, (Array.getElem?_eq_some_iff.1 hheap).1, fun i hi => ?_⟩⟩
    rw [Nat.mul_one] at htake
    have h2 : (cur.toList.take l.length)[i]? = (l.map (Value.int .i64))[i]? := by rw [htake]
    rw [List.getElem?_take_of_lt hi] at h2
    simp only [World.cell?, hheap, Nat.zero_add]
    simp only [Option.isSome_none, Bool.false_eq_true, if_false]
    rw [← Array.getElem?_toList, h2]
    simp [List.getD, hi]
theorem OwnI.grown {B : Nat} {w wr w1 : World} {u : Value} {l : List Int} {o : Obj} (hown : OwnI B wr u l) (hnx : Below B w wr) (hB : B ≤ wr.heap.size) (hg : (wr.alloc o).grownBy w1 u.ownBlock) : Below B w w1 := by
  refine (hnx.alloc hB o).grown hg (by simp; omega) (fun k e => ?_)
  obtain ⟨h0, h1⟩ := hown
  rcases h1 with ⟨rfl, _⟩ | ⟨g, cap, cur, rfl, hbase, _⟩
  · cases e
  · cases e; exact hbase
theorem OwnI.form {B : Nat} {w : World} {v : Value} {l : List Int} (h : OwnI B w v l) : ∃ a cap, v = .slice a l.length cap := by
  obtain ⟨h0, h1⟩ := h
  rcases h1 with ⟨rfl, hn⟩ | ⟨g, cap, cur, rfl, _⟩
  · exact ⟨none, 0, by rw [hn]⟩
  · exact ⟨_, _, rfl⟩
set_option maxRecDepth 100000 in
set_option maxHeartbeats 4000000 in
theorem gdual_law (n : Int) (v : Value) (zs : List Int) (u : Value) (ws : List Int) (w : World) (h : Ints w v zs) (hu : Ints w u ws) :
    Calls Try.prog 5 #[.agg #[.int .i64 n, v], u] w fun e w' => e = .returned (.bool true) ∧ Below w.heap.size w w' := by
  obtain ⟨i0, hi0, hz0, hz1, hz2⟩ := info_parts Try.infoInt
  have B0 : Below w.heap.size w (((w.alloc (.cells #[.int .i64 n, v] 24)).alloc (.cells #[.int .i64 1] 3)).alloc (.cells #[.int .i64 9] 3)) := (((Below.refl _ w).alloc (Nat.le_refl _) _).alloc (by simp) _).alloc (by simp; omega) _
  have HV0 := hid (h.below B0)
  have HU0 := hid (hu.below B0)
  have c0 := two_cells (World.alloc_heap_new w (.cells #[.int .i64 n, v] 24))
  have d0 := cellA (.cells #[.int .i64 9] 3) (cellA (.cells #[.int .i64 1] 3) c0.1)
  have d1 := cellA (.cells #[.int .i64 9] 3) (cellA (.cells #[.int .i64 1] 3) c0.2.1)
  have I1 : Ints (((w.alloc (.cells #[.int .i64 n, v] 24)).alloc (.cells #[.int .i64 1] 3)).alloc (.cells #[.int .i64 9] 3)) (.slice (some ⟨w.heap.size + 1, 0, none⟩) 1 1) (N [1]) := by
    have := (Ints.lit1 (w.alloc (.cells #[.int .i64 n, v] 24)) 1).below (below_alloc _ (.cells #[.int .i64 9] 3))
    rw [World.size_alloc] at this
    exact this
  have I2 : Ints (((w.alloc (.cells #[.int .i64 n, v] 24)).alloc (.cells #[.int .i64 1] 3)).alloc (.cells #[.int .i64 9] 3)) (.slice (some ⟨w.heap.size + 1 + 1, 0, none⟩) 1 1) [9] := by
    have := Ints.lit1 ((w.alloc (.cells #[.int .i64 n, v] 24)).alloc (.cells #[.int .i64 1] 3)) 9
    simpa using this
  have hsz : (((w.alloc (.cells #[.int .i64 n, v] 24)).alloc (.cells #[.int .i64 1] 3)).alloc (.cells #[.int .i64 9] 3)).heap.size = w.heap.size + 3 := by simp
  have BE := hid (Best_ok 1 _ _ [1] [9] _ I1 I2 (by omega) one_m.1 one_m.2 (by decide))
  rw [best9] at BE
  have WW : weiTo (fun i => [(9 : Int)].getD i 0) 1 1 = 9 := by decide
  rw [WW] at BE
  have HB0 := hid B0
  obtain ⟨a, cap, rfl, _, _⟩ := h
  obtain ⟨ua, ucap, rfl, _, hcu⟩ := hu
  clear c0 I1 I2 WW B0
  go_enter Try.func5, Try.ntmps5
  go_wp2_with fail
  obtain ⟨W0, hW0⟩ : ∃ W0, (((w.alloc (.cells #[.int .i64 n, .slice a zs.length cap] 24)).alloc (.cells #[.int .i64 1] 3)).alloc (.cells #[.int .i64 9] 3)) = W0 := ⟨_, rfl⟩
  rw [hW0] at HV0 HU0 d0 d1 hsz BE HB0 ⊢
  clear hW0
  refine BE.out.mono ?_
  rintro e w1 ⟨rfl, hb1⟩
  have y0 := (hb1.cell (p := ⟨w.heap.size, 0, none⟩) (by show w.heap.size < _; omega)).trans d0
  have y1 := (hb1.cell (p := ⟨w.heap.size, 1, none⟩) (by show w.heap.size < _; omega)).trans d1
  have HV1 := hid (HV0.out.below hb1)
  have HU1 := hid (HU0.out.below hb1)
  have HB1 := hid (HB0.out.trans (hb1.mono HB0.out.size))
  have hs1 : w.heap.size + 1 ≤ w1.heap.size := by have := hb1.size; omega
  clear hb1 HV0 HU0 d0 d1 hsz BE HB0
  by_cases hst : stE n zs ws = 0
  · have hchk : chkR n zs = 0 := by
      unfold stE at hst
      split at hst
      · rename_i h1; exact absurd hst h1
      · rename_i h1; exact Decidable.byContradiction h1
    have hcw : cwR n ws = 0 := by
      unfold stE at hst
      rw [if_neg (by simp [hchk])] at hst
      exact hst
    obtain ⟨m, l, rfl, hm, rfl, hf, hb⟩ := chk_of hchk
    clear hst hchk
    have B1 := hid (Best_ok m _ _ l ws w1 HV1.out HU1.out hm hf hb hcw)
    obtain ⟨hlw, hwb⟩ := cw_of hcw
    have hby := hvO_by ws
    rw [hlw] at hby
    have HLW := hid hlw
    rw [hlw] at B1 HU1 hcu ⊢
    clear hlw
    have BD : Hid (∀ o', ByW m (fun i => -ws.getD i 0) o' → weiTo (fun i => ws.getD i 0) (grS (rk l) 0 (hvO ws)) m - weiTo (fun i => -ws.getD i 0) (grS (rk (cmp m l)) 0 o') m = allTo (fun i => ws.getD i 0) m) := fun o' ho' => best_dual hm hf hb hby ho'
    have WB := weiTo_le hwb (grS (rk l) 0 (hvO ws)) m
    generalize weiTo (fun i => ws.getD i 0) (grS (rk l) 0 (hvO ws)) m = q at *
    generalize grS (rk l) 0 (hvO ws) = z at *
    go_wp2_with fail
    refine B1.out.mono ?_
    rintro e w2 ⟨rfl, hb2⟩
    have z0 := (hb2.cell (p := ⟨w.heap.size, 0, none⟩) (by show w.heap.size < _; omega)).trans y0
    have z1 := (hb2.cell (p := ⟨w.heap.size, 1, none⟩) (by show w.heap.size < _; omega)).trans y1
    have HV2 := hid (HV1.out.below hb2)
    have HU2 := hid (HU1.out.below hb2)
    have HB2 := hid (HB1.out.trans (hb2.mono HB1.out.size))
    have hs2 : w.heap.size + 1 ≤ w2.heap.size := Nat.le_trans hs1 hb2.size
    clear hb2 HV1 HU1 HB1 hs1 y0 y1 B1
    have DU := hid (Dual_ok m _ l w2 hm hf hb HV2.out)
    go_wp2_with fail
    refine DU.out.mono ?_
    rintro e w3 ⟨r3, rfl, ho3, hb3⟩
    have HV3 := hid ((ho3.ints (by have := fam_len hm (cmp_fam hf); omega)))
    have HU3 := hid (HU2.out.below hb3)
    have HB3 := hid (HB2.out.trans (hb3.mono HB2.out.size))
    have hs3 : w.heap.size + 1 ≤ w3.heap.size := Nat.le_trans hs2 hb3.size
    obtain ⟨a3, c3, rfl⟩ := ownsRow_form' ho3
    clear hb3 ho3 HV2 HU2 HB2 hs2 z0 z1 DU
    go_wp2_with fail
    have kD := World.alloc_heap_new w3 (.cells #[.int .i64 m, .slice a3 (cmp m l).length c3] 24)
    have kB := below_alloc w3 (.cells #[.int .i64 m, .slice a3 (cmp m l).length c3] 24)
    have kS : (w3.alloc (.cells #[.int .i64 m, .slice a3 (cmp m l).length c3] 24)).heap.size = w3.heap.size + 1 := by simp
    have HV4 := hid (HV3.out.below kB)
    have HU4 := hid (HU3.out.below kB)
    have HB4 := hid (HB3.out.trans (kB.mono HB3.out.size))
    obtain ⟨W4, hW4⟩ : ∃ W4, w3.alloc (.cells #[.int .i64 m, .slice a3 (cmp m l).length c3] 24) = W4 := ⟨_, rfl⟩
    rw [hW4] at kD kS HV4 HU4 HB4 ⊢
    clear hW4 kB HV3 HU3 HB3
    obtain ⟨F, hF, HF⟩ : ∃ F : Nat → Int, (fun i => ws.getD i 0) = F ∧ Hid (∀ k, ws.getD k 0 = F k) := ⟨_, rfl, fun k => rfl⟩
    have hwF : ∀ i, -1000 ≤ F i ∧ F i ≤ 1000 := fun i => by rw [← HF.out]; exact hwb i
    have hF2 : (fun i => -ws.getD i 0) = fun i => -F i := by funext i; rw [HF.out]
    rw [hF, hF2] at BD
    have TK : Hid (∀ k, k < m → (ws.take (k + 1)).map (fun x => -x) = (ws.take k).map (fun x => -x) ++ [-F k]) := fun k hk => by
      have hk' : k < ws.length := by rw [HLW.out]; exact hk
      rw [← HF.out]
      rw [List.take_succ_eq_append_getElem hk', List.map_append]
      simp [List.getD, hk']
    have TL : Hid (∀ k, k ≤ m → ((ws.take k).map (fun x => -x)).length = k) := fun k hk => by
      have hl := HLW.out
      simp
      omega
    go_loopw [13, 14, 56] (fun v q i wr => ∃ k : Nat, k ≤ m ∧ i = .int .i64 k ∧ q = .int .i64 (allTo F k) ∧ Hid (OwnI (w3.heap.size + 1) wr v ((ws.take k).map fun x => -x)) ∧ Hid (Below (w3.heap.size + 1) W4 wr)) (fun _ _ i _ => m - (intOf i).toNat)
    case atStart => exact ⟨0, Nat.zero_le _, rfl, rfl, OwnI.nil _ _, Below.refl _ _⟩
    case round =>
      obtain ⟨k, hk, rfl, rfl, HO, HW⟩ := hrel
      have hsw := HW.out.size
      by_cases hlt : k < m
      · have hki : (k : Int) < (m : Int) := by omega
        have hIw : Ints wr (.slice ua m ucap) ws := HU4.out.below (by rw [kS]; exact HW.out)
        obtain ⟨q1, q2, q3, q4, q5⟩ := hIw
        obtain ⟨b', off', rfl, hb', hcl⟩ := q5 (by rw [HLW.out]; omega)
        obtain ⟨rfl, hmm, rfl⟩ : ua = some ⟨b', off', none⟩ ∧ m = ws.length ∧ ucap = q2 := by simpa using q3
        clear hmm
        have hck := hcl k (by rw [HLW.out]; exact hlt)
        rw [HF.out] at hck
        have hx := hwF k
        have hq := allTo_le hwF k
        have A1 : Hid (allTo F (k + 1) = allTo F k + F k) := rfl
        have hT := TK.out k hlt
        have hTl := TL.out k (by omega)
        have hk8 : (k : Int) ≤ 8 := by omega
        clear hcl q5 q3 q4
        generalize allTo F k = sm at *
        generalize F k = x at *
        generalize (ws.take k).map (fun x => -x) = tn at *
        go_wp2_with (at_builtin; refine wpList_append_own _ rfl _ _ 22 rfl (w3.heap.size + 1) 3 i0 (.int .i64 0) 1 8 Try.underlying22 hi0 hz0 hz1 hz2 rfl (by decide) _ _ _ rfl (HO.out.alloc _) ⟨wr.heap.size, 0, none⟩ 1 1 [.int .i64 (-x)] rfl rfl ?c1 ?c2 ?c3 ?c4 ?c5 ?_)
        case c1 => exact cell_one_new _ _ _
        case c2 => intro u hu; simp at hu; subst hu; rfl
        case c3 => unfold maxLen; first | omega | (simp; omega)
        case c4 => first | omega | (simp; omega)
        case c5 => first | omega | (simp; omega)
        intro v' w5 hown' hgrow _
        have R3 := hid (OwnI.snoc (l := tn) (s := -x) (by rw [hTl]; exact hown'))
        have R4 := hid (OwnI.grown HO.out HW.out (by omega) hgrow)
        clear hown' hgrow
        rw [← hT] at R3
        clear hT hTl
        go_wp2_with fail
        go_roundw
        case rel => exact ⟨k + 1, by omega, by go_num, by rw [A1.out], R3, R4⟩
        case measure => simp [intOf]; omega
      · obtain rfl : k = m := by omega
        have hTl := TL.out k (Nat.le_refl _)
        have hall : (ws.take k).map (fun x => -x) = ws.map fun x => -x := by rw [List.take_of_length_le (by rw [HLW.out]; exact Nat.le_refl _)]
        rw [hall] at HO hTl
        have hng : ∀ i, (ws.map fun x => -x).getD i 0 = -F i := fun i => by
          rw [← HF.out]
          by_cases hi : i < ws.length
          · simp [List.getD, hi]
          · simp [List.getD, List.getElem?_eq_none (Nat.le_of_not_lt hi)]
        have hcw2 : cwR k (ws.map fun x => -x) = 0 := by
          unfold cwR
          rw [if_neg (by simp [HLW.out]), if_pos]
          rw [List.all_eq_true]
          intro y hy
          obtain ⟨i, hi, rfl⟩ := List.mem_iff_getElem.1 hy
          have h1 := hng i
          have h2 := hwF i
          simp only [List.getD, List.getElem?_eq_getElem hi, Option.getD_some] at h1
          rw [h1]
          simp
          omega
        have hby2 := hvO_by (ws.map fun x => -x)
        rw [hTl, show (fun i => (ws.map fun x => -x).getD i 0) = fun i => -F i from funext hng] at hby2
        have hBD := BD.out _ hby2
        have hBB : Hid (Below w.heap.size w wr) := HB4.out.trans (HW.out.mono (by omega))
        have hVr : Ints wr _ (N (cmp k l)) := HV4.out.below (by rw [kS]; exact HW.out)
        obtain ⟨x0, x1, _, _⟩ := two_cells ((HW.out.block w3.heap.size (by omega)).trans kD)
        have B2 := hid (fun v' (h' : OwnI (w3.heap.size + 1) wr v' (ws.map fun x => -x)) => Best_ok k _ v' (cmp k l) (ws.map fun x => -x) wr hVr (h'.ints (by rw [hTl]; omega)) hm (cmp_fam hf) (dual_bas hm hf hb) hcw2)
        have B3 := hid (B2.out _ HO.out)
        rw [show (fun i => (ws.map fun x => -x).getD i 0) = fun i => -F i from funext hng] at B3
        have WB2 := weiTo_le (w := fun i => -F i) (fun i => by have := hwF i; omega) (grS (rk (cmp k l)) 0 (hvO (ws.map fun x => -x))) k
        obtain ⟨va, vc, hve⟩ := HO.out.form
        subst hve
        rw [hTl] at B3 ⊢
        generalize weiTo (fun i => -F i) (grS (rk (cmp k l)) 0 (hvO (ws.map fun x => -x))) k = q2 at *
        generalize grS (rk (cmp k l)) 0 (hvO (ws.map fun x => -x)) = g2 at *
        have hk8 : (k : Int) ≤ 8 := by omega
        have hAl := allTo_le hwF k
        generalize allTo F k = sm at *
        have hfin : q - q2 = sm := hBD
        clear hBD B2 hng hcw2 hby2 hall hTl
        have HFN := hid hfin
        clear hfin
        go_wp2_with fail
        refine B3.out.mono ?_
        rintro e w6 ⟨rfl, hb6⟩
        have HB6 := hid (hBB.out.trans (hb6.mono hBB.out.size))
        clear hb6
        go_wp2_with fail
        go_ret
        exact ⟨ret_bool (by rw [HFN.out]; simp), HB6.out⟩
  · have BB := hid (Best_bad n _ _ zs ws w1 HV1.out HU1.out hst)
    have hne : (stE n zs ws != 0) = true := by simp [hst]
    generalize stE n zs ws = q at *
    go_wp2_with fail
    refine BB.out.mono ?_
    rintro e w2 ⟨rfl, hb2⟩
    have HB2 := hid (HB1.out.trans (hb2.mono HB1.out.size))
    clear hb2
    go_wp2_with fail
    go_ret
    exact ⟨rfl, HB2.out⟩
end Go.Proofs.Ythbcnolpjcppoab
