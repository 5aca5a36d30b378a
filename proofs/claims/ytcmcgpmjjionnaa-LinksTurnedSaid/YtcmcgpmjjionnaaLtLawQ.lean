/- rotakeep.LinksTurned. -/
import Derived.Test.YtcmcgpmjjionnaaLkEQ
import Derived.Test.YtcmcgpmjjionnaaPickNQ
namespace Go.Proofs.Ytcmcgpmjjionnaa
open Go.RowKit

theorem lt_none (w : World) : EdgesI w (.slice none 0 0) [] := ⟨none, 0, rfl, by simp, fun h => absurd h (Nat.lt_irrefl 0)⟩
theorem lt_one : lnkE 1 [] 1 1 = 0 := by decide
theorem lt_cut : cutV (nxE []) 1 (2 ^ 1 - 1) 1 1 = 1 := by decide +kernel
theorem lt_set {w : World} {b : Nat} {x y u : Value} {t : TypeId} (h : w.heap[b]? = some (.cells #[x, y] t (0, 0))) : (w.setCell ⟨b, 1, none⟩ u).heap[b]? = some (.cells #[x, u] t (0, 0)) := by
  unfold World.setCell
  dsimp only
  rw [Array.getElem?_modify, h]
  simp
theorem OwnE.setT {B : Nat} {w : World} {v : Value} {l : List (Nat × Nat)} (h : OwnE B w v l) (p : Addr) (x : Value) (hp : ∀ g, v.ownBlock = some g → p.block ≠ g) : OwnE B (w.setCell p x) v l := by
  obtain ⟨h0, h1⟩ := h
  refine ⟨h0, h1.imp_right ?_⟩
  rintro ⟨g, cap, cur, rfl, hg, hheap, hr⟩
  refine ⟨g, cap, cur, rfl, hg, ?_, hr⟩
  unfold World.setCell
  dsimp only
  rw [Array.getElem?_modify, if_neg (by have := hp g rfl; exact this)]
  exact hheap
theorem add_plainT (b off i : Nat) : (⟨b, off, none⟩ : Addr).add i = ⟨b, off + i, none⟩ := by unfold Addr.add; split <;> simp_all
set_option maxRecDepth 20000 in
set_option maxHeartbeats 8000000 in
theorem lturn_law (n : Int) (v : Value) (F : List (Int × Int)) (s t k : Int) (w : World) (h : EdgesI w v F) (hk : -9223372036854775808 ≤ k ∧ k ≤ 9223372036854775807) :
    Calls Try.prog 3 #[.agg #[.int .i64 n, v], .int .i64 s, .int .i64 t, .int .i64 k] w fun e w' => e = .returned (.bool true) ∧ Below w.heap.size w w' := by
  have HI := hid h
  obtain ⟨a, cap, rfl, -, -⟩ := h
  obtain ⟨w0, hw0⟩ : ∃ w0, w.alloc (.cells #[.int .i64 n, .slice a F.length cap] 24) = w0 := ⟨_, rfl⟩
  have B0 : Hid (Below w.heap.size w w0) := by rw [← hw0]; exact (Below.refl _ _).alloc (Nat.le_refl _) _
  have X0 : Hid (w0.heap[w.heap.size]? = some (.cells #[.int .i64 n, .slice a F.length cap] 24 (0, 0))) := by rw [← hw0]; exact World.alloc_heap_new w _
  have I0 := hid (HI.out.below B0.out)
  have C0 : Hid (Calls Try.prog 4 #[.agg #[.int .i64 1, .slice none 0 0], .int .i64 1, .int .i64 1] w0 fun e w' => e = .returned (.tuple #[.int .i64 1, .int .i64 0]) ∧ Below w0.heap.size w0 w') := by
    have := LCut_ok 1 1 1 (.slice none 0 0) [] w0 lt_one (lt_none w0)
    rw [lt_cut] at this
    exact this
  have hlt0 := (Array.getElem?_eq_some_iff.1 X0.out).1
  go_enter Try.func3, Try.ntmps3
  go_wp2_with fail
  try rw [hw0]
  clear hw0
  refine C0.out.mono ?_
  rintro e w1 ⟨rfl, hb1⟩
  have B1 := hid hb1
  have hx1 := (hb1.block _ hlt0).trans X0.out
  have X1 := hid hx1
  obtain ⟨x0, x1, -, -⟩ := two_cells hx1
  have I1 := hid (I0.out.below hb1)
  have hlt1 := Nat.lt_of_lt_of_le hlt0 hb1.size
  have BW1 := hid (B0.out.trans (hb1.mono B0.out.size))
  clear hb1 C0 hx1
  by_cases hg : lnkE n F s t = 0
  rotate_left
  · have M1 := hid (LMost_bad n s t _ F w1 hg I1.out)
    have hq2 : (lnkE n F s t == 0) = false := by simpa using hg
    generalize lnkE n F s t = q at *
    go_wp2_with fail
    refine M1.out.mono ?_
    rintro e w5 ⟨rfl, hb5⟩
    have B5 := hid (BW1.out.trans (hb5.mono BW1.out.size))
    clear hb5 M1
    go_wp2_with fail
    go_ret
    exact ⟨rfl, B5.out⟩
  obtain ⟨m, A, B, rfl, rfl, rfl, h1, h7, h8, hall, hA, hB, hE⟩ := lnk_good hg
  have M1 := hid (LMost_ok m A B _ F w1 hg I1.out)
  have hle := lnk_le (f := nxE F) (a := A) (b := B) (show m ≤ 8 by omega)
  have L8 := hid (lnk_le (f := nxE F) (a := A) (b := B) (show m ≤ 8 by omega))
  obtain ⟨r1, hr1⟩ : ∃ r1, lnkR (nxE F) m (2 ^ m - 1) B A = r1 := ⟨_, rfl⟩
  rw [hr1] at M1 hle L8
  have HG := hid hg
  have HALL := hid hall
  have H8 := hid h8
  have HE := hid hE
  clear hg hall h8 hE
  go_wp2_with fail
  refine M1.out.mono ?_
  rintro e w2 ⟨rfl, hb2⟩
  have hx2 := (hb2.block _ hlt1).trans X1.out
  have X2 := hid hx2
  obtain ⟨y0, y1, -, -⟩ := two_cells hx2
  have I2 := hid (I1.out.below hb2)
  have hlt2 := Nat.lt_of_lt_of_le hlt1 hb2.size
  have BW2 := hid (BW1.out.trans (hb2.mono BW1.out.size))
  clear hb2 hx2 M1 X1 I1 BW1 X0 B0 I0 hlt0 hlt1 B1 x0 x1
  have H1 : Hid (Below w2.heap.size w2 (w2.alloc (.cells #[.int .i64 m, .slice none 0 0] 24))) := (Below.refl _ _).alloc (Nat.le_refl _) _
  have Z1 : Hid ((w2.alloc (.cells #[.int .i64 m, .slice none 0 0] 24)).heap[w2.heap.size]? = some (.cells #[.int .i64 m, .slice none 0 0] 24 (0, 0))) := World.alloc_heap_new w2 _
  have S1 : Hid (w2.heap.size + 1 ≤ (w2.alloc (.cells #[.int .i64 m, .slice none 0 0] 24)).heap.size) := by show _ ≤ _; rw [World.size_alloc]; omega
  have CX : Hid (∀ W, Below w2.heap.size w2 W → W.cell? ⟨w.heap.size, 0, none⟩ = some (.int .i64 m) ∧ W.cell? ⟨w.heap.size, 1, none⟩ = some (.slice a F.length cap)) := fun W hW => by
    obtain ⟨q0, q1, -⟩ := two_cells ((hW.block _ hlt2).trans X2.out)
    exact ⟨q0, q1⟩
  obtain ⟨y2, y3⟩ := CX.out _ H1.out
  go_wp2_with fail
  generalize w2.alloc (.cells #[.int .i64 m, .slice none 0 0] 24) = W1 at H1 Z1 S1 y2 y3 ⊢
  obtain ⟨bT, hbT⟩ : ∃ bT, w2.heap.size = bT := ⟨_, rfl⟩
  rw [hbT] at H1 Z1 S1
  try rw [hbT]
  have HBT := hid hbT
  have HLT : Hid (w.heap.size < bT) := by show _ < _; omega
  clear y0 y1 y2 y3 hbT
  go_loopw [15, 49] (fun _ i W => ∃ (j : Nat) (u : Value), j ≤ F.length ∧ i = .int .i64 j ∧ Hid (W.heap[bT]? = some (.cells #[.int .i64 m, u] 24 (0, 0))) ∧ Hid (OwnE (bT + 1) W u (bakE (natE F) j)) ∧ Hid (Below bT w2 W) ∧ Hid (bT + 1 ≤ W.heap.size)) (fun _ i _ => F.length - (intOf i).toNat)
  case atStart => exact ⟨0, _, Nat.zero_le _, rfl, Z1.out, OwnE.nil _ _, H1.out, S1.out⟩
  case round =>
    obtain ⟨j, u, hj, rfl, HX, HO, HV, HS⟩ := hrel
    have BW : Hid (Below w2.heap.size w2 wr) := by have := HV.out; rw [← HBT.out] at this; exact this
    by_cases hlt : j < F.length
    · obtain ⟨aa, cc2, hv2, -, hcc⟩ := I2.out
      obtain ⟨b, off, ha, hb, hcell⟩ := hcc (by omega)
      injection hv2 with q1 q2 q3
      subst ha
      subst q1
      obtain ⟨c1, c2⟩ := hcell j hlt
      have c3 := (BW.out.cell (p := ⟨b, off + j * 2, none⟩) hb).trans c1
      have c4 := (BW.out.cell (p := ⟨b, off + j * 2 + 1, none⟩) hb).trans c2
      have hbd := edge_in HALL.out hlt
      have eA : (F.getD j (0, 0)).1 = ((ea (natE F) j : Nat) : Int) := by unfold ea; rw [natE_at hlt]; show _ = (((F.getD j (0, 0)).1.toNat : Nat) : Int); omega
      have eB : (F.getD j (0, 0)).2 = ((eb (natE F) j : Nat) : Int) := by unfold eb; rw [natE_at hlt]; show _ = (((F.getD j (0, 0)).2.toNat : Nat) : Int); omega
      rw [eA] at c3
      rw [eB] at c4
      have TS := hid (bakE_succ (E := natE F) (j := j) (by rw [natE_len]; exact hlt))
      have TL := hid (bakE_len (E := natE F) (j := j) (by rw [natE_len]; exact hj))
      obtain ⟨P, hP⟩ : ∃ P, ea (natE F) j = P := ⟨_, rfl⟩
      obtain ⟨Q, hQ⟩ : ∃ Q, eb (natE F) j = Q := ⟨_, rfl⟩
      rw [hP] at c3 TS
      rw [hQ] at c4 TS
      obtain ⟨W2, hW2⟩ : ∃ W2, wr.alloc (.cells #[.int .i64 P, .int .i64 Q] 29) = W2 := ⟨_, rfl⟩
      have H2 : Hid (Below wr.heap.size wr W2) := by rw [← hW2]; exact (Below.refl _ _).alloc (Nat.le_refl _) _
      have XX2 : Hid (W2.heap[wr.heap.size]? = some (.cells #[.int .i64 P, .int .i64 Q] 29 (0, 0))) := by rw [← hW2]; exact World.alloc_heap_new wr _
      have S2 : Hid (W2.heap.size = wr.heap.size + 1) := by show _ = _; rw [← hW2, World.size_alloc]
      have hji : (j : Int) < (F.length : Int) := by omega
      have HJ := hid hlt
      have OL : Hid (∀ g, u.ownBlock = some g → bT + 1 ≤ g ∧ g < wr.heap.size) := fun g hg => World.ownsRow.lt HO.out g hg
      have O2 := hid (HO.out.below H2.out)
      have bX2 : Hid (W2.heap[bT]? = some (.cells #[.int .i64 m, u] 24 (0, 0))) := (H2.out.block bT (by have := HS.out; omega)).trans HX.out
      have V2 : Hid (Below bT w2 W2) := HV.out.trans (H2.out.mono (by have := HS.out; omega))
      obtain ⟨xe0, xe1, -, -⟩ := two_cells XX2.out
      obtain ⟨xg0, xg1, -, -⟩ := two_cells bX2.out
      have hi0 := Try.infoEdge
      obtain ⟨i0, hi0, hiz⟩ := Option.map_eq_some_iff.1 hi0
      obtain ⟨hz0, hz1, hz2⟩ : i0.zero = some (.agg #[.int .i64 0, .int .i64 0]) ∧ i0.size = 2 ∧ i0.bytes = 16 := by simpa using hiz
      have hle8 : j ≤ 8 := by have := H8.out; omega
      have OO : Hid (W2.ownsRow (bT + 1) 29 2 u j (VE (bakE (natE F) j))) := by have := O2.out; unfold OwnE at this; rw [TL.out] at this; exact this
      clear hiz c1 c2 hcell hcc q2 q3 hb hP hQ hlt eA eB hbd
      go_wp2_with (at_builtin; refine wpList_append_own _ rfl _ _ 22 rfl (bT + 1) 29 i0 (.agg #[.int .i64 0, .int .i64 0]) 2 16 Try.undEdgeS hi0 hz0 hz1 hz2 rfl (by decide) _ _ _ rfl (OO.out.alloc _) ⟨W2.heap.size, 0, none⟩ 1 1 [.int .i64 Q, .int .i64 P] rfl rfl ?c1 ?c2 ?c3 ?c4 ?c5 ?_)
      case c1 =>
        intro k u hk
        rw [add_plainT, World.cell?_alloc_at _ _ _ _ rfl]
        match k, hk with
        | 0, hk => simpa using hk
        | 1, hk => simpa using hk
        | k + 2, hk => simp at hk
      case c2 => intro u hu; simp at hu; rcases hu with rfl | rfl <;> rfl
      case c3 => unfold maxLen; omega
      case c4 => omega
      case c5 => have := S2.out; have := HS.out; simp; omega
      intro v' w7 hown' hgrow _
      obtain ⟨gv, cv9, rfl⟩ : ∃ gv cv9, v' = .slice (some ⟨gv, 0, none⟩) (j + 1) cv9 := by
        rcases Go.Joins.ownsRow_forms hown' with ⟨rfl, h0⟩ | ⟨g', cap', rfl⟩
        · omega
        · exact ⟨_, _, rfl⟩
      obtain ⟨v', hv'⟩ : ∃ v', v' = Value.slice (some ⟨gv, 0, none⟩) (j + 1) cv9 := ⟨_, rfl⟩
      rw [← hv'] at hown'
      have hbG : Below (bT + 1) W2 w7 := ((Below.refl _ W2).alloc (by have := S2.out; have := HS.out; omega) _).grown hgrow (by have := S2.out; have := HS.out; simp; omega) (fun j hj => (World.ownsRow.lt OO.out j hj).1)
      have hX7 := (hbG.block bT (by omega)).trans bX2.out
      have OW7 : OwnE (bT + 1) w7 v' (bakE (natE F) (j + 1)) := by
        rw [TS.out]
        refine OwnE.snoc ?_
        rw [TL.out]
        exact hown'
      have OW8 := hid (OW7.setT ⟨bT, 1, none⟩ v' fun g hg e => by have := (World.ownsRow.lt OW7 g hg).1; simp at e; omega)
      have hX8 := hid (lt_set (u := v') hX7)
      have V8 := hid ((V2.out.trans (hbG.mono (by omega))).setCell (p := ⟨bT, 1, none⟩) (Nat.le_refl _) v')
      have S8 : Hid (bT + 1 ≤ (w7.setCell ⟨bT, 1, none⟩ v').heap.size) := by show _ ≤ _; rw [World.size_setCell]; exact Nat.le_trans (by have := S2.out; have := HS.out; omega) hbG.size
      have f9 : w7.frozen? ⟨bT, 1, none⟩ = false := by simp [World.frozen?, hX7]
      obtain ⟨z0, z1, -, -⟩ := two_cells hX7
      subst hv'
      clear hown' hgrow hbG hX7 OW7
      go_wp2_with fail
      go_roundw
      case rel => exact ⟨j + 1, _, HJ.out, by go_num, hX8.out, OW8.out, V8.out, S8.out⟩
      case measure => have := HJ.out; simp [intOf]; omega
    · obtain rfl : j = F.length := by omega
      have hn : ¬ ((F.length : Nat) : Int) < (F.length : Int) := by omega
      have NL := hid (natE_len F)
      have OA := HO.out.at (by rw [bakE_len (by rw [NL.out]; exact hj)]; exact H8.out)
      have GB := hid (graph_bak (E := natE F) h1 h7 (by rw [natE_len]; exact H8.out) HE.out)
      rw [NL.out] at GB
      have LB := lnk_back (a := A) (b := B) (F := F) (show m ≤ 8 by omega)
      rw [NL.out, hr1] at LB
      have LE : lnkE m (intE (bakE (natE F) F.length)) B A = 0 := lnk_mk (by omega) GB.out hB hA
      have M2 := hid (LMost_ok m B A u _ wr LE OA.int)
      rw [LB] at M2
      obtain ⟨z0, z1, -, -⟩ := two_cells HX.out
      have BWr := hid (BW2.out.trans (BW.out.mono BW2.out.size))
      clear OA LB LE
      have HI2 := hid (I2.out.below BW.out)
      obtain ⟨y0, y1⟩ := CX.out wr BW.out
      have hpl := pickN_lt k (show 0 < m by omega)
      have hp2 : 2 ^ pickN k m < 2 ^ m := Nat.pow_lt_pow_right (by decide) hpl
      have hA2 := Nat.or_lt_two_pow hA hp2
      have ONE := hid (lnk_one (f := nxE F) (b := B) (show m ≤ 8 by omega) hA hpl)
      have M3 : Hid (∀ W, EdgesI W (.slice a F.length cap) F → Calls Try.prog 5 #[.agg #[.int .i64 m, .slice a F.length cap], .int .i64 ((A ||| 2 ^ pickN k m : Nat) : Int), .int .i64 B] W fun e w' => e = .returned (.tuple #[.int .i64 (lnkR (nxE F) m (2 ^ m - 1) B (A ||| 2 ^ pickN k m) : Nat), .int .i64 0]) ∧ Below W.heap.size W w') := fun W hW =>
        LMost_ok m (A ||| 2 ^ pickN k m) B _ F W (lnk_mk (by omega) (lnk_graph HG.out) hA2 hB) hW
      have PK := hid (fun W => PickG_any k m W hk.1 hk.2 (by omega) (by omega))
      have hor : bits .or .i64 (A : Int) ((2 ^ pickN k m : Nat) : Int) = ((A ||| 2 ^ pickN k m : Nat) : Int) := i64_or_nat _ _ (by have := lt256 (show m ≤ 8 by omega) hA; omega) (by have := lt256 (show m ≤ 8 by omega) hp2; omega)
      have hpw : wrap64 (2 ^ pickN k m) = ((2 ^ pickN k m : Nat) : Int) := (pow_wrap _ (by omega)).1
      have hpi : ((pickN k m : Nat) : Int) < 64 := by omega
      rw [hr1] at ONE
      have H9 := lnk_le (f := nxE F) (a := A ||| 2 ^ pickN k m) (b := B) (show m ≤ 8 by omega)
      generalize lnkR (nxE F) m (2 ^ m - 1) B (A ||| 2 ^ pickN k m) = r3 at *
      generalize pickN k m = i at *
      go_wp2_with fail
      refine M2.out.mono ?_
      rintro e w5 ⟨rfl, hb5⟩
      have HI5 := hid (HI2.out.below hb5)
      obtain ⟨q0, q1⟩ := CX.out w5 (BW.out.trans (hb5.mono BW.out.size))
      have B5 := hid (BWr.out.trans (hb5.mono BWr.out.size))
      clear hb5 M2
      have P5 := hid (PK.out w5)
      have M5 := hid (M3.out w5 HI5.out)
      generalize hE2 : 2 ^ i = E2 at *
      go_wp2_with fail
      refine P5.out.mono ?_
      rintro e w6 ⟨rfl, rfl⟩
      go_wp2_with fail
      refine M5.out.mono ?_
      rintro e w7 ⟨rfl, hb7⟩
      have B7 := hid (B5.out.trans (hb7.mono B5.out.size))
      clear hb7 M5
      have h8 := L8.out
      rcases ONE.out with e3 | e3
      · subst e3
        go_wp2_with fail
        go_ret
        exact ⟨rfl, B7.out⟩
      · subst e3
        have hne : (((r1 + 1 : Nat) : Int) == (r1 : Int)) = false := by rw [beq_eq_false_iff_ne]; omega
        go_wp2_with fail
        go_ret
        exact ⟨rfl, B7.out⟩
end Go.Proofs.Ytcmcgpmjjionnaa
