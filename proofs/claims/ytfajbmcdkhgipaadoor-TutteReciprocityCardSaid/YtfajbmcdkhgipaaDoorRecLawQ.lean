/- rotakeep.TutteReciprocity. -/
import Derived.Test.YtfajbmcdkhgipaaDoorFrCQ
import Derived.Test.YtfajbmcdkhgipaaDoorFhCQ
import Derived.Test.YtfajbmcdkhgipaaDoorPlainAll2
import Derived.Test.YtfajbmcdkhgipaaDoorBgVQ
import Derived.Test.YtfajbmcdkhgipaaDoorFgBQ
import Derived.Test.YtfajbmcdkhgipaaDoorItAQ
import Derived.Lib.AppendIntMem
import Derived.Deep.RegionHeld3
import Derived.Deep.CutRange
namespace Go.Proofs.YtfajbmcdkhgipaaDoor
open Go.RowKit

theorem rc_none (w : World) : EdgesI w (.slice none 0 0) [] := ⟨none, 0, rfl, by simp, fun h => absurd h (Nat.lt_irrefl 0)⟩
theorem rc_one : graphR 1 [] = 0 := by decide
theorem rc_pol : (List.range ((1 : Int).toNat + 1)).map (chF (1 : Int).toNat []) = [0, 1] := by decide +kernel
theorem rc_lit (w : World) (a b : Int) (t : TypeId) : Ints (w.alloc (.cells #[.int .i64 a, .int .i64 b] t)) (.slice (some ⟨w.heap.size, 0, none⟩) 2 2) [a, b] :=
  ⟨_, 2, rfl, by simp, fun _ => ⟨w.heap.size, 0, rfl, by simp, fun i hi => by
    rw [World.cell?_alloc_at _ _ _ _ rfl]
    match i, hi with
    | 0, _ => rfl
    | 1, _ => rfl⟩⟩
theorem rc_set {w : World} {b : Nat} {x y u : Value} {t : TypeId} (h : w.heap[b]? = some (.cells #[x, y] t (0, 0))) : (w.setCell ⟨b, 1, none⟩ u).heap[b]? = some (.cells #[x, u] t (0, 0)) := by
  unfold World.setCell
  dsimp only
  rw [Array.getElem?_modify, h]
  simp
theorem rc_two {w : World} {b : Nat} {x y x' y' : Value} {t : TypeId} (h : w.heap[b]? = some (.cells #[x, y] t (0, 0))) : ((w.setCell ⟨b, 0, none⟩ x').setCell ⟨b, 1, none⟩ y').heap[b]? = some (.cells #[x', y'] t (0, 0)) := by
  unfold World.setCell
  dsimp only
  rw [Array.getElem?_modify, Array.getElem?_modify, h]
  simp
theorem OwnE.setO {B : Nat} {w : World} {v : Value} {l : List (Nat × Nat)} (h : OwnE B w v l) (p : Addr) (x : Value) (hp : ∀ g, v.ownBlock = some g → p.block ≠ g) : OwnE B (w.setCell p x) v l := by
  obtain ⟨h0, h1⟩ := h
  refine ⟨h0, h1.imp_right ?_⟩
  rintro ⟨g, cap, cur, rfl, hg, hheap, hr⟩
  refine ⟨g, cap, cur, rfl, hg, ?_, hr⟩
  unfold World.setCell
  dsimp only
  rw [Array.getElem?_modify, if_neg (by have := hp g rfl; exact this)]
  exact hheap
set_option maxRecDepth 20000 in
set_option maxHeartbeats 16000000 in
theorem trecip_law (n : Int) (v : Value) (F : List (Int × Int)) (k : Int) (w : World) (h : EdgesI w v F) (hk : -9223372036854775808 ≤ k ∧ k ≤ 9223372036854775807) (hw : Pow10 w) :
    Calls Tryd.prog 3 #[.agg #[.int .i64 n, v], .int .i64 k] w fun e w' => e = .returned (.bool true) ∧ Below w.heap.size w w' := by
  have HI := hid h
  obtain ⟨a, cap, rfl, -, -⟩ := h
  have HW0 := hid (Lib.tabBelow_of_tabIs hw)
  obtain ⟨w0, hw0⟩ : ∃ w0, w.alloc (.cells #[.int .i64 n, .slice a F.length cap] 24) = w0 := ⟨_, rfl⟩
  have B0 : Hid (Below w.heap.size w w0) := by rw [← hw0]; exact (Below.refl _ _).alloc (Nat.le_refl _) _
  have X0 : Hid (w0.heap[w.heap.size]? = some (.cells #[.int .i64 n, .slice a F.length cap] 24 (0, 0))) := by rw [← hw0]; exact World.alloc_heap_new w _
  have I0 := hid (HI.out.below B0.out)
  have CH := hid (Chromatic_any 1 _ [] w0 (rc_none w0))
  have HK := hid hk
  clear HI hk hw
  go_enter Tryd.func3, Tryd.ntmps3
  go_wp2_with fail
  clear hw0
  refine CH.out.mono ?_
  rintro e w2 ⟨-, hm, hb2⟩
  obtain ⟨u2, rfl, hu2⟩ := hm rc_one
  have hi2 := hu2.ints (by decide)
  rw [rc_pol] at hi2
  have hb3 : Below w2.heap.size w2 (w2.alloc (.cells #[.int .i64 0, .int .i64 1] 2)) := (Below.refl _ _).alloc (Nat.le_refl _) _
  have S1 := hid (SameL_any _ _ _ _ _ (hi2.below hb3) (rc_lit w2 0 1 2))
  rw [show decide (([0, 1] : List Int) = [0, 1]) = true by decide] at S1
  obtain ⟨ua, ucap, hu, -, -⟩ := hi2
  subst hu
  have H13 := hid (hb2.trans (hb3.mono hb2.size))
  clear hb2 hb3 hu2 CH hm
  go_wp2_with fail
  refine S1.out.mono ?_
  rintro e w4 ⟨rfl, hb4⟩
  have K4 := hid (H13.out.trans (hb4.mono H13.out.size))
  have B4 := hid (B0.out.trans (K4.out.mono B0.out.size))
  have X4 := hid (box_keepH X0.out K4.out)
  have I4 := hid (I0.out.below K4.out)
  clear hb4 H13 S1 B0 I0 X0 K4
  obtain ⟨x0, x1⟩ := two_cells X4.out
  have CH := hid (Chromatic_any n _ F w4 I4.out)
  have CX : Hid (∀ W, Below w4.heap.size w4 W → W.cell? ⟨w.heap.size, 0, none⟩ = some (.int .i64 n) ∧ W.cell? ⟨w.heap.size, 1, none⟩ = some (.slice a F.length cap)) := fun W hW => by
    obtain ⟨y0, y1, -⟩ := two_cells (box_keepH X4.out hW)
    exact ⟨y0, y1⟩
  by_cases hg : graphR n F = 0
  rotate_left
  · obtain ⟨q, hq⟩ : ∃ q, graphR n F = q := ⟨_, rfl⟩
    rw [hq] at hg CH
    have hq1 : (q != 0) = true := by rw [bne_iff_ne]; exact hg
    have hq2 : (q == 0) = false := by rw [beq_eq_false_iff_ne]; exact hg
    have HG := hid hg
    clear hg
    go_wp2_with fail
    refine CH.out.mono ?_
    rintro e w5 ⟨hm, -, hb5⟩
    have h9 := hm HG.out
    subst h9
    have B5 := hid (B4.out.trans (hb5.mono B4.out.size))
    clear hm hb5 CH
    go_wp2_with fail
    go_ret
    exact ⟨rfl, B5.out⟩
  obtain ⟨N, rfl, hN1, hN7, hEE, hG⟩ := graph_is hg
  have GG := hid hG
  have EE := hid hEE
  have HGZ := hid hg
  have hn : (N : Int).toNat = N := Int.toNat_natCast N
  rw [hn] at CH
  clear hg hEE hG hn
  go_wp2_with fail
  refine CH.out.mono ?_
  rintro e w5 ⟨-, hm, hb5⟩
  obtain ⟨cv, rfl, hcv⟩ := hm HGZ.out
  have CV5 := hid hcv
  obtain ⟨cb, co, cc, rfl, -, -⟩ := hcv
  obtain ⟨x0, x1⟩ := CX.out w5 hb5
  have B5 := hid hb5
  clear hm hb5 CH
  by_cases hbig : N ≤ 5 ∧ F.length ≤ 6
  rotate_left
  · have W9 := hid (B4.out.trans (B5.out.mono B4.out.size))
    by_cases h5 : N ≤ 5
    · have g5 : ¬ (5 : Int) < (N : Int) := by omega
      have g6 : (6 : Int) < (F.length : Int) := by omega
      clear hbig h5
      go_wp2_with fail
      go_ret
      exact ⟨rfl, W9.out⟩
    · have g5 : (5 : Int) < (N : Int) := by omega
      clear hbig h5
      go_wp2_with fail
      go_ret
      exact ⟨rfl, W9.out⟩
  obtain ⟨h5, h6⟩ := hbig
  have g5 : ¬ (5 : Int) < (N : Int) := by omega
  have g6 : ¬ (6 : Int) < (F.length : Int) := by omega
  have P9 := hid (fun w => PickG_any k 2 w HK.out.1 HK.out.2 (by decide) (by decide))
  have hP := pickN_lt k (n := 2) (by decide)
  generalize (pickN k 2) = p at *
  have P5 : Hid (Calls Tryd.prog 6 #[.int .i64 k, .int .i64 2] w5 fun e w' => e = .returned (.int .i64 (p : Nat)) ∧ w' = w5) := P9.out w5
  have H5 := hid h5
  have H6 := hid h6
  clear P9 h5 h6
  go_wp2_with fail
  refine P5.out.mono ?_
  rintro e w15 ⟨rfl, rfl⟩
  clear P5 g5 g6
  obtain ⟨q, hq, hq2⟩ : ∃ q : Nat, (1 : Int) + (p : Int) = (q : Int) ∧ Hid (q = p + 1) := ⟨p + 1, by omega, rfl⟩
  have hq3 : q ≤ 2 := by omega
  have HQ3 := hid hq3
  have HQ0 : Hid (0 < q) := by show 0 < q; have := hq2.out; omega
  have PW : Hid (∀ (b : Nat) W, b ≤ 8 → Calls Tryd.prog 9 #[.int .i64 q, .int .i64 b] W fun e w' => e = .returned (.int .i64 (q ^ b : Nat)) ∧ w' = W) := fun b W hb => Power_ok q b W (by have := HQ3.out; omega) hb
  have hQT : q ^ N ≤ 32 := Nat.le_trans (Nat.pow_le_pow_left hq3 N) (Nat.le_trans (Nat.pow_le_pow_right (by decide) H5.out) (by decide))
  obtain ⟨QT, hQTe⟩ : ∃ QT, q ^ N = QT := ⟨_, rfl⟩
  rw [hQTe] at hQT
  have HQT := hid hQTe
  have HQT32 := hid hQT
  clear hQTe hQT
  obtain ⟨T, hT0⟩ : ∃ T, 2 ^ F.length = T := ⟨_, rfl⟩
  have hT64 : T ≤ 64 := by rw [← hT0]; exact Nat.le_trans (Nat.pow_le_pow_right (by decide) H6.out) (by decide)
  have hT : wrap64 (2 ^ F.length) = (T : Int) := by
    have hcast : (2 : Int) ^ F.length = ((2 ^ F.length : Nat) : Int) := by simp
    rw [hcast, hT0]
    exact IntWalk.wrap64_in _ (by omega)
  have HT0 := hid hT0
  have HT64 := hid hT64
  clear hT0 hT64
  obtain ⟨y0, y1⟩ := CX.out w15 B5.out
  have HF8 : Hid (F.length ≤ 8) := GG.out.m8
  have hlen0 : ¬ (F.length : Int) < 0 := by omega
  go_wp2_with fail
  rw [hT]
  clear hT
  go_loopw [10, 65] (fun z i W => ∃ s : Nat, s ≤ T ∧ i = .int .i64 s ∧ z = .int .i64 (allC (natE F) F.length N q s) ∧ Hid (Below w15.heap.size w15 W)) (fun _ i _ => T - (intOf i).toNat)
  case atStart => exact ⟨0, Nat.zero_le _, rfl, rfl, Below.refl _ _⟩
  case round =>
    obtain ⟨s, hs, rfl, rfl, HW⟩ := hrel
    obtain ⟨wq, hwq⟩ : ∃ wq : World, wq = wr := ⟨_, rfl⟩
    subst hwq
    have hcl := allC_le (natE F) F.length N q s
    rw [HQT.out] at hcl
    by_cases hlt : s < T
    · have hci : (s : Int) < (T : Int) := by omega
      have hs9 : (s : Int) < 64 := by have := HT64.out; omega
      have ST := hid (allC_step (natE F) F.length N q s)
      have hsb : (s * QT : Nat) ≤ 2048 := Nat.le_trans (Nat.mul_le_mul (show s ≤ 64 by have := HT64.out; omega) HQT32.out) (by decide)
      obtain ⟨z, hz⟩ : ∃ z, allC (natE F) F.length N q s = z := ⟨_, rfl⟩
      rw [hz] at hcl ST ⊢
      have HCL : Hid (0 ≤ z ∧ z ≤ 2048) := by show 0 ≤ z ∧ z ≤ 2048; omega
      have BQ := hid (B5.out.trans (HW.out.mono B5.out.size))
      obtain ⟨y0, y1⟩ := CX.out wq BQ.out
      have HC := hid hlt
      have H1 : Hid (Below wq.heap.size wq (wq.alloc (.cells #[.int .i64 N, .slice none 0 0] 24))) := (Below.refl _ _).alloc (Nat.le_refl _) _
      have X1 : Hid ((wq.alloc (.cells #[.int .i64 N, .slice none 0 0] 24)).heap[wq.heap.size]? = some (.cells #[.int .i64 N, .slice none 0 0] 24 (0, 0))) := World.alloc_heap_new wq _
      have S1 : Hid (wq.heap.size + 1 ≤ (wq.alloc (.cells #[.int .i64 N, .slice none 0 0] 24)).heap.size) := by show _ ≤ _; rw [World.size_alloc]; omega
      obtain ⟨y2, y3⟩ := CX.out (wq.alloc (.cells #[.int .i64 N, .slice none 0 0] 24)) (BQ.out.trans (H1.out.mono BQ.out.size))
      clear hz hlt hcl hsb
      go_wp2_with fail
      generalize wq.alloc (.cells #[.int .i64 N, .slice none 0 0] 24) = W1 at H1 X1 S1 y2 y3 ⊢
      obtain ⟨bT, hbT⟩ : ∃ bT, wq.heap.size = bT := ⟨_, rfl⟩
      rw [hbT] at H1 X1 S1
      try rw [hbT]
      have HBT := hid hbT
      clear y0 y1 y2 y3 hbT
      go_loopw [74] (fun i W => ∃ (j : Nat) (u : Value), j ≤ F.length ∧ i = .int .i64 j ∧ Hid (W.heap[bT]? = some (.cells #[.int .i64 N, u] 24 (0, 0))) ∧ Hid (OwnE (bT + 1) W u (tunL (natE F) s j)) ∧ Hid (Below bT wq W) ∧ Hid (bT + 1 ≤ W.heap.size)) (fun i _ => F.length - (intOf i).toNat)
      case atStart => exact ⟨0, _, Nat.zero_le _, rfl, X1.out, OwnE.nil _ _, H1.out, S1.out⟩
      case round =>
        obtain ⟨j, u, hj, rfl, HX, HO, HV, HS⟩ := hrel
        have BW : Hid (Below w4.heap.size w4 wr) := by have := HV.out; rw [← HBT.out] at this; exact BQ.out.trans (this.mono BQ.out.size)
        by_cases hlt : j < F.length
        · obtain ⟨aa, cc2, hv2, -, hcc⟩ := I4.out
          obtain ⟨b, off, ha, hb, hcell⟩ := hcc (by omega)
          injection hv2 with q1 q2 q3
          subst ha
          subst q1
          obtain ⟨c1, c2⟩ := hcell j hlt
          have c3 := (BW.out.cell (p := ⟨b, off + j * 2, none⟩) hb).trans c1
          have c4 := (BW.out.cell (p := ⟨b, off + j * 2 + 1, none⟩) hb).trans c2
          rw [(EE.out j hlt).1] at c3
          rw [(EE.out j hlt).2] at c4
          have hAB := GG.out.ends j hlt
          have TS := hid (tunL_succ (natE F) s j)
          have sA : Hid (sta (natE F) s j = if s.testBit j then eb (natE F) j else ea (natE F) j) := rfl
          have sB : Hid (sto (natE F) s j = if s.testBit j then ea (natE F) j else eb (natE F) j) := rfl
          obtain ⟨A, hA⟩ : ∃ A, ea (natE F) j = A := ⟨_, rfl⟩
          obtain ⟨B, hB⟩ : ∃ B, eb (natE F) j = B := ⟨_, rfl⟩
          rw [hA] at c3 hAB sA sB
          rw [hB] at c4 hAB sA sB
          obtain ⟨W2, hW2⟩ : ∃ W2, wr.alloc (.cells #[.int .i64 A, .int .i64 B] 32) = W2 := ⟨_, rfl⟩
          have H2 : Hid (Below wr.heap.size wr W2) := by rw [← hW2]; exact (Below.refl _ _).alloc (Nat.le_refl _) _
          have X2 : Hid (W2.heap[wr.heap.size]? = some (.cells #[.int .i64 A, .int .i64 B] 32 (0, 0))) := by rw [← hW2]; exact World.alloc_heap_new wr _
          have S2 : Hid (W2.heap.size = wr.heap.size + 1) := by show _ = _; rw [← hW2, World.size_alloc]
          have hji : (j : Int) < (F.length : Int) := by omega
          have HJ := hid hlt
          have IN := hid (In_any s j W2 (by have := HT64.out; have := HC.out; omega) (by have := HF8.out; omega))
          have OL : Hid (∀ g, u.ownBlock = some g → bT + 1 ≤ g ∧ g < wr.heap.size) := fun g hg => World.ownsRow.lt HO.out g hg
          have O2 := hid (HO.out.below H2.out)
          have bX2 : Hid (W2.heap[bT]? = some (.cells #[.int .i64 N, u] 24 (0, 0))) := (H2.out.block bT (by have := HS.out; omega)).trans HX.out
          have V2 : Hid (Below bT wq W2) := HV.out.trans (H2.out.mono (by have := HS.out; omega))
          obtain ⟨xe0, xe1, -, -⟩ := two_cells X2.out
          obtain ⟨xg0, xg1, -, -⟩ := two_cells bX2.out
          have hi0 := Tryd.infoEdge
          obtain ⟨i0, hi0, hiz⟩ := Option.map_eq_some_iff.1 hi0
          obtain ⟨hz0, hz1, hz2⟩ : i0.zero = some (.agg #[.int .i64 0, .int .i64 0]) ∧ i0.size = 2 ∧ i0.bytes = 16 := by simpa using hiz
          clear hiz c1 c2 hcell hcc q2 q3 hb hA hB hlt
          rcases htb : s.testBit j with _ | _
          · rw [htb] at IN sA sB
            simp only [Bool.false_eq_true, if_false] at sA sB
            clear htb
            go_wp2_with fail
            clear hW2
            refine IN.out.mono ?_
            rintro e W3 ⟨rfl, rfl⟩
            clear IN
            have TS2 : Hid (tunL (natE F) s (j + 1) = tunL (natE F) s j ++ [(A, B)]) := by show _ = _; rw [TS.out, sA.out, sB.out]
            have hle8 : j ≤ 8 := by have := HJ.out; have := HF8.out; omega
            have OO : Hid (W3.ownsRow (bT + 1) 32 2 u j (VE (tunL (natE F) s j))) := by have := O2.out; unfold OwnE at this; rw [tunL_len] at this; exact this
            go_wp2_with (at_builtin; refine wpList_append_own _ rfl _ _ 22 rfl (bT + 1) 32 i0 (.agg #[.int .i64 0, .int .i64 0]) 2 16 Tryd.undEdgeS hi0 hz0 hz1 hz2 rfl (by decide) _ _ _ rfl (OO.out.alloc _) ⟨W3.heap.size, 0, none⟩ 1 1 [.int .i64 A, .int .i64 B] rfl rfl ?c1 ?c2 ?c3 ?c4 ?c5 ?_)
            case c1 =>
              intro k u hk
              rw [add_plainG, World.cell?_alloc_at _ _ _ _ rfl]
              match k, hk with
              | 0, hk => simpa using hk
              | 1, hk => simpa using hk
              | k + 2, hk => simp at hk
            case c2 => intro u hu; simp at hu; rcases hu with rfl | rfl <;> rfl
            case c3 => unfold maxLen; omega
            case c4 => omega
            case c5 => have := S2.out; have := HS.out; simp; omega
            intro v' w7 hown' hgrow _
            obtain ⟨gv, cv9, rfl⟩ : ∃ gv cv9, v' = .slice (some ⟨gv, 0, none⟩) (j + 1) cv9 := by
              rcases Go.Joins.ownsRow_forms hown' with ⟨rfl, h0⟩ | ⟨g', cap', rfl⟩
              · omega
              · exact ⟨_, _, rfl⟩
            obtain ⟨v', hv'⟩ : ∃ v', v' = Value.slice (some ⟨gv, 0, none⟩) (j + 1) cv9 := ⟨_, rfl⟩
            rw [← hv'] at hown'
            have hbG : Below (bT + 1) W3 w7 := ((Below.refl _ W3).alloc (by have := S2.out; have := HS.out; omega) _).grown hgrow (by have := S2.out; have := HS.out; simp; omega) (fun j hj => (World.ownsRow.lt OO.out j hj).1)
            have hX7 := (hbG.block bT (by omega)).trans bX2.out
            have OW7 : OwnE (bT + 1) w7 v' (tunL (natE F) s (j + 1)) := by
              rw [TS2.out]
              refine OwnE.snoc ?_
              rw [tunL_len]
              exact hown'
            have OW8 := hid (OW7.setO ⟨bT, 1, none⟩ v' fun g hg e => by have := (World.ownsRow.lt OW7 g hg).1; simp at e; omega)
            have hX8 := hid (rc_set (u := v') hX7)
            have V8 := hid ((V2.out.trans (hbG.mono (by omega))).setCell (p := ⟨bT, 1, none⟩) (Nat.le_refl _) v')
            have S8 : Hid (bT + 1 ≤ (w7.setCell ⟨bT, 1, none⟩ v').heap.size) := by show _ ≤ _; rw [World.size_setCell]; exact Nat.le_trans (by have := S2.out; have := HS.out; omega) hbG.size
            have f9 : w7.frozen? ⟨bT, 1, none⟩ = false := by simp [World.frozen?, hX7]
            obtain ⟨z0, z1, -, -⟩ := two_cells hX7
            subst hv'
            clear hown' hgrow hbG hX7 OW7
            go_wp2_with fail
            go_roundw
            case rel => exact ⟨j + 1, _, HJ.out, by go_num, hX8.out, OW8.out, V8.out, S8.out⟩
            case measure => have := HJ.out; simp [intOf]; omega
          · rw [htb] at IN sA sB
            simp only [if_true] at sA sB
            clear htb
            obtain ⟨W4, hW4⟩ : ∃ W4, (W2.setCell ⟨wr.heap.size, 0, none⟩ (.int .i64 B)).setCell ⟨wr.heap.size, 1, none⟩ (.int .i64 A) = W4 := ⟨_, rfl⟩
            have X4' : Hid (W4.heap[wr.heap.size]? = some (.cells #[.int .i64 B, .int .i64 A] 32 (0, 0))) := by rw [← hW4]; exact rc_two X2.out
            have S4 : Hid (W4.heap.size = wr.heap.size + 1) := by show _ = _; rw [← hW4]; simp; exact S2.out
            have V4 : Hid (Below bT wq W4) := by rw [← hW4]; exact (V2.out.setCell (p := ⟨wr.heap.size, 0, none⟩) (by have := HS.out; show bT ≤ wr.heap.size; omega) _).setCell (p := ⟨wr.heap.size, 1, none⟩) (by have := HS.out; show bT ≤ wr.heap.size; omega) _
            have K24 : Hid (Below wr.heap.size W2 W4) := by rw [← hW4]; exact ((Below.refl _ W2).setCell (p := ⟨wr.heap.size, 0, none⟩) (Nat.le_refl _) _).setCell (p := ⟨wr.heap.size, 1, none⟩) (Nat.le_refl _) _
            have O4 : Hid (OwnE (bT + 1) W4 u (tunL (natE F) s j)) := by rw [← hW4]; exact (O2.out.setO _ _ fun g hg e => by have := (OL.out g hg).2; simp at e; omega).setO _ _ fun g hg e => by have := (OL.out g hg).2; simp at e; omega
            have bX4 : Hid (W4.heap[bT]? = some (.cells #[.int .i64 N, u] 24 (0, 0))) := (K24.out.block bT (by have := HS.out; omega)).trans bX2.out
            obtain ⟨f0, f1⟩ : W2.frozen? ⟨wr.heap.size, 0, none⟩ = false ∧ (W2.setCell ⟨wr.heap.size, 0, none⟩ (.int .i64 B)).frozen? ⟨wr.heap.size, 1, none⟩ = false := by
              have := X2.out
              constructor
              · simp [World.frozen?, this]
              · unfold World.setCell World.frozen?
                dsimp only
                rw [Array.getElem?_modify, this]
                simp
            obtain ⟨xe2, xe3, -, -⟩ := two_cells X4'.out
            obtain ⟨xg2, xg3, -, -⟩ := two_cells bX4.out
            go_wp2_with fail
            clear hW2
            refine IN.out.mono ?_
            rintro e W3 ⟨rfl, rfl⟩
            clear IN
            replace O2 := O4
            replace S2 := S4
            replace V2 := V4
            replace bX2 := bX4
            clear O4 S4 V4 bX4
            have TS2 : Hid (tunL (natE F) s (j + 1) = tunL (natE F) s j ++ [(B, A)]) := by show _ = _; rw [TS.out, sA.out, sB.out]
            have hle8 : j ≤ 8 := by have := HJ.out; have := HF8.out; omega
            have OO : Hid (W4.ownsRow (bT + 1) 32 2 u j (VE (tunL (natE F) s j))) := by have := O2.out; unfold OwnE at this; rw [tunL_len] at this; exact this
            go_wp2_with (at_builtin; refine wpList_append_own _ rfl _ _ 22 rfl (bT + 1) 32 i0 (.agg #[.int .i64 0, .int .i64 0]) 2 16 Tryd.undEdgeS hi0 hz0 hz1 hz2 rfl (by decide) _ _ _ rfl (OO.out.alloc _) ⟨W4.heap.size, 0, none⟩ 1 1 [.int .i64 B, .int .i64 A] rfl rfl ?c1 ?c2 ?c3 ?c4 ?c5 ?_)
            case c1 =>
              intro k u hk
              rw [add_plainG, World.cell?_alloc_at _ _ _ _ rfl]
              match k, hk with
              | 0, hk => simpa using hk
              | 1, hk => simpa using hk
              | k + 2, hk => simp at hk
            case c2 => intro u hu; simp at hu; rcases hu with rfl | rfl <;> rfl
            case c3 => unfold maxLen; omega
            case c4 => omega
            case c5 => have := S2.out; have := HS.out; simp; omega
            intro v' w7 hown' hgrow _
            obtain ⟨gv, cv9, rfl⟩ : ∃ gv cv9, v' = .slice (some ⟨gv, 0, none⟩) (j + 1) cv9 := by
              rcases Go.Joins.ownsRow_forms hown' with ⟨rfl, h0⟩ | ⟨g', cap', rfl⟩
              · omega
              · exact ⟨_, _, rfl⟩
            obtain ⟨v', hv'⟩ : ∃ v', v' = Value.slice (some ⟨gv, 0, none⟩) (j + 1) cv9 := ⟨_, rfl⟩
            rw [← hv'] at hown'
            have hbG : Below (bT + 1) W4 w7 := ((Below.refl _ W4).alloc (by have := S2.out; have := HS.out; omega) _).grown hgrow (by have := S2.out; have := HS.out; simp; omega) (fun j hj => (World.ownsRow.lt OO.out j hj).1)
            have hX7 := (hbG.block bT (by omega)).trans bX2.out
            have OW7 : OwnE (bT + 1) w7 v' (tunL (natE F) s (j + 1)) := by
              rw [TS2.out]
              refine OwnE.snoc ?_
              rw [tunL_len]
              exact hown'
            have OW8 := hid (OW7.setO ⟨bT, 1, none⟩ v' fun g hg e => by have := (World.ownsRow.lt OW7 g hg).1; simp at e; omega)
            have hX8 := hid (rc_set (u := v') hX7)
            have V8 := hid ((V2.out.trans (hbG.mono (by omega))).setCell (p := ⟨bT, 1, none⟩) (Nat.le_refl _) v')
            have S8 : Hid (bT + 1 ≤ (w7.setCell ⟨bT, 1, none⟩ v').heap.size) := by show _ ≤ _; rw [World.size_setCell]; exact Nat.le_trans (by have := S2.out; have := HS.out; omega) hbG.size
            have f9 : w7.frozen? ⟨bT, 1, none⟩ = false := by simp [World.frozen?, hX7]
            obtain ⟨z0, z1, -, -⟩ := two_cells hX7
            subst hv'
            clear hown' hgrow hbG hX7 OW7
            go_wp2_with fail
            go_roundw
            case rel => exact ⟨j + 1, _, HJ.out, by go_num, hX8.out, OW8.out, V8.out, S8.out⟩
            case measure => have := HJ.out; simp [intOf]; omega
        · obtain rfl : j = F.length := by omega
          have hn : ¬ ((F.length : Nat) : Int) < (F.length : Int) := by omega
          have RG := ringed_ok N u (tunL (natE F) s F.length) wr (by have := H5.out; omega) (HO.out.at (by rw [tunL_len]; exact HF8.out)) fun j hj => by
            rw [tunL_len] at hj
            obtain ⟨e1, e2⟩ := tunL_get (natE F) (o := s) hj
            have hAB := GG.out.ends j hj
            rw [e1, e2]
            have := H5.out
            unfold sta sto
            split <;> omega
          rw [tunL_len, tunL_rgT] at RG
          have RG := hid RG
          obtain ⟨ta, tc, rfl⟩ : ∃ ta tc, u = .slice ta F.length tc := by
            obtain ⟨ta, tc, h1, -, -⟩ := HO.out.at (by rw [tunL_len]; exact HF8.out)
            rw [tunL_len] at h1
            exact ⟨ta, tc, h1⟩
          have ET := hid (HO.out.at (by rw [tunL_len]; exact HF8.out))
          obtain ⟨xg0, xg1, -, -⟩ := two_cells HX.out
          clear HO
          by_cases hr : rgT (natE F) s F.length N N = 0
          rotate_left
          · have hrb : (rgT (natE F) s F.length N N == 0) = false := by rw [beq_eq_false_iff_ne]; exact hr
            rw [hrb] at RG
            have SS : Hid (allC (natE F) F.length N q (s + 1) = z) := by show _ = _; rw [ST.out, if_neg hr]; simp
            clear hrb hr ST ET
            go_wp2_with fail
            refine RG.out.mono ?_
            rintro e w6 ⟨rfl, hb6⟩
            have B6 : Hid (Below w15.heap.size w15 w6) := by
              have h1 := HV.out
              rw [← HBT.out] at h1
              have h2 := HW.out.trans (h1.mono HW.out.size)
              exact h2.trans (hb6.mono h2.size)
            clear hb6 RG
            go_wp2_with fail
            go_roundw
            case rel => exact ⟨s + 1, HC.out, by go_num, by rw [SS.out], B6.out⟩
            case measure => have := HC.out; simp [intOf]; omega
          · have hrb : (rgT (natE F) s F.length N N == 0) = true := by rw [hr]; rfl
            rw [hrb] at RG
            have SS : Hid (allC (natE F) F.length N q (s + 1) = z + falC (natE F) s F.length N q QT) := by show _ = _; rw [ST.out, if_pos hr, HQT.out]
            clear hrb hr ST
            go_wp2_with fail
            refine RG.out.mono ?_
            rintro e w6 ⟨rfl, hb6⟩
            have ET6 := hid (ET.out.below hb6)
            have XT6 := hid ((hb6.block bT (by have := HS.out; omega)).trans HX.out)
            have B6 : Hid (Below w15.heap.size w15 w6) := by
              have h1 := HV.out
              rw [← HBT.out] at h1
              have h2 := HW.out.trans (h1.mono HW.out.size)
              exact h2.trans (hb6.mono h2.size)
            have PN := hid (PW.out N w6 (by have := H5.out; omega))
            rw [HQT.out] at PN
            obtain ⟨y0, y1⟩ := CX.out w6 (B5.out.trans (B6.out.mono B5.out.size))
            clear hb6 RG ET HX xg0 xg1
            go_wp2_with fail
            refine PN.out.mono ?_
            rintro e w7 ⟨rfl, rfl⟩
            clear PN y0 y1
            go_wp2_with fail
            go_loopw [10, 101] (fun y i W => ∃ c : Nat, c ≤ QT ∧ i = .int .i64 c ∧ y = .int .i64 (z + falC (natE F) s F.length N q c) ∧ Hid (Below w7.heap.size w7 W)) (fun _ i _ => QT - (intOf i).toNat)
            case atStart => exact ⟨0, Nat.zero_le _, rfl, by show _ = Value.int .i64 (z + 0); rw [Int.add_zero], Below.refl _ _⟩
            case round =>
              obtain ⟨c, hc, rfl, rfl, HW2⟩ := hrel
              obtain ⟨w8, hw8⟩ : ∃ w8 : World, w8 = wr := ⟨_, rfl⟩
              subst hw8
              have hcl := falC_le (natE F) s F.length N q c
              by_cases hlt : c < QT
              · have hcq : (c : Int) < (QT : Int) := by omega
                have hc9 : (c : Int) < 32 := by have := HQT32.out; omega
                have FS := hid (falC_step (natE F) s F.length N q c)
                obtain ⟨y, hy⟩ : ∃ y, falC (natE F) s F.length N q c = y := ⟨_, rfl⟩
                rw [hy] at hcl FS ⊢
                have hzy : 0 ≤ z + y ∧ z + y ≤ 3000 := by have := HCL.out; have := HQT32.out; omega
                obtain ⟨zy, hzy2⟩ : ∃ zy, z + y = zy := ⟨_, rfl⟩
                rw [hzy2] at hzy ⊢
                have HZY := hid hzy2
                have HZB := hid hzy
                have HCC := hid hlt
                obtain ⟨xt0, xt1, -, -⟩ := two_cells (box_keepH XT6.out HW2.out)
                clear hy hcl hlt hzy hzy2
                go_wp2_with fail
                go_loopw [16, 107] (fun t i W => ∃ j : Nat, j ≤ F.length ∧ i = .int .i64 j ∧ t = .bool (falT (natE F) s (digF q N c) j) ∧ Hid (Below w8.heap.size w8 W)) (fun _ i _ => F.length - (intOf i).toNat)
                case atStart => exact ⟨0, Nat.zero_le _, rfl, rfl, Below.refl _ _⟩
                case round =>
                  obtain ⟨j, hj, rfl, rfl, HW3⟩ := hrel
                  have BW3 := hid (HW2.out.trans (HW3.out.mono HW2.out.size))
                  by_cases hlt : j < F.length
                  · obtain ⟨aa, cc2, hv2, -, hcc⟩ := ET6.out
                    rw [tunL_len] at hv2 hcc
                    obtain ⟨b, off, ha, hb, hcell⟩ := hcc (by omega)
                    injection hv2 with q1 q2 q3
                    subst ha
                    subst q1
                    obtain ⟨c1, c2⟩ := hcell j hlt
                    have c3 := (BW3.out.cell (p := ⟨b, off + j * 2, none⟩) hb).trans c1
                    have c4 := (BW3.out.cell (p := ⟨b, off + j * 2 + 1, none⟩) hb).trans c2
                    obtain ⟨e1, e2⟩ := tunL_get (natE F) (o := s) hlt
                    rw [e1] at c3
                    rw [e2] at c4
                    have hAB : sta (natE F) s j < N ∧ sto (natE F) s j < N := by
                      have := GG.out.ends j hlt
                      unfold sta sto
                      split <;> omega
                    have PS := hid (falT_step (natE F) s (digF q N c) j)
                    obtain ⟨A, hA⟩ : ∃ A, sta (natE F) s j = A := ⟨_, rfl⟩
                    obtain ⟨B, hB⟩ : ∃ B, sto (natE F) s j = B := ⟨_, rfl⟩
                    rw [hA] at c3 hAB PS
                    rw [hB] at c4 hAB PS
                    have fA : digF q N c A = c / q ^ A % q := if_pos hAB.1
                    have fB : digF q N c B = c / q ^ B % q := if_pos hAB.2
                    rw [fA, fB] at PS
                    have hN5 := H5.out
                    have PA := hid (fun W => PW.out A W (by omega))
                    have PB := hid (fun W => PW.out B W (by omega))
                    have hq0 := HQ0.out
                    have hA0 : 0 < q ^ A := Nat.pow_pos hq0
                    have hB0 : 0 < q ^ B := Nat.pow_pos hq0
                    generalize q ^ A = PA' at *
                    generalize q ^ B = PB' at *
                    obtain ⟨dA, hdA⟩ : ∃ d, c / PA' = d := ⟨_, rfl⟩
                    obtain ⟨dB, hdB⟩ : ∃ d, c / PB' = d := ⟨_, rfl⟩
                    rw [hdA, hdB] at PS
                    obtain ⟨rA, hrA⟩ : ∃ d, dA % q = d := ⟨_, rfl⟩
                    obtain ⟨rB, hrB⟩ : ∃ d, dB % q = d := ⟨_, rfl⟩
                    rw [hrA, hrB] at PS
                    have hc32 : c ≤ 32 := by have := HCC.out; have := HQT32.out; omega
                    have bA : dA ≤ c := by rw [← hdA]; exact Nat.div_le_self _ _
                    have bB : dB ≤ c := by rw [← hdB]; exact Nat.div_le_self _ _
                    have e1 : (c : Int) / (PA' : Int) = (dA : Int) := by rw [← hdA]; rfl
                    have e2 : (c : Int).tdiv (PA' : Int) = (dA : Int) := by rw [← hdA]; rfl
                    have e3 : (dA : Int) % (q : Int) = (rA : Int) := by rw [← hrA]; rfl
                    have e4 : (dA : Int).tmod (q : Int) = (rA : Int) := by rw [← hrA]; rfl
                    have e5 : (c : Int) / (PB' : Int) = (dB : Int) := by rw [← hdB]; rfl
                    have e6 : (c : Int).tdiv (PB' : Int) = (dB : Int) := by rw [← hdB]; rfl
                    have e7 : (dB : Int) % (q : Int) = (rB : Int) := by rw [← hrB]; rfl
                    have e8 : (dB : Int).tmod (q : Int) = (rB : Int) := by rw [← hrB]; rfl
                    have f1 : ((PA' : Int) == 0) = false := by rw [beq_eq_false_iff_ne]; omega
                    have f2 : ((PB' : Int) == 0) = false := by rw [beq_eq_false_iff_ne]; omega
                    have f3 : ((q : Int) == 0) = false := by rw [beq_eq_false_iff_ne]; omega
                    have f4 : ¬ (PA' : Int) = 0 := by omega
                    have f5 : ¬ (PB' : Int) = 0 := by omega
                    have f6 : ¬ (q : Int) = 0 := by omega
                    have g1 : IntKind.i64.wrap (q : Int) = (q : Int) := IntWalk.i64_in _ (by have := HQ3.out; omega)
                    have g2 : IntKind.i64.wrap (dA : Int) = (dA : Int) := IntWalk.i64_in _ (by omega)
                    have g3 : IntKind.i64.wrap (dB : Int) = (dB : Int) := IntWalk.i64_in _ (by omega)
                    obtain ⟨W2, hW2⟩ : ∃ W2, wr.alloc (.cells #[.int .i64 A, .int .i64 B] 32) = W2 := ⟨_, rfl⟩
                    have H2 : Hid (Below wr.heap.size wr W2) := by rw [← hW2]; exact (Below.refl _ _).alloc (Nat.le_refl _) _
                    have X2 : Hid (W2.heap[wr.heap.size]? = some (.cells #[.int .i64 A, .int .i64 B] 32 (0, 0))) := by rw [← hW2]; exact World.alloc_heap_new wr _
                    obtain ⟨xe0, xe1, -, -⟩ := two_cells X2.out
                    have hji : (j : Int) < (F.length : Int) := by omega
                    have HJ := hid hlt
                    clear hdA hdB hrA hrB hA hB c1 c2 hcell hcc q2 q3 hb fA fB hlt
                    go_wp2_with fail
                    clear hW2
                    have W3 := hid (HW3.out.trans (H2.out.mono HW3.out.size))
                    have W4 : Hid (∀ n, Below w8.heap.size w8 (W2.drewN n)) := fun n => ⟨W3.out.os, W3.out.tape, W3.out.output, W3.out.size, W3.out.block⟩
                    rcases hok : falT (natE F) s (digF q N c) j with _ | _
                    · rw [hok, Bool.false_and] at PS
                      clear hok
                      go_quiet (fail)
                      go_wp2_with fail
                      go_roundw
                      case rel => exact ⟨j + 1, HJ.out, by go_num, by rw [PS.out], W4.out _⟩
                      case measure => have := HJ.out; simp [intOf]; omega
                    · rw [hok, Bool.true_and] at PS
                      clear hok
                      go_quiet (first
                        | (go_at_call 9; (with_reducible refine (PA.out _).mono ?_); rintro e w' ⟨rfl, rfl⟩; exact ⟨rfl, _, rfl⟩)
                        | (go_at_call 9; (with_reducible refine (PB.out _).mono ?_); rintro e w' ⟨rfl, rfl⟩; exact ⟨rfl, _, rfl⟩))
                      go_wp2_with fail
                      go_roundw
                      case rel => exact ⟨j + 1, HJ.out, by go_num, by rw [PS.out], W4.out _⟩
                      case measure => have := HJ.out; simp [intOf]; omega
                  · obtain rfl : j = F.length := by omega
                    have hn : ¬ ((F.length : Nat) : Int) < (F.length : Int) := by omega
                    have WO := hid (HW2.out.trans (HW3.out.mono HW2.out.size))
                    have hz2 : 0 ≤ zy ∧ zy ≤ 3000 := HZB.out
                    rcases hpb : falT (natE F) s (digF q N c) F.length with _ | _
                    · rw [hpb] at FS
                      have SF : Hid (z + falC (natE F) s F.length N q (c + 1) = zy) := by show _ = _; rw [FS.out]; simp; exact HZY.out
                      clear hpb FS
                      go_wp2_with fail
                      go_roundw
                      case rel => exact ⟨c + 1, HCC.out, by go_num, by rw [SF.out], WO.out⟩
                      case measure => have := HCC.out; simp [intOf]; omega
                    · rw [hpb] at FS
                      have SF : Hid (z + falC (natE F) s F.length N q (c + 1) = zy + 1) := by show _ = _; rw [FS.out, ← HZY.out]; simp; omega
                      clear hpb FS
                      go_wp2_with fail
                      go_roundw
                      case rel => exact ⟨c + 1, HCC.out, by go_num, by rw [SF.out], WO.out⟩
                      case measure => have := HCC.out; simp [intOf]; omega
              · obtain rfl : c = QT := by omega
                have hn : ¬ (c : Int) < (c : Int) := by omega
                have WO := hid (B6.out.trans (HW2.out.mono B6.out.size))
                rw [← SS.out]
                go_wp2_with fail
                go_roundw
                case rel => exact ⟨s + 1, HC.out, by go_num, rfl, WO.out⟩
                case measure => have := HC.out; simp [intOf]; omega
    · obtain rfl : s = T := by omega
      have hn : ¬ (s : Int) < (s : Int) := by omega
      have hsb : (s * QT : Nat) ≤ 2048 := Nat.le_trans (Nat.mul_le_mul HT64.out HQT32.out) (by decide)
      have REC : allC (natE F) F.length N q s = (-1) ^ N * horN (chF N F) (-(q : Int)) (N + 1) (N + 1) := by
        have h8 := H5.out
        rw [← HT0.out, allC_is (by omega) (fun i hi => GG.out.ends i hi)]
        have h1 := GG.out.recip HQ0.out
        unfold chF gR
        exact h1
      have HCB : Hid (∀ j, -256 ≤ chF N F j ∧ chF N F j ≤ 256) := fun j => by
        unfold chF
        refine ccF_bound (fun j => ?_) j
        have := chr_bound (rk (gbL F)) (gR F) (2 ^ F.length) j
        have h2 : 2 ^ F.length ≤ 256 := Nat.le_trans (Nat.pow_le_pow_right (by omega) GG.out.m8) (by decide)
        omega
      have hq4 := HQ3.out
      have h5' := H5.out
      have VA := hid (value_any (chF N F) (-(q : Int)) (N + 1) _ wq (CV5.out.below HW.out) (by omega) (fun j _ => HCB.out j) (by omega))
      obtain ⟨hv, hhv⟩ : ∃ hv, horN (chF N F) (-(q : Int)) (N + 1) (N + 1) = hv := ⟨_, rfl⟩
      rw [hhv] at VA REC
      obtain ⟨z, hz⟩ : ∃ z, allC (natE F) F.length N q s = z := ⟨_, rfl⟩
      rw [hz] at hcl REC ⊢
      have HCL : Hid (0 ≤ z ∧ z ≤ 2048) := by show _ ∧ _; omega
      have HREC := hid REC
      have B15 := hid (B4.out.trans ((B5.out.trans (HW.out.mono B5.out.size)).mono B4.out.size))
      have hng : wrap64 (-(q : Int)) = -(q : Int) := IntWalk.wrap64_in _ (by omega)
      obtain ⟨mq, hmq⟩ : ∃ mq, -(q : Int) = mq := ⟨_, rfl⟩
      rw [hmq] at VA hng
      have hmq2 : -(q : Int) = mq := hmq
      obtain ⟨y0, y1⟩ := CX.out wq (B5.out.trans (HW.out.mono B5.out.size))
      clear hz hcl hsb REC hhv hmq h5' hq4
      go_wp2_with fail
      refine VA.out.mono ?_
      rintro e w17 ⟨zb, rfl, hzb, hI, hb17⟩
      have B17 := hid (B15.out.trans (hb17.mono B15.out.size))
      have HZ := hid hzb
      have II := hid hI
      obtain ⟨y0, y1⟩ := CX.out w17 (B5.out.trans ((HW.out.trans (hb17.mono HW.out.size)).mono B5.out.size))
      have hpar : (-1 : Int) ^ N = if N % 2 = 1 then -1 else 1 := one_pow_mod N
      have BQ9 := hid (B4.out.trans ((B5.out.trans (HW.out.mono B5.out.size)).mono B4.out.size))
      clear hI hb17 VA hzb hng hmq2
      by_cases hodd : N % 2 = 1
      · rw [if_pos hodd] at hpar
        have hm1 : (N : Int) % 2 = 1 := by omega
        have hm2 : (N : Int).tmod 2 = 1 := by rw [Int.tmod_eq_emod_of_nonneg (by omega)]; omega
        have hzv : z = -hv := by rw [HREC.out, hpar]; omega
        have NG := hid (Neg_s zb zb hv hv w17 II.out II.out)
        rw [← hzv] at NG
        clear hodd hpar hzv
        go_wp2_with fail
        refine NG.out.mono ?_
        rintro e w18 ⟨rfl, hI, hsv⟩
        have B18 := hid (hsv.below B17.out (by have := B17.out.size; omega) (fun b e => by subst e; have := BQ9.out.size; have := HZ.out; omega))
        have STR := hid (String_s zb z w18 hI (by have := HCL.out; omega))
        clear hI hsv NG y0 y1
        go_wp2_with fail
        refine STR.out.mono ?_
        rintro e w19 ⟨rfl, hb19⟩
        have B19 := hid (B18.out.trans (hb19.mono B18.out.size))
        have IT := hid (Itoa_ok z w19 (by have := HCL.out; omega) (by have := HCL.out; omega) (HW0.out w19 B19.out))
        clear hb19 STR
        go_wp2_with fail
        refine IT.out.mono ?_
        rintro e w20 ⟨rfl, hb20⟩
        have B20 := hid (B19.out.trans (hb20.mono B19.out.size))
        clear hb20 IT
        go_wp2_with fail
        go_ret
        exact ⟨rfl, B20.out⟩
      · rw [if_neg hodd] at hpar
        have hm1 : (N : Int) % 2 = 0 := by omega
        have hm2 : (N : Int).tmod 2 = 0 := by rw [Int.tmod_eq_emod_of_nonneg (by omega)]; omega
        have hzv : z = hv := by rw [HREC.out, hpar]; omega
        subst hzv
        have B18 := B17
        have STR := hid (String_s zb z w17 II.out (by have := HCL.out; omega))
        clear hodd hpar
        go_wp2_with fail
        refine STR.out.mono ?_
        rintro e w19 ⟨rfl, hb19⟩
        have B19 := hid (B18.out.trans (hb19.mono B18.out.size))
        have IT := hid (Itoa_ok z w19 (by have := HCL.out; omega) (by have := HCL.out; omega) (HW0.out w19 B19.out))
        clear hb19 STR
        go_wp2_with fail
        refine IT.out.mono ?_
        rintro e w20 ⟨rfl, hb20⟩
        have B20 := hid (B19.out.trans (hb20.mono B19.out.size))
        clear hb20 IT
        go_wp2_with fail
        go_ret
        exact ⟨rfl, B20.out⟩
end Go.Proofs.YtfajbmcdkhgipaaDoor
