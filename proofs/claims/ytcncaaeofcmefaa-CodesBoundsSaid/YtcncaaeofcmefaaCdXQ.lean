/- codes.words: all words, one behind the other. -/
import Derived.Test.YtcncaaeofcmefaaCdWQ
import Derived.Test.YtcncaaeofcmefaaPlainAll2
import Derived.Test.YtcncaaeofcmefaaFdSW
import Derived.Test.YtcncaaeofcmefaaFqLawQ
namespace Go.Proofs.Ytcncaaeofcmefaa
open Go.RowKit

theorem Try.infoWord : (Try.prog.info? 46).map (fun i => (i.zero, i.size, i.bytes)) = some (some (.agg #[.int .i64 0, .int .i64 0, .int .i64 0, .int .i64 0, .int .i64 0, .int .i64 0, .int .i64 0, .int .i64 0]), 8, 64) := by kernel_rfl
theorem Try.undWord : Try.prog.underlying 42 = some (.slice 46) := by kernel_rfl
def VW (l : List (Nat → Nat)) : List Value := l.flatMap fun f => (wdC f).toList
theorem VW_snoc (l : List (Nat → Nat)) (f : Nat → Nat) : VW (l ++ [f]) = VW l ++ (wdC f).toList := by
  unfold VW
  rw [List.flatMap_append]
  simp
theorem VW_at : ∀ (l : List (Nat → Nat)) (k r : Nat), k < l.length → r < 8 → (VW l)[k * 8 + r]? = some (.int .i64 ((l.getD k fun _ => 0) r : Nat))
  | [], k, _, h, _ => absurd h (Nat.not_lt_zero k)
  | f :: l, k, r, hk, hr => by
    show ((wdC f).toList ++ VW l)[k * 8 + r]? = _
    have e6 : (wdC f).toList.length = 8 := rfl
    cases k with
    | zero =>
      rw [Nat.zero_mul, Nat.zero_add, List.getElem?_append_left (by rw [e6]; exact hr), Array.getElem?_toList, wdC_at f hr]
      rfl
    | succ k =>
      rw [List.getElem?_append_right (by rw [e6]; omega), e6, show (k + 1) * 8 + r - 8 = k * 8 + r by omega, VW_at l k r (by rw [List.length_cons] at hk; omega) hr]
      rfl
/-- v is a slice of the call's own that holds the first m words of t rows. -/
def OwnW (B : Nat) (w : World) (v : Value) (P t : Nat) (g : Nat → Nat → Int) (m : Nat) : Prop := w.ownsRow B 46 8 v m (VW (wdsL P t g m))
theorem OwnW.snoc {B : Nat} {w : World} {v : Value} {P t m : Nat} {g : Nat → Nat → Int} (h : w.ownsRow B 46 8 v (m + 1) (VW (wdsL P t g m) ++ (wdC (wrdF P t g m)).toList)) : OwnW B w v P t g (m + 1) := by
  unfold OwnW
  rw [wdsL_succ, VW_snoc]
  exact h
theorem OwnW.below {B : Nat} {w w' : World} {v : Value} {P t m : Nat} {g : Nat → Nat → Int} (h : OwnW B w v P t g m) (hb : Below w.heap.size w w') : OwnW B w' v P t g m := by
  obtain ⟨h0, h1⟩ := h
  refine ⟨h0, h1.imp_right ?_⟩
  rintro ⟨g, cap, cur, hv, hg, hheap, hr⟩
  exact ⟨g, cap, cur, hv, hg, (hb.block g (Array.getElem?_eq_some_iff.1 hheap).1).trans hheap, hr⟩
theorem OwnW.mono {B C : Nat} {w : World} {v : Value} {P t m : Nat} {g : Nat → Nat → Int} (h : OwnW B w v P t g m) (hC : C ≤ B) : OwnW C w v P t g m := by
  obtain ⟨h0, h1⟩ := h
  refine ⟨h0, h1.imp_right ?_⟩
  rintro ⟨g, cap, cur, hv, hg, hheap, hr⟩
  exact ⟨g, cap, cur, hv, Nat.le_trans hC hg, hheap, hr⟩
theorem OwnW.grown {B : Nat} {wr w1 : World} {u : Value} {P t m : Nat} {g : Nat → Nat → Int} {o : Obj} (hown : OwnW B wr u P t g m) (hB : B ≤ wr.heap.size) (hg : (wr.alloc o).grownBy w1 u.ownBlock) : Below B wr w1 :=
  ((Below.refl B wr).alloc hB o).grown hg (by simp; omega) (fun j hj => (World.ownsRow.lt hown j hj).1)
/-- It is a block of words. -/
theorem OwnW.form {B : Nat} {w : World} {v : Value} {P t m : Nat} {g : Nat → Nat → Int} (h : OwnW B w v P t g m) (hm : 0 < m) : ∃ b cap, v = .slice (some ⟨b, 0, none⟩) m cap ∧ B ≤ b ∧ b < w.heap.size ∧ ∀ i, i < m → ∀ r, r < 8 → w.cell? ⟨b, i * 8 + r, none⟩ = some (.int .i64 (wrdF P t g i r : Nat)) := by
  obtain ⟨h0, h1⟩ := h
  rcases h1 with ⟨h1, h2⟩ | ⟨b, cap, cur, hv, hg, hheap, hc, hmx, hs, ht⟩
  · omega
  · refine ⟨b, cap, hv, hg, (Array.getElem?_eq_some_iff.1 hheap).1, fun i hi r hr => ?_⟩
    have h3 := VW_at (wdsL P t g m) i r (by rw [wdsL_len]; exact hi) hr
    rw [wdsL_get hi, ← ht, List.getElem?_take, if_pos (by omega), Array.getElem?_toList] at h3
    simp only [World.cell?, hheap]
    exact h3
theorem wd_news {W : World} {g : Nat} {f : Nat → Nat} (h : WdAt W g f) : ∀ j u, ((wdC f).toList)[j]? = some u → W.cell? ((⟨g, 0, none⟩ : Addr).add j) = some u := fun j u hj => by
  have hl : j < 8 := (List.getElem?_eq_some_iff.1 hj).1
  have e : (wdC f)[j]? = some u := by rw [← Array.getElem?_toList]; exact hj
  rw [wdC_at f hl] at e
  have := h.cell hl
  rw [e] at this
  unfold Addr.add
  split
  · rename_i e0; subst e0; exact this
  · rw [Nat.zero_add]; exact this
/-- A row more, as it is reckoned. -/
theorem plW_is {P t L i : Nat} {g : Nat → Nat → Int} (hp : isP (P : Int)) (h0 : ∀ r, L ≤ r → g t r = 0) (hi : i < P ^ t * (P - 1)) : plW P L (wrdF P (t + 1) g i) (g t) = wrdF P (t + 1) g (P ^ t + i) := by
  funext r
  unfold plW
  rw [wrd_next hp hi]
  by_cases h : r < L
  · rw [if_pos h]
  · rw [if_neg h, h0 r (by omega), Int.add_zero]
    have h1 := wrd_lt (k := t + 1) (g := g) hp i r
    rw [Int.emod_eq_of_lt (by omega) (by omega), Int.toNat_natCast]
theorem wd_one (f : Nat → Nat) : ∀ u ∈ (wdC f).toList, u.oneCell' = true := fun u hu => by
  simp [wdC] at hu
  rcases hu with rfl | rfl | rfl | rfl | rfl | rfl | rfl | rfl <;> rfl
/-- The word of noughts. -/
theorem OwnW.start (B : Nat) (w : World) (P : Nat) (g : Nat → Nat → Int) (hB : B ≤ w.heap.size) : OwnW B (w.alloc (.cells (wdC fun _ => 0) 46)) (.slice (some ⟨w.heap.size, 0, none⟩) 1 1) P 0 g 1 := by
  unfold OwnW
  rw [wdsL_zero]
  refine ⟨rfl, .inr ⟨w.heap.size, 1, wdC fun _ => 0, rfl, hB, World.alloc_heap_new w _, by decide, by unfold maxLen; decide, rfl, rfl⟩⟩
set_option maxRecDepth 20000 in
set_option maxHeartbeats 8000000 in
theorem words_ok (P c : Nat) (v : Value) (R : List (List Int)) (w : World) (h : RowsI w v R) (hm : MatOK P c R) :
    Calls Try.prog 20 #[.agg #[.int .i64 P, .int .i64 c, v]] w fun e w' => (P ^ (redL P c R).length ≤ 20000 → ∃ u, e = .returned (.tuple #[u, .int .i64 0]) ∧ OwnW w.heap.size w' u P (redL P c R).length (rowF (redL P c R)) (P ^ (redL P c R).length)) ∧ (20000 < P ^ (redL P c R).length → e = .returned (.tuple #[.slice none 0 0, .int .i64 2])) ∧ Below w.heap.size w w' := by
  have hp := hm.pr
  have hp7 := isP_pos hp
  have hOK := redL_ok hm
  obtain ⟨w0, hw0⟩ : ∃ w0, w.alloc (.cells #[.int .i64 P, .int .i64 c, v] 24) = w0 := ⟨_, rfl⟩
  have B0 : Hid (Below w.heap.size w w0) := by rw [← hw0]; exact (Below.refl _ _).alloc (Nat.le_refl _) _
  have X0 : Hid (w0.heap[w.heap.size]? = some (.cells #[.int .i64 P, .int .i64 c, v] 24 (0, 0))) := by rw [← hw0]; exact World.alloc_heap_new w _
  have RD := hid (Reduced_ok P c v R w0 (h.below B0.out) hm)
  have HP := hid hp
  have HOK := hid hOK
  obtain ⟨x0, x1, x2⟩ := three_cells X0.out
  obtain ⟨RL, hRL⟩ : ∃ RL, redL P c R = RL := ⟨_, rfl⟩
  rw [hRL] at RD HOK ⊢
  have hk6 : RL.length ≤ 6 := HOK.out.rl
  clear h hm hp hOK hRL
  go_enter Try.func20, Try.ntmps20
  go_wp2_with fail
  clear hw0
  refine RD.out.mono ?_
  rintro e w1 ⟨u, rfl, hr, hb1⟩
  obtain ⟨ua, ucap, rfl⟩ := hr.form
  have B1 := hid (B0.out.trans (hb1.mono B0.out.size))
  have R1 := hid hr.rows
  have X1 := hid (box_keep X0.out hb1)
  have hsw : w.heap.size < w1.heap.size := (Array.getElem?_eq_some_iff.1 X1.out).1
  have B2 : Hid (Below w.heap.size w (w1.alloc (.cells #[.int .i64 P, .int .i64 c, .slice ua RL.length ucap] 24))) := B1.out.alloc (Nat.le_of_lt hsw) _
  have R2 := hid (R1.out.below ((Below.refl w1.heap.size w1).alloc (Nat.le_refl _) (.cells #[.int .i64 P, .int .i64 c, .slice ua RL.length ucap] 24)))
  have X2 := hid (box_keep X1.out ((Below.refl w1.heap.size w1).alloc (Nat.le_refl _) (.cells #[.int .i64 P, .int .i64 c, .slice ua RL.length ucap] 24)))
  have Y2 := hid (World.alloc_heap_new w1 (.cells #[.int .i64 P, .int .i64 c, .slice ua RL.length ucap] 24))
  clear hr hb1 RD X1 R1 B1 B0 X0
  obtain ⟨BX, hBX⟩ : ∃ BX, w1.alloc (.cells #[.int .i64 P, .int .i64 c, .slice ua RL.length ucap] 24) = BX := ⟨_, rfl⟩
  have SB : Hid (BX.heap.size = w1.heap.size + 1) := by show _ = _; rw [← hBX, World.size_alloc]
  have OS := OwnW.start (w1.heap.size + 1) BX P (rowF RL) (by rw [SB.out]; exact Nat.le_refl _)
  rw [SB.out] at OS
  have OS := hid OS
  have HBA : Hid (Below BX.heap.size BX (BX.alloc (.cells (wdC fun _ => 0) 46))) := (Below.refl _ _).alloc (Nat.le_refl _) _
  have e9 : wdC (fun _ => 0) = #[.int .i64 0, .int .i64 0, .int .i64 0, .int .i64 0, .int .i64 0, .int .i64 0, .int .i64 0, .int .i64 0] := rfl
  rw [e9] at OS HBA
  rw [hBX] at B2 R2 X2 Y2
  obtain ⟨y0, y1, y2⟩ := three_cells Y2.out
  have q2 := HBA.out.cell (p := ⟨w1.heap.size, 2, none⟩) (by rw [SB.out]; exact Nat.lt_succ_self _)
  rw [y2] at q2
  clear e9
  go_wp2_with fail
  rw [SB.out]
  clear hBX y0 y1 y2 q2
  have YA := hid (box_keep Y2.out HBA.out)
  have XA := hid (box_keep X2.out HBA.out)
  have RA := hid (R2.out.below HBA.out)
  have BA := hid (B2.out.trans (HBA.out.mono B2.out.size))
  have KBA : Hid (Below (w1.heap.size + 1) BX (BX.alloc (.cells #[.int .i64 0, .int .i64 0, .int .i64 0, .int .i64 0, .int .i64 0, .int .i64 0, .int .i64 0, .int .i64 0] 46))) := by rw [← SB.out]; exact HBA.out
  generalize BX.alloc (.cells #[.int .i64 0, .int .i64 0, .int .i64 0, .int .i64 0, .int .i64 0, .int .i64 0, .int .i64 0, .int .i64 0] 46) = WA at OS HBA YA XA RA BA KBA ⊢
  have CXY : Hid (∀ W, Below (w1.heap.size + 1) BX W → (W.cell? ⟨w1.heap.size, 2, none⟩ = some (.slice ua RL.length ucap)) ∧ W.cell? ⟨w.heap.size, 0, none⟩ = some (.int .i64 P) ∧ RowsI W (.slice ua RL.length ucap) RL ∧ Below w.heap.size w W) := fun W hW => by
    rw [← SB.out] at hW
    obtain ⟨-, -, z2⟩ := three_cells (box_keep Y2.out hW)
    obtain ⟨z0, -, -⟩ := three_cells (box_keep X2.out hW)
    exact ⟨z2, z0, R2.out.below hW, B2.out.trans (hW.mono B2.out.size)⟩
  have hp1 : 1 ≤ P := by omega
  have HP7 : Hid (2 ≤ P ∧ P ≤ 7) := by show _ ∧ _; omega
  have RBX := R2
  clear B2 R2 X2 Y2 HBA YA XA RA BA
  obtain ⟨i0, hi0, hz0, hz1, hz2⟩ : ∃ i0, Try.prog.info? 46 = some i0 ∧ i0.zero = some (.agg #[.int .i64 0, .int .i64 0, .int .i64 0, .int .i64 0, .int .i64 0, .int .i64 0, .int .i64 0, .int .i64 0]) ∧ i0.size = 8 ∧ i0.bytes = 64 := by
    obtain ⟨i0, h1, h2⟩ := Option.map_eq_some_iff.1 Try.infoWord
    exact ⟨i0, h1, by simpa using h2⟩
  go_loopw [6, 23] (fun a i W => ∃ t : Nat, t ≤ RL.length ∧ i = .int .i64 t ∧ P ^ t ≤ 20000 ∧ Hid (OwnW (w1.heap.size + 1) W a P t (rowF RL) (P ^ t)) ∧ Hid (Below (w1.heap.size + 1) BX W)) (fun _ i _ => RL.length - (intOf i).toNat)
  case atStart => exact ⟨0, Nat.zero_le _, rfl, by simp, by rw [Nat.pow_zero]; exact OS.out, KBA.out⟩
  case round =>
    obtain ⟨t, ht, rfl, hpt, HO, HW⟩ := hrel
    obtain ⟨wq, hwq⟩ : ∃ wq : World, wq = wr := ⟨_, rfl⟩
    subst hwq
    obtain ⟨M, hM⟩ : ∃ M, P ^ t = M := ⟨_, rfl⟩
    have hM0 : 0 < M := by rw [← hM]; exact Nat.pow_pos (by omega)
    rw [hM] at HO hpt
    obtain ⟨gb, gc, rfl, hgb, hgl, hgc⟩ := HO.out.form hM0
    obtain ⟨z2, z0, hRW, hBW⟩ := CXY.out wq HW.out
    have HM := hid hM
    clear hM hgc
    by_cases hlt : t < RL.length
    · have hti : (t : Int) < (RL.length : Int) := by omega
      obtain ⟨ra, rcap, hv2, -, hcc⟩ := RBX.out
      obtain ⟨b, off, ha, hb, hcell⟩ := hcc (by omega)
      obtain ⟨rv, c0, hrow⟩ := hcell t hlt
      have c1 := (HW.out.cell (p := ⟨b, off + t, none⟩) (by rw [← SB.out]; exact hb)).trans c0
      clear hRW c0
      injection hv2 with q1 q2 q3
      subst ha
      subst q1
      obtain ⟨M2, hM2, hM2'⟩ : ∃ M2 : Nat, (M : Int) * (P : Int) = (M2 : Int) ∧ M2 = M * P := ⟨M * P, by simp, rfl⟩
      have hM2b : M2 ≤ 140000 := by rw [hM2']; exact Nat.le_trans (Nat.mul_le_mul hpt (show P ≤ 7 by omega)) (by decide)
      have HM2 : Hid (M2 = P ^ (t + 1)) := by show _ = _; rw [hM2', Nat.pow_succ, HM.out]
      by_cases hbig : 20000 < M2
      · have hbi : (20000 : Int) < (M2 : Int) := by omega
        have HLT := hid hlt
        clear hlt hcell hcc q2 q3 hb hbig hM2'
        go_wp2_with fail
        refine bodyPost_ret (v := .tuple #[.slice none 0 0, .int .i64 2]) (by simp [results, Try.f20, go_sem]) rfl ⟨fun h => ?_, fun _ => rfl, hBW⟩
        exfalso
        have h1 := Nat.pow_le_pow_right (n := P) hp1 (show t + 1 ≤ RL.length from HLT.out)
        have h2 := HM2.out
        omega
      · have hbi : ¬ (20000 : Int) < (M2 : Int) := by omega
        obtain ⟨D, hD, hD'⟩ : ∃ D : Nat, (M : Int) * ((P : Int) - 1) = (D : Int) ∧ D = M * (P - 1) := ⟨M * (P - 1), by rw [Int.natCast_mul, Int.natCast_sub hp1]; rfl, rfl⟩
        have hMD : M + D = M2 := by
          rw [hM2', hD', Nat.mul_sub, Nat.mul_one]
          have := Nat.mul_le_mul_left M hp1
          omega
        have HMD := hid hMD
        have HLT := hid hlt
        have HB2 : Hid (M2 ≤ 20000) := by show _ ≤ _; omega
        have HMO : Hid (∀ W a, OwnW (w1.heap.size + 1) W a P t (rowF RL) M → OwnW (w1.heap.size + 1) W a P (t + 1) (rowF RL) M) := fun W a h => by
          unfold OwnW at h ⊢
          rw [← HM.out] at h ⊢
          rw [wdsL_more]
          exact h
        have HD' : Hid (D = P ^ t * (P - 1)) := by show _ = _; rw [hD', HM.out]
        have HRW := hid hrow
        have hM1 : (M : Int) ≤ 20000 := by omega
        have hD1 : (D : Int) ≤ 20000 := by omega
        have RLEN : Hid ((RL.getD t []).length = c ∧ ∀ r, r < c → 0 ≤ rowF RL t r ∧ rowF RL t r < P) := ⟨by have := HOK.out.len t hlt; omega, fun r hr => HOK.out.rng t hlt r (by omega)⟩
        clear hlt hcell hcc q2 q3 hb hbig hM2' hD' hMD hrow
        go_wp2_with fail
        clear z2 z0
        have ROWZ : Hid (∀ r, c ≤ r → rowF RL t r = 0) := fun r hr => by
          have hl := RLEN.out.1
          show (RL.getD t []).getD r 0 = 0
          rw [List.getD_eq_getElem?_getD, List.getElem?_eq_none (by omega)]
          rfl
        have HC8 : Hid (c ≤ 8) := by have := HOK.out.c8; show c ≤ 8; omega
        go_loopw [6, 39] (fun a i W => ∃ j : Nat, j ≤ D ∧ i = .int .i64 j ∧ Hid (OwnW (w1.heap.size + 1) W a P (t + 1) (rowF RL) (M + j)) ∧ Hid (Below (w1.heap.size + 1) BX W)) (fun _ i _ => D - (intOf i).toNat)
        case atStart => exact ⟨0, Nat.zero_le _, rfl, HMO.out _ _ HO.out, HW.out⟩
        case round =>
          obtain ⟨j, hj, rfl, HO2, HW2⟩ := hrel
          obtain ⟨g2, gc2, rfl, hg2, hgl2, hgcell⟩ := HO2.out.form (by omega)
          obtain ⟨z2, z0, -, hBW2⟩ := CXY.out wr HW2.out
          by_cases hlt : j < D
          · have hji : (j : Int) < (D : Int) := by omega
            have hjM : (j : Int) < ((M + j : Nat) : Int) := by omega
            have hjM2 : (j : Int) < (M : Int) + (j : Int) := by omega
            have c0 := hgcell j (by omega) 0 (by omega)
            have c1 := hgcell j (by omega) 1 (by omega)
            have c2 := hgcell j (by omega) 2 (by omega)
            have c3 := hgcell j (by omega) 3 (by omega)
            have c4 := hgcell j (by omega) 4 (by omega)
            have c5 := hgcell j (by omega) 5 (by omega)
            have c6 := hgcell j (by omega) 6 (by omega)
            have c7 := hgcell j (by omega) 7 (by omega)
            rw [Nat.add_zero] at c0
            have PLW := plW_is (L := c) HP.out ROWZ.out (show j < P ^ t * (P - 1) by rw [← HD'.out]; exact hlt)
            rw [HM.out] at PLW
            have INT : Hid (∀ W1, Below wr.heap.size wr W1 → Ints W1 rv (RL.getD t [])) := fun W1 hW1 => HRW.out.below (by
              have h9 := HW2.out
              rw [← SB.out] at h9
              exact h9.trans (hW1.mono h9.size))
            have PL : Hid (∀ W1, Below wr.heap.size wr W1 → Calls Try.prog 27 #[wdV (wrdF P (t + 1) (rowF RL) j), .int .i64 P, rv] W1 fun e w' => e = .returned (wdV (wrdF P (t + 1) (rowF RL) (M + j))) ∧ Below wr.heap.size wr w') := fun W1 hW1 => by
              have h9 := plus_any (P : Int) (wrdF P (t + 1) (rowF RL) j) rv (RL.getD t []) W1 (by have := HP7.out; omega) (INT.out W1 hW1) (by rw [RLEN.out.1]; exact HC8.out) (rowF RL t) (fun r => by have := wrd_lt (k := t + 1) (g := rowF RL) HP.out j r; have := HP7.out; omega) (fun r hr => ⟨rfl, by have := RLEN.out.2 r (by have := RLEN.out.1; omega); have := HP7.out; omega⟩)
              rw [RLEN.out.1, PLW] at h9
              exact h9.mono fun e w' h => ⟨h.1, hW1.trans (h.2.mono hW1.size)⟩
            unfold wdV wdC at PL
            have ON : Hid (∀ w5, Below wr.heap.size wr w5 → w5.ownsRow (w1.heap.size + 1) 46 8 (.slice (some ⟨g2, 0, none⟩) (M + j) gc2) (M + j) (VW (wdsL P (t + 1) (rowF RL) (M + j)))) := fun w5 h5 => HO2.out.below h5
            have SNO : Hid (∀ (w7 : World) (v' : Value), w7.ownsRow (w1.heap.size + 1) 46 8 v' (M + j + 1) (VW (wdsL P (t + 1) (rowF RL) (M + j)) ++ (wdC (wrdF P (t + 1) (rowF RL) (M + j))).toList) → OwnW (w1.heap.size + 1) w7 v' P (t + 1) (rowF RL) (M + j + 1)) := fun w7 v' h => OwnW.snoc h
            obtain ⟨F, hF⟩ : ∃ F, wrdF P (t + 1) (rowF RL) j = F := ⟨_, rfl⟩
            obtain ⟨F2, hF2⟩ : ∃ F2, wrdF P (t + 1) (rowF RL) (M + j) = F2 := ⟨_, rfl⟩
            rw [hF, hF2] at PL
            rw [hF2] at SNO
            rw [hF] at c0 c1 c2 c3 c4 c5 c6 c7
            have HJL := hid hlt
            have hMj : M + j < 20000 := by have := HMD.out; have := HB2.out; omega
            have hsz : w1.heap.size + 1 ≤ wr.heap.size := by omega
            clear hF hF2 PLW INT hgcell hlt
            go_wp2_with fail
            go_region_law (first
              | (refine step_app_ownF rfl (.tmp 42) (.tmp 51) 42 rfl (w1.heap.size + 1) 46 i0 (.agg #[.int .i64 0, .int .i64 0, .int .i64 0, .int .i64 0, .int .i64 0, .int .i64 0, .int .i64 0, .int .i64 0]) 8 64 Try.undWord hi0 hz0 hz1 hz2 rfl (by decide) _ _ _ rfl (O5.out.alloc _) ⟨w5.heap.size, 0, none⟩ 1 1 (wdC F2).toList rfl rfl (wd_news (WdAt.new w5 F2)) (wd_one F2) (by unfold maxLen; omega) (by omega) (by simp <;> omega) ?_; intro v' w7 hown' hgrow; have TS := hid (SNO.out _ _ hown'); have hbG := hid (((Below.refl _ w5).alloc (by omega : w1.heap.size + 1 ≤ w5.heap.size) _).grown hgrow (by simp <;> omega) (fun j hj => (World.ownsRow.lt O5.out j hj).1)); clear hown' hgrow)
              | (go_simp; go_at_call 27; (refine (PL.out _ (by first | exact (Below.refl _ _).drew | exact Below.refl _ _)).mono ?_); rintro e w5 ⟨rfl, hb5⟩; have K5 := hid hb5; have O5 := hid (ON.out _ hb5); have hw5 : wr.heap.size ≤ w5.heap.size := hb5.size; clear hb5))
            all_goals go_wp2_with fail
            all_goals exact ⟨⟨j + 1, HJL.out, by go_num, TS.out, HW2.out.trans ((K5.out.mono hsz).trans hbG.out)⟩, by have := HJL.out; simp [intOf]; omega⟩
          · obtain rfl : j = D := by omega
            have hn : ¬ (j : Int) < (j : Int) := by omega
            have HE := HMD.out
            have HX2 := HM2.out
            have HB9 := HB2.out
            have HLL := HLT.out
            have hLT2 : t + 1 ≤ RL.length := HLL
            have HQQ : Hid (M + j = P ^ (t + 1)) := HE.trans HX2
            rw [HX2] at HB9
            clear HE z2 z0 HX2
            go_wp2_with fail
            go_roundw
            case rel => exact ⟨t + 1, hLT2, by go_num, HB9, by rw [← HQQ.out]; exact HO2.out, HW2.out⟩
            case measure => simp [intOf]; omega
    · obtain rfl : t = RL.length := by omega
      have hn : ¬ (RL.length : Int) < (RL.length : Int) := by omega
      go_wp2_with fail
      refine bodyPost_ret (v := .tuple #[.slice (some ⟨gb, 0, none⟩) M gc, .int .i64 0]) (by simp [results, Try.f20, go_sem]) rfl ⟨fun _ => ⟨_, rfl, ?_⟩, fun h => ?_, hBW⟩
      · rw [HM.out]
        exact HO.out.mono (by omega)
      · rw [HM.out] at h
        omega
end Go.Proofs.Ytcncaaeofcmefaa
