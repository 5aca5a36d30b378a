/- rotakeep.TutteFlows. -/
import Derived.Test.YtkckipgmkjbkcaaDoorFgCQ
import Derived.Test.YtkckipgmkjbkcaaDoorBgVQ
import Derived.Test.YtkckipgmkjbkcaaDoorItAQ
import Derived.Lib.AppendIntMem
import Derived.Deep.RegionHeld3
import Derived.Deep.CutRange
namespace Go.Proofs.YtkckipgmkjbkcaaDoor
open Go.RowKit Go.Lib

set_option maxRecDepth 20000 in
set_option maxHeartbeats 8000000 in
theorem tflows_law (n : Int) (v : Value) (F : List (Int × Int)) (k : Int) (w : World) (h : EdgesI w v F) (hk : -9223372036854775808 ≤ k ∧ k ≤ 9223372036854775807) (hw : Pow10 w) :
    Calls Tryd.prog 3 #[.agg #[.int .i64 n, v], .int .i64 k] w fun e w' => e = .returned (.bool true) ∧ Below w.heap.size w w' := by
  have HI := hid h
  obtain ⟨a, cap, rfl, -, -⟩ := h
  have HW0 := hid (Lib.tabBelow_of_tabIs hw)
  obtain ⟨w0, hw0⟩ : ∃ w0, w.alloc (.cells #[.int .i64 n, .slice a F.length cap] 24) = w0 := ⟨_, rfl⟩
  have B0 : Hid (Below w.heap.size w w0) := by rw [← hw0]; exact (Below.refl _ _).alloc (Nat.le_refl _) _
  have X0 : Hid (w0.heap[w.heap.size]? = some (.cells #[.int .i64 n, .slice a F.length cap] 24 (0, 0))) := by rw [← hw0]; exact World.alloc_heap_new w _
  have I0 := hid (HI.out.below B0.out)
  have hs0 : w0.heap.size = w.heap.size + 1 := by rw [← hw0]; simp
  have FL := hid (Flow_any 1 _ [(0, 0)] _ (fg_edge w0))
  have HBL : Hid (Below w0.heap.size w0 (w0.alloc (.cells #[.int .i64 0, .int .i64 0] 30))) := (Below.refl _ _).alloc (Nat.le_refl _) _
  have HK := hid hk
  have HS0 := hid hs0
  clear HI hk hw hs0
  go_enter Tryd.func3, Tryd.ntmps3
  go_wp2_with fail
  clear hw0
  refine FL.out.mono ?_
  rintro e w2 ⟨-, hm, hb2⟩
  obtain ⟨u2, rfl, hu2⟩ := hm fg_one
  have hi2 := hu2.ints (by rw [fg_rk]; decide)
  rw [fg_rk, fg_pol] at hi2
  have hb3 : Below w2.heap.size w2 (w2.alloc (.cells #[.int .i64 (-1), .int .i64 1] 2)) := (Below.refl _ _).alloc (Nat.le_refl _) _
  have S1 := hid (SameL_any _ _ _ _ _ (hi2.below hb3) (fg_lit w2 (-1) 1 2))
  rw [show decide (([-1, 1] : List Int) = [-1, 1]) = true by decide] at S1
  obtain ⟨ua, ucap, hu, -, -⟩ := hi2
  subst hu
  have H13 := hid (HBL.out.trans ((hb2.trans (hb3.mono hb2.size)).mono HBL.out.size))
  clear hb2 hb3 hu2 FL HBL hm
  go_wp2_with fail
  refine S1.out.mono ?_
  rintro e w4 ⟨rfl, hb4⟩
  have K4 := hid (H13.out.trans (hb4.mono H13.out.size))
  have B4 := hid (B0.out.trans (K4.out.mono B0.out.size))
  have X4 := hid (box_keepG X0.out K4.out)
  have I4 := hid (I0.out.below K4.out)
  clear hb4 H13 S1 B0 I0 X0
  obtain ⟨x0, x1⟩ := two_cells X4.out
  have FL := hid (Flow_any n _ F w4 I4.out)
  by_cases hg : graphR n F = 0
  rotate_left
  · obtain ⟨q, hq⟩ : ∃ q, graphR n F = q := ⟨_, rfl⟩
    rw [hq] at hg FL
    have hq1 : (q != 0) = true := by rw [bne_iff_ne]; exact hg
    have HG := hid hg
    clear hg
    go_wp2_with fail
    refine FL.out.mono ?_
    rintro e w5 ⟨hm, -, hb5⟩
    have h9 := hm HG.out
    subst h9
    have B5 := hid (B4.out.trans (hb5.mono B4.out.size))
    clear hm hb5 FL
    go_wp2_with fail
    go_ret
    exact ⟨rfl, B5.out⟩
  obtain ⟨N, rfl, hN1, hN7, hEE, hG⟩ := graph_is hg
  have GG := hid hG
  have EE := hid hEE
  have HGZ := hid hg
  have P9 := hid (fun w => PickG_any k 3 w HK.out.1 HK.out.2 (by decide) (by decide))
  have hP := pickN_lt k (n := 3) (by decide)
  generalize (pickN k 3) = p at *
  clear hg hEE hG
  go_wp2_with fail
  refine FL.out.mono ?_
  rintro e w5 ⟨-, hm, hb5⟩
  obtain ⟨cv, rfl, hcv⟩ := hm HGZ.out
  have CV := hid hcv
  obtain ⟨cb, co, cc, rfl, -, -⟩ := hcv
  have B5 := hid (B4.out.trans (hb5.mono B4.out.size))
  have X5 := hid (box_keepG X4.out hb5)
  have I5 := hid (I4.out.below hb5)
  have P5 : Hid (Calls Tryd.prog 6 #[.int .i64 k, .int .i64 3] w5 fun e w' => e = .returned (.int .i64 (p : Nat)) ∧ w' = w5) := P9.out w5
  clear hm hb5 FL B4 X4 I4 x0 x1 K4 P9
  go_wp2_with fail
  refine P5.out.mono ?_
  rintro e w6 ⟨rfl, rfl⟩
  obtain ⟨q, hq, hq2⟩ : ∃ q : Nat, (1 : Int) + (p : Int) = (q : Int) ∧ Hid (q = p + 1) := ⟨p + 1, by omega, rfl⟩
  have hqp : (q : Int) - 1 = (p : Int) := by omega
  obtain ⟨m, hm⟩ : ∃ m, F.length = m := ⟨_, rfl⟩
  obtain ⟨w8, hw8⟩ : ∃ w8, w6.alloc (.cells #[.int .i64 q] 3) = w8 := ⟨_, rfl⟩
  have K8 : Hid (Below w6.heap.size w6 w8) := by rw [← hw8]; exact (Below.refl _ _).alloc (Nat.le_refl _) _
  have Q8 : Hid (w8.heap[w6.heap.size]? = some (.cells #[.int .i64 q] 3 (0, 0))) := by rw [← hw8]; exact World.alloc_heap_new w6 _
  have X8 := hid (box_keepG X5.out K8.out)
  have I8 := hid (I5.out.below K8.out)
  have B8 := hid (B5.out.trans (K8.out.mono B5.out.size))
  have CV8 := hid (CV.out.below K8.out)
  have PW : Hid (∀ (b : Nat) W, b ≤ 8 → Calls Tryd.prog 7 #[.int .i64 p, .int .i64 b] W fun e w' => e = .returned (.int .i64 (p ^ b : Nat)) ∧ w' = W) := fun b W hb => Power_ok p b W (by omega) hb
  have hm8 : m ≤ 8 := by rw [← hm]; exact GG.out.m8
  have CX : Hid (∀ W, Below w8.heap.size w8 W → W.cell? ⟨w.heap.size, 0, none⟩ = some (.int .i64 (N : Nat)) ∧ W.cell? ⟨w.heap.size, 1, none⟩ = some (.slice a m cap) ∧ W.cell? ⟨w6.heap.size, 0, none⟩ = some (.int .i64 q)) := fun W hW => by
    obtain ⟨y0, y1, -⟩ := two_cells (box_keepG X8.out hW)
    have := box_keepG Q8.out hW
    exact ⟨y0, by rw [← hm]; exact y1, by simp [World.cell?, this]⟩
  have PM := hid (PW.out m w8 hm8)
  have hT := pow_le_3 (a := p) (k := m) (by omega) hm8
  obtain ⟨y0, y1, y2⟩ := CX.out w8 (Below.refl _ _)
  have HM := hid hm
  rw [hm] at GG ⊢
  clear P5 hm X5 I5 B5 CV
  go_wp2_with fail
  clear hw8
  refine PM.out.mono ?_
  rintro e w8 ⟨rfl, rfl⟩
  obtain ⟨T, hTT⟩ : ∃ T, p ^ m = T := ⟨_, rfl⟩
  rw [hTT] at hT ⊢
  have HT := hid hTT
  clear hTT PM
  go_wp2_with fail
  go_loopw [10, 50] (fun nn i W => ∃ c : Nat, c ≤ T ∧ i = .int .i64 c ∧ nn = .int .i64 (fgC (natE F) N q m c) ∧ Hid (Below w8.heap.size w8 W)) (fun _ i _ => T - (RowKit.intOf i).toNat)
  case atStart => exact ⟨0, Nat.zero_le _, rfl, rfl, Below.refl _ _⟩
  case round =>
    obtain ⟨c, hc, rfl, rfl, HW⟩ := hrel
    obtain ⟨wq, hwq⟩ : ∃ wq : World, wq = wr := ⟨_, rfl⟩
    subst hwq
    have hcl := fgC_le (natE F) N q m c
    by_cases hlt : c < T
    · have hci : (c : Int) < (T : Int) := by omega
      have hp0 : 0 < p ∨ m = 0 := by
        rcases Nat.eq_zero_or_pos p with h | h
        · rcases Nat.eq_zero_or_pos m with h2 | h2
          · exact .inr h2
          · have := HT.out
            rw [h, Nat.zero_pow h2] at this
            omega
        · exact .inl h
      have HP0 := hid hp0
      have hmk := fun w => run_make_row' (P := Tryd.prog) 33 3 (.int .i64 0) 8 Tryd.underlying33 Tryd.infoInt rfl .i64 .i64 N (by omega) (by omega) w
      have ST := hid (fgC_step (natE F) N q m c)
      obtain ⟨z, hz⟩ : ∃ z, fgC (natE F) N q m c = z := ⟨_, rfl⟩
      rw [hz] at hcl ST ⊢
      clear hz hp0
      obtain ⟨y0, y1, y2⟩ := CX.out wq HW.out
      have tb := TblZ.new wq N 3
      obtain ⟨W1, hW1⟩ : ∃ W1, wq.alloc (.cells (madeCells #[.int .i64 0] N) 3) = W1 := ⟨_, rfl⟩
      have H1 : Hid (Below wq.heap.size wq W1) := by rw [← hW1]; exact (Below.refl _ _).alloc (Nat.le_refl _) _
      rw [hW1] at tb
      obtain ⟨v0, v1, v2⟩ := CX.out W1 (HW.out.trans (H1.out.mono HW.out.size))
      obtain ⟨g, hg⟩ : ∃ g, wq.heap.size = g := ⟨_, rfl⟩
      rw [hg] at tb H1
      have TB := hid tb
      have HG2 := hid hg
      have HC := hid hlt
      clear tb hlt
      go_wp2_with fail
      clear hW1 hg hmk
      go_loopw [59] (fun i W => ∃ j : Nat, j ≤ m ∧ i = .int .i64 j ∧ Hid (TblZ g W N (bdZ (natE F) j fun i => (fgX p m c i : Int))) ∧ Hid (Below g wq W)) (fun i _ => m - (RowKit.intOf i).toNat)
      case atStart => exact ⟨0, Nat.zero_le _, rfl, TB.out.congr fun i _ => by unfold bdZ; rfl, H1.out⟩
      case round =>
        obtain ⟨j, hj, rfl, HT2, HW2⟩ := hrel
        by_cases hlt : j < m
        · obtain ⟨aa, cc2, hv2, -, hcc⟩ := I8.out
          have hjF : j < F.length := by rw [HM.out]; exact hlt
          obtain ⟨b, off, ha, hb, hcell⟩ := hcc (by omega)
          injection hv2 with q1 q2 q3
          subst ha
          subst q1
          have hgq : w8.heap.size ≤ g := by rw [← HG2.out]; exact HW.out.size
          have BW := hid (HW.out.trans (HW2.out.mono hgq))
          obtain ⟨c1, c2⟩ := hcell j hjF
          have c3 := (BW.out.cell (p := ⟨b, off + j * 2, none⟩) hb).trans c1
          have c4 := (BW.out.cell (p := ⟨b, off + j * 2 + 1, none⟩) hb).trans c2
          rw [(EE.out j hjF).1] at c3
          rw [(EE.out j hjF).2] at c4
          have hAB := GG.out.ends j hlt
          have BS : Hid (∀ v, bdZ (natE F) (j + 1) (fun i => (fgX p m c i : Int)) v = bdZ (natE F) j (fun i => (fgX p m c i : Int)) v + (fgX p m c j : Int) * (dlZ (ea (natE F) j) v - dlZ (eb (natE F) j) v)) := fun v => bd_succ j _ v
          have hp0 : 0 < p := by have := HP0.out; omega
          have BB : Hid (∀ v, -((p * j : Nat) : Int) ≤ bdZ (natE F) j (fun i => (fgX p m c i : Int)) v ∧ bdZ (natE F) j (fun i => (fgX p m c i : Int)) v ≤ ((p * j : Nat) : Int)) := fun v => bd_bound v j fun i hi => fgX_le hp0 (by omega)
          have hpj : p * j ≤ 16 := Nat.le_trans (Nat.mul_le_mul (show p ≤ 2 by omega) (show j ≤ 8 by omega)) (by decide)
          have hx := fgX_at (p := p) (c := c) hlt
          have hxp := fgX_le (c := c) hp0 hlt
          obtain ⟨x, hX⟩ : ∃ x, fgX p m c j = x := ⟨_, rfl⟩
          rw [hX] at hx hxp BS
          obtain ⟨A, hA⟩ : ∃ A, ea (natE F) j = A := ⟨_, rfl⟩
          obtain ⟨B, hB⟩ : ∃ B, eb (natE F) j = B := ⟨_, rfl⟩
          rw [hA] at c3 hAB BS
          rw [hB] at c4 hAB BS
          obtain ⟨f, hf⟩ : ∃ f : Nat → Int, bdZ (natE F) j (fun i => (fgX p m c i : Int)) = f := ⟨_, rfl⟩
          obtain ⟨f', hf'⟩ : ∃ f : Nat → Int, bdZ (natE F) (j + 1) (fun i => (fgX p m c i : Int)) = f := ⟨_, rfl⟩
          rw [hf] at HT2 BB BS
          rw [hf'] at BS
          have HF' := hid hf'
          obtain ⟨W2, hW2⟩ : ∃ W2, wr.alloc (.cells #[.int .i64 A, .int .i64 B] 30) = W2 := ⟨_, rfl⟩
          have H2 : Hid (Below wr.heap.size wr W2) := by rw [← hW2]; exact (Below.refl _ _).alloc (Nat.le_refl _) _
          have X2 : Hid (W2.heap[wr.heap.size]? = some (.cells #[.int .i64 A, .int .i64 B] 30 (0, 0))) := by rw [← hW2]; exact World.alloc_heap_new wr _
          obtain ⟨v0, v1, v2⟩ := CX.out W2 (BW.out.trans (H2.out.mono BW.out.size))
          have T2 := hid (HT2.out.below H2.out)
          have hgr : g < wr.heap.size := HT2.out.size
          have PJ := hid (fun W => PW.out j W (by omega))
          obtain ⟨P, hPP⟩ : ∃ P, p ^ j = P := ⟨_, rfl⟩
          rw [hPP] at PJ hx
          have hP0 : 0 < P := by rw [← hPP]; exact Nat.pow_pos hp0
          have hmj : m - (j + 1) < m - j := by omega
          have HMJ := hid hmj
          have HJ := hid hlt
          have hji : (j : Int) < (m : Int) := by omega
          clear hf hf' hX hA hB hPP c1 c2 hcell hcc q2 q3 hb HT2
          obtain ⟨d, hd⟩ : ∃ d, c / P = d := ⟨_, rfl⟩
          rw [hd] at hx
          obtain ⟨r, hr⟩ : ∃ r, d % p = r := ⟨_, rfl⟩
          rw [hr] at hx
          have hdc : d ≤ c := by rw [← hd]; exact Nat.div_le_self _ _
          have e1 : (c : Int) / (P : Int) = (d : Int) := by rw [← hd]; rfl
          have e2 : (c : Int).tdiv (P : Int) = (d : Int) := by rw [← hd]; rfl
          have e3 : (d : Int) % (p : Int) = (r : Int) := by rw [← hr]; rfl
          have e4 : (d : Int).tmod (p : Int) = (r : Int) := by rw [← hr]; rfl
          have e5 : ((P : Int) == 0) = false := by rw [beq_eq_false_iff_ne]; omega
          have e6 : ((p : Int) == 0) = false := by rw [beq_eq_false_iff_ne]; omega
          have e7 : ¬ (P : Int) = 0 := by omega
          have e8 : ¬ (p : Int) = 0 := by omega
          have e9 : (1 : Int) + (r : Int) = (x : Int) := by omega
          have e10 : IntKind.i64.wrap (p : Int) = (p : Int) := IntWalk.i64_in _ (by omega)
          have e11 : IntKind.i64.wrap (d : Int) = (d : Int) := IntWalk.i64_in _ (by omega)
          have e12 : IntKind.i64.wrap (x : Int) = (x : Int) := IntWalk.i64_in _ (by omega)
          clear hd hr hx
          go_wp2_with fail
          clear hW2
          go_cut [15] from 64 to 73 (fun u W => u = .int .i64 x ∧ Hid (Below W2.heap.size W2 W))
          case first =>
            have BD : Hid (Below W2.heap.size W2 W2.drew) := (Below.refl _ _).drew
            go_region_with (first
              | (go_at_call 7; (with_reducible refine (PJ.out _).mono ?_); rintro e w5 ⟨rfl, rfl⟩))
            all_goals go_wp2_with fail
            all_goals go_meet
            all_goals exact ⟨rfl, BD.out⟩
          case rest =>
            obtain ⟨rfl, HD⟩ := hcut
            have hne1 : ¬ g = wr.heap.size := by omega
            have hne2 : ¬ wr.heap.size = g := by omega
            obtain ⟨xe0, xe1, -, -⟩ := two_cells (box_keepG X2.out HD.out)
            have T3 := hid (T2.out.below HD.out)
            have W3 := hid (HW2.out.trans ((H2.out.trans (HD.out.mono H2.out.size)).mono (Nat.le_of_lt hgr)))
            have cA := T3.out.cell A hAB.1
            have fA := T3.out.frozen A
            have hA1 : (A : Int) < (N : Int) := by omega
            have hB1 : (B : Int) < (N : Int) := by omega
            have bA := BB.out A
            have bB := BB.out B
            obtain ⟨y0', hy0⟩ : ∃ y, f A = y := ⟨_, rfl⟩
            rw [hy0] at cA bA
            obtain ⟨y1', hy1⟩ : ∃ y, y0' + (x : Int) = y := ⟨_, rfl⟩
            have T4 : Hid (TblZ g (wc.setCell ⟨g, A, none⟩ (.int .i64 y1')) N (fun v => if A = v then y1' else f v)) := T3.out.set A y1' hAB.1 fun i _ => rfl
            have cB := T4.out.cell B hAB.2
            have fB := T4.out.frozen B
            have by1 : -18 ≤ y1' ∧ y1' ≤ 18 := by omega
            obtain ⟨y2', hy2⟩ : ∃ y, (if A = B then y1' else f B) = y := ⟨_, rfl⟩
            have by2 : -18 ≤ y2' ∧ y2' ≤ 18 := by rw [← hy2]; split <;> omega
            have cB' : (wc.setCell ⟨g, A, none⟩ (.int .i64 y1')).cell? ⟨g, B, none⟩ = some (.int .i64 y2') := by rw [← hy2]; exact cB
            obtain ⟨y3', hy3⟩ : ∃ y, y2' - (x : Int) = y := ⟨_, rfl⟩
            have T5 : Hid (TblZ g ((wc.setCell ⟨g, A, none⟩ (.int .i64 y1')).setCell ⟨g, B, none⟩ (.int .i64 y3')) N f') := T4.out.set B y3' hAB.2 fun i _ => by
              rw [BS.out i]
              unfold dlZ
              rw [← hy3, ← hy2, ← hy1, ← hy0]
              by_cases hA : A = i
              · subst hA
                by_cases hB : B = A
                · subst hB; simp
                · simp [hB] <;> omega
              · by_cases hB : B = i
                · subst hB; simp [hA] <;> omega
                · simp [hA, hB]
            have W5 := hid ((W3.out.setCell (p := ⟨g, A, none⟩) (Nat.le_refl _) (.int .i64 y1')).setCell (p := ⟨g, B, none⟩) (Nat.le_refl _) (.int .i64 y3'))
            clear cB HD T3 T4 W3 bB hy2
            go_wp2_with fail
            go_roundw
            case rel => exact ⟨j + 1, HJ.out, by go_num, by rw [HF'.out]; exact T5.out, W5.out⟩
            case measure => exact HMJ.out
        · obtain rfl : j = m := by omega
          have hn : ¬ (j : Int) < (j : Int) := by omega
          have hmf : ∀ (fn : Fn) (first cap : Array Value) (w : World), (Instr.makeFunc fn first cap).run Tryd.prog w = .ok (.func fn first cap) w := fun _ _ _ _ => rfl
          have hgq : w8.heap.size ≤ g := by rw [← HG2.out]; exact HW.out.size
          have BW := hid (HW.out.trans (HW2.out.mono hgq))
          have hq0 : 0 < q := by have := hq2.out; omega
          have CF := hid (ContainsFuncZ_any 9 #[.pointer (some ⟨w6.heap.size, 0, none⟩)] _ _ (fun z => !decide ((q : Int) ∣ z)) wr (fun args w => enters_of Tryd.func9 (by kernel_rfl) rfl args w) ((HT2.out.rkZ (cap := N)).ints (by omega)) fun z _ w1 hb1 _ => clo_ok z q w6.heap.size w1 hq0 (CX.out w1 (BW.out.trans (hb1.mono BW.out.size))).2.2)
          rw [con_any, show p = q - 1 by have := hq2.out; omega] at CF
          have hz2 : -1 ≤ z ∧ z ≤ 7000 := by omega
          have HCL := hid hcl
          rcases hcb : conB (natE F) N q j (fgX (q - 1) j c) with _ | _
          · rw [hcb] at CF ST
            have SS : Hid (fgC (natE F) N q j (c + 1) = z) := by show _ = _; rw [ST.out]; simp
            clear hcb ST TB HT2 hcl
            go_wp2_with fail
            refine CF.out.mono ?_
            rintro e w3 ⟨rfl, hb3⟩
            have B3 := hid (BW.out.trans (hb3.mono BW.out.size))
            clear hb3 CF
            go_wp2_with fail
            go_roundw
            case rel => exact ⟨c + 1, HC.out, by go_num, by rw [SS.out], B3.out⟩
            case measure => have := HC.out; simp [RowKit.intOf]; omega
          · rw [hcb] at CF ST
            have SS : Hid (fgC (natE F) N q j (c + 1) = z + 1) := by show _ = _; rw [ST.out]; simp
            clear hcb ST TB HT2 hcl
            go_wp2_with fail
            refine CF.out.mono ?_
            rintro e w3 ⟨rfl, hb3⟩
            have B3 := hid (BW.out.trans (hb3.mono BW.out.size))
            clear hb3 CF
            go_wp2_with fail
            go_roundw
            case rel => exact ⟨c + 1, HC.out, by go_num, by rw [SS.out], B3.out⟩
            case measure => have := HC.out; simp [RowKit.intOf]; omega
    · obtain rfl : c = T := by omega
      have hn : ¬ (c : Int) < (c : Int) := by omega
      have hq0 : 0 < q := by have := hq2.out; omega
      have hq3 : q ≤ 3 := by have := hq2.out; omega
      have FLW : fgC (natE F) N q m c = horN (flC F) q (flR F + 1) (flR F + 1) := by
        have h1 := GG.out.flows hq0
        have h2 : q - 1 = p := by have := hq2.out; omega
        unfold fgC fgX
        rw [h2] at h1 ⊢
        rw [← HT.out]
        unfold flC flR
        rw [HM.out]
        exact h1
      have hfR : flR F ≤ 8 := by
        unfold flR
        rw [HM.out]
        exact rk_small GG.out.m8 (cmp_fam GG.out.fam) _
      have HCB : Hid (∀ j, -256 ≤ flC F j ∧ flC F j ≤ 256) := fun j => by
        unfold flC
        have := chr_bound (rk (cmp F.length (gbL F))) (flR F) (2 ^ F.length) j
        have h2 : 2 ^ F.length ≤ 256 := by rw [HM.out]; exact Nat.le_trans (Nat.pow_le_pow_right (by omega) GG.out.m8) (by decide)
        omega
      obtain ⟨y0, y1, y2⟩ := CX.out wq HW.out
      have VA := hid (value_any (flC F) q (flR F + 1) _ wq (CV8.out.below HW.out) (by omega) (fun j _ => HCB.out j) (by omega))
      rw [← FLW] at VA
      obtain ⟨z, hz⟩ : ∃ z, fgC (natE F) N q m c = z := ⟨_, rfl⟩
      rw [hz] at hcl VA ⊢
      have HCL := hid hcl
      have B9 := hid (B8.out.trans (HW.out.mono B8.out.size))
      have HTC : Hid (c ≤ 6561) := hT
      clear hz FLW hcl
      go_wp2_with fail
      refine VA.out.mono ?_
      rintro e w10 ⟨zb, rfl, hzb, hI, hb10⟩
      have ST := hid (String_s zb z w10 hI (by have := HCL.out; have := HTC.out; omega))
      have B10 := hid (B9.out.trans (hb10.mono B9.out.size))
      clear hI hb10 VA hzb
      go_wp2_with fail
      refine ST.out.mono ?_
      rintro e w11 ⟨rfl, hb11⟩
      have B11 := hid (B10.out.trans (hb11.mono B10.out.size))
      have IT := hid (Itoa_ok z w11 (by have := HCL.out; omega) (by have := HCL.out; have := HTC.out; omega) (HW0.out w11 B11.out))
      clear hb11 ST
      go_wp2_with fail
      refine IT.out.mono ?_
      rintro e w12 ⟨rfl, hb12⟩
      have B12 := hid (B11.out.trans (hb12.mono B11.out.size))
      clear hb12 IT
      go_wp2_with fail
      go_ret
      exact ⟨rfl, B12.out⟩
end Go.Proofs.YtkckipgmkjbkcaaDoor
