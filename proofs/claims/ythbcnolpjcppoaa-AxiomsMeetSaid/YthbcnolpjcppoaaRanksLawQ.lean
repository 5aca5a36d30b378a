/- The walk of the law AxiomsRanks. -/
import Derived.Test.YthbcnolpjcppoaaAxQ
import Derived.Test.YthbcnolpjcppoaaRefQ
namespace Go.Proofs.Ythbcnolpjcppoaa
open Go.RowKit

theorem two_top : rk twoL 15 = 2 := by decide +kernel
/-- A reading of the ranks in all later worlds. -/
theorem RkAt.later {w : World} {rb roff T rcap : Nat} {r : Nat → Nat} (h : RkAt w (.slice (some ⟨rb, roff, none⟩) T rcap) T r) {i : Nat} (hi : i < T) : ∀ x : Later w, x.now.cell? ⟨rb, roff + i, none⟩ = some (.int .i64 (r i : Nat)) := fun x => by
  obtain ⟨b', off', cap', heq, hbl, hcells⟩ := h.below x.kept
  obtain ⟨⟨rfl, rfl⟩, rfl⟩ : (rb = b' ∧ roff = off') ∧ rcap = cap' := by simpa using heq
  exact hcells i hi
theorem RkAt.at {w : World} {rb roff T rcap : Nat} {r : Nat → Nat} (h : RkAt w (.slice (some ⟨rb, roff, none⟩) T rcap) T r) {i : Nat} (hi : i < T) : w.cell? ⟨rb, roff + i, none⟩ = some (.int .i64 (r i : Nat)) := h.later hi ⟨w, Below.refl _ _⟩
theorem setR_01 (n s : Int) : setR n s = 0 ∨ setR n s = 1 := by unfold setR; split <;> simp
theorem setR_of {m : Nat} {s : Int} (h : setR m s = 0) : ∃ t : Nat, s = t ∧ t < 2 ^ m := by
  unfold setR at h
  split at h
  · rename_i g
    have e : ((2 ^ m : Nat) : Int) = (2 : Int) ^ m := by simp
    refine ⟨s.toNat, by omega, ?_⟩
    have := g.2.2.2
    rw [Int.toNat_natCast, ← e] at this
    omega
  · cases h
theorem box_back {w w2 : World} {n : Int} {u : Value} (h : w2.cell? ⟨w.heap.size, 0, none⟩ = some (.int .i64 n) ∧ w2.cell? ⟨w.heap.size, 1, none⟩ = some u) {w3 : World} (hb : Below w2.heap.size w2 w3) (hs : w.heap.size < w2.heap.size) :
    w3.cell? ⟨w.heap.size, 0, none⟩ = some (.int .i64 n) ∧ w3.cell? ⟨w.heap.size, 1, none⟩ = some u :=
  ⟨(hb.cell (p := ⟨w.heap.size, 0, none⟩) hs).trans h.1, (hb.cell (p := ⟨w.heap.size, 1, none⟩) hs).trans h.2⟩

set_option maxRecDepth 100000 in
set_option maxHeartbeats 4000000 in
theorem ranks_law (n : Int) (v : Value) (zs : List Int) (s t : Int) (w : World) (h : Ints w v zs) :
    Calls Try.prog 6 #[.agg #[.int .i64 n, v], .int .i64 s, .int .i64 t] w fun e w' => e = .returned (.bool true) ∧ Below w.heap.size w w' := by
  have HI := hid h
  obtain ⟨a, cap, rfl, _, _⟩ := h
  have T2 := hid (fun w v (h : Ints w v (N twoL)) => Ranks_ok 4 v twoL w (by omega) two_fam two_bas h)
  go_enter Try.func6, Try.ntmps6
  go_wp2_with fail
  refine (two_any _).mono ?_
  rintro e w1 ⟨v2, rfl, hv2, hb1⟩
  have X1 := hid (box_cells hb1)
  have B1 := hid ((below_box w #[.int .i64 n, .slice a zs.length cap]).trans (hb1.mono (below_box w #[.int .i64 n, .slice a zs.length cap]).size))
  have S1 : w.heap.size + 1 ≤ w1.heap.size := by have := hb1.size; simpa using this
  have C2 := hid (T2.out _ _ hv2)
  obtain ⟨a2, cap2, rfl, _, _⟩ := hv2
  clear hb1
  go_wp2_with fail
  refine C2.out.mono ?_
  rintro e w2 ⟨r2, rfl, hr2, hb2⟩
  have X2 := hid (box_back X1.out hb2 (by omega))
  have B2 := hid (B1.out.trans (hb2.mono B1.out.size))
  have S2 : w.heap.size + 1 ≤ w2.heap.size := Nat.le_trans S1 hb2.size
  obtain ⟨rb, roff, rcap, rfl, hrb, hrc⟩ := hr2
  have hr15 := hrc 15 (by decide)
  rw [two_top] at hr15
  obtain ⟨x0, x1⟩ := X2.out
  clear hb2 hrc T2 C2 X1
  go_wp2_with fail
  by_cases hc : chkR n zs = 0
  · obtain ⟨m, l, rfl, hm, rfl, hfam, hbas⟩ := chk_of hc
    have HM := hid (fun w' (hb : Below w.heap.size w w') => HI.out.below hb)
    refine (Ranks_ok m _ l _ hm hfam hbas (HM.out _ B2.out)).mono ?_
    rintro e w3 ⟨r3, rfl, hr3, hb3⟩
    have X3 := hid (box_back X2.out hb3 (by omega))
    have B3 := hid (B2.out.trans (hb3.mono B2.out.size))
    have S3 : w.heap.size + 1 ≤ w3.heap.size := Nat.le_trans S2 hb3.size
    have R3 := hid hr3
    obtain ⟨qb, qoff, qcap, rfl, _, _⟩ := hr3
    clear hb3 x0 x1 X2 hr15
    obtain ⟨x0, x1⟩ := X3.out
    go_wp2_with fail
    rcases setR_01 m s with hs | hs
    · obtain ⟨s', rfl, hs'⟩ := setR_of hs
      refine (Closure_ok m s' _ l _ hm hfam hbas (HM.out _ B3.out) hs').mono ?_
      rintro e w4 ⟨rfl, hb4⟩
      have X4 := hid (box_back X3.out hb4 (by omega))
      have B4 := hid (B3.out.trans (hb4.mono B3.out.size))
      have S4 : w.heap.size + 1 ≤ w4.heap.size := Nat.le_trans S3 hb4.size
      have R4 := hid (R3.out.below hb4)
      clear hb4 x0 x1 X3 R3
      obtain ⟨x0, x1⟩ := X4.out
      go_wp2_with fail
      rcases setR_01 m t with ht | ht
      · obtain ⟨t', rfl, ht'⟩ := setR_of ht
        refine (Closure_ok m t' _ l _ hm hfam hbas (HM.out _ B4.out) ht').mono ?_
        rintro e w5 ⟨rfl, hb5⟩
        have X5 := hid (box_back X4.out hb5 (by omega))
        have B5 := hid (B4.out.trans (hb5.mono B4.out.size))
        have S5 : w.heap.size + 1 ≤ w5.heap.size := Nat.le_trans S4 hb5.size
        have R5 := hid (R4.out.below hb5)
        clear hb5 x0 x1 X4 R4
        obtain ⟨x0, x1⟩ := X5.out
        have RK := hid hbas.rk
        have hA := cl_lt (r := rk l) hm hs'
        have hB := cl_lt (r := rk l) hm ht'
        have hor : s' ||| t' < 2 ^ m := Nat.or_lt_two_pow hs' ht'
        have hand : s' &&& t' < 2 ^ m := Nat.lt_of_le_of_lt Nat.and_le_left hs'
        have FA := hid (fun w' (hb : Below w.heap.size w w') => Closure_ok m (cl (rk l) m s') _ l w' hm hfam hbas (HM.out w' hb) hA)
        have IDEM := hid (RK.out.cl_cl hm hs')
        have SUB := hid (RK.out.sub s' t')
        have EQA := hid (RK.out.cl_eq hm hs')
        have LE := hid (RK.out.le s')
        have SA : Hid (subB s' (cl (rk l) m s') = true) := sub_cl hm hs'
        have MONO := hid (fun h => RK.out.cl_mono hm hs' ht' h)
        have CI := hid (fun w' (hb : Below w.heap.size w w') => Circuits_ok m _ l w' hm hfam hbas (HM.out w' hb))
        have s8 := rk_small hm hfam s'
        have t8 := rk_small hm hfam t'
        have o8 := rk_small hm hfam (s' ||| t')
        have n8 := rk_small hm hfam (s' &&& t')
        have A8 := rk_small hm hfam (cl (rk l) m s')
        have r1 := R5.out.later hs'
        have r2 := R5.out.later ht'
        have r3 := R5.out.later hor
        have r4 := R5.out.later hand
        have r5 := R5.out.later hA
        obtain ⟨T, HT, hT2, hT1⟩ : ∃ T : Nat, Hid (T = 2 ^ m) ∧ T ≤ 256 ∧ 1 ≤ T := ⟨2 ^ m, rfl, (pow_wrap _ hm).2, Nat.one_le_two_pow⟩
        rw [← HT.out] at hs' ht' hA hB hor hand R5 ⊢
        have b1 : bits .or .i64 (s' : Int) (t' : Int) = ((s' ||| t' : Nat) : Int) := i64_or_nat _ _ (by omega) (by omega)
        have b2 : bits .and .i64 (s' : Int) (t' : Int) = ((s' &&& t' : Nat) : Int) := i64_and_nat _ _ (by omega) (by omega)
        have hs2 : s' < 256 := by omega
        have ht2 : t' < 256 := by omega
        have hA2 : cl (rk l) m s' < 256 := by omega
        have hB2 : cl (rk l) m t' < 256 := by omega
        have hp8 := pop_le s' hs2
        have q1 : decide ((rk l s' : Int) + (rk l t' : Int) < (rk l (s' ||| t') : Int) + (rk l (s' &&& t') : Int)) = false := by have := SUB.out; rw [decide_eq_false_iff_not]; omega
        have q2 := EQA.out
        rw [q2] at r5
        have q2' : ((rk l s' : Int) != (rk l s' : Int)) = false := by simp
        have q3 : decide ((pop s' : Int) < (rk l s' : Int)) = false := by have := LE.out; rw [decide_eq_false_iff_not]; omega
        have q3' : decide (pop s' < rk l s') = false := by have := LE.out; rw [decide_eq_false_iff_not]; omega
        generalize hcA : cl (rk l) m s' = A at *
        generalize hcB : cl (rk l) m t' = B at *
        have HCA := hid hcA
        have HCB := hid hcB
        clear hcA hcB
        have CIR : Hid (∀ i, i < T → cirB (rk l) i = true → rk l i + 1 = pop i) := fun i hi hc => RK.out.cir_rk (by omega) hc
        have SM := hid (rk_small hm hfam)
        clear RK r1 r2 r3 r4 r5
        have r1 := R5.out.later hs'
        have r2 := R5.out.later ht'
        have r3 := R5.out.later hor
        have r4 := R5.out.later hand
        have r5 := R5.out.later hA
        rw [q2] at r5
        rcases hst : subB s' t' with _ | _
        all_goals
          have ST := hid hst
          clear hst
          go_wp2_with fail
          refine region_later (by kernel_rfl) (by kernel_rfl) ?_
          repeat (go_big_quiet_step ((first
            | (go_at_call 42; refine (Size_any _ _ (by assumption)).mono ?_; rintro e w' ⟨rfl, hb⟩; exact ⟨rfl, Later.on _ hb⟩)
            | (go_at_call 43; refine (Within_any _ _ _ (by assumption) (by assumption)).mono ?_; rintro e w' ⟨rfl, rfl⟩; first | exact ⟨congrArg (fun b => Ending.returned (.bool b)) SA.out, Later.on _ (Below.refl _ _)⟩ | exact ⟨congrArg (fun b => Ending.returned (.bool b)) ST.out, Later.on _ (Below.refl _ _)⟩ | exact ⟨congrArg (fun b => Ending.returned (.bool b)) (MONO.out ST.out), Later.on _ (Below.refl _ _)⟩))))
          refine wpQuiet_nil ?_
          intro w6 hw'
          obtain ⟨⟨y6, hb6⟩, hw''⟩ := hw'
          dsimp only at hw''
          subst hw''
          have X6 := hid (box_back X5.out hb6 (by omega))
          have B6 := hid (B5.out.trans (hb6.mono B5.out.size))
          have S6 : w.heap.size + 1 ≤ w6.heap.size := Nat.le_trans S5 hb6.size
          have R6 := hid (R5.out.below hb6)
          clear hb6 x0 x1 X5 R5 r1 r2 r3 r4 r5 q1 q3 q3'
          obtain ⟨x0, x1⟩ := X6.out
          go_wp2_with fail
          refine (FA.out _ B6.out).mono ?_
          rw [IDEM.out]
          rintro e w7 ⟨rfl, hb7⟩
          have X7 := hid (box_back X6.out hb7 (by omega))
          have B7 := hid (B6.out.trans (hb7.mono B6.out.size))
          have S7 : w.heap.size + 1 ≤ w7.heap.size := Nat.le_trans S6 hb7.size
          have R7 := hid (R6.out.below hb7)
          clear hb7 x0 x1 X6 R6
          obtain ⟨x0, x1⟩ := X7.out
          go_wp2_with fail
          refine (CI.out _ B7.out).mono ?_
          rintro e w8 ⟨c, rfl, hown, hb8⟩
          rw [← HT.out] at hown
          have B8 := hid (B7.out.trans (hb8.mono B7.out.size))
          have R8 := hid (R7.out.below hb8)
          have hlen := Nat.le_trans (rg_le (cirB (rk l)) T) hT2
          have HMEM : Hid (∀ i ∈ (List.range T).filter (cirB (rk l)), i < T ∧ rk l i + 1 = pop i) := fun i hi => by
            rw [List.mem_filter, List.mem_range] at hi
            exact ⟨hi.1, CIR.out i hi.1 hi.2⟩
          have IC := hown.ints (by omega)
          obtain ⟨ca, ccap, rfl, _, hcc⟩ := IC.nats
          clear hb8 x0 x1 X7 R7 IC
          generalize (List.range T).filter (cirB (rk l)) = cs at *
          go_wp2_with fail
          go_loopw [144] (fun i wr => ∃ k : Nat, k ≤ cs.length ∧ i = .int .i64 k ∧ Below w8.heap.size w8 wr) (fun i _ => cs.length - (intOf i).toNat)
          case atStart => exact ⟨0, Nat.zero_le _, rfl, Below.refl _ _⟩
          case round =>
            obtain ⟨k, hk, rfl, hn9⟩ := hrel
            by_cases hlt : k < cs.length
            · obtain ⟨cb, coff, rfl, hcb, hcell⟩ := hcc (by omega)
              have hck : wr.cell? ⟨cb, coff + k, none⟩ = some (.int .i64 (cs.getD k 0 : Nat)) := (hn9.cell (p := ⟨cb, coff + k, none⟩) hcb).trans (hcell k hlt)
              have hin := HMEM.out (cs.getD k 0) (by simp [List.getD, hlt])
              clear hcell hcc
              generalize cs.getD k 0 = z at *
              have hz := hin.1
              have hz2 : z < 256 := by omega
              have rz := (R8.out.below hn9).later hz
              have z8 := SM.out z
              have p8 := pop_le z hz2
              have e9 : ((rk l z : Int) != (pop z : Int) - 1) = false := by
                have := hin.2
                rw [bne_eq_false_iff_eq]
                omega
              have e9' : (rk l z : Int) = (pop z : Int) - 1 := by
                have := hin.2
                omega
              clear hin
              go_wp2_with fail
              refine region_later (by kernel_rfl) (by kernel_rfl) ?_
              repeat (go_big_quiet_step ((go_at_call 42; refine (Size_any _ _ (by assumption)).mono ?_; rintro e w' ⟨rfl, hb⟩; exact ⟨rfl, Later.on _ hb⟩)))
              refine wpQuiet_nil ?_
              intro w10 hw'
              obtain ⟨⟨y10, hb10⟩, hw''⟩ := hw'
              dsimp only at hw''
              subst hw''
              have B10 := hid (hn9.trans (hb10.mono hn9.size))
              clear hb10 rz
              go_wp2_with fail
              go_roundw
              case rel => exact ⟨k + 1, by omega, by go_num, B10.out⟩
              case measure => simp [intOf]; omega
            · go_wp2_with fail
              go_ret
              exact ⟨ret_bool (by simp), B8.out.trans (hn9.mono B8.out.size)⟩
      · refine (Closure_arg m t _ l _ hm hfam hbas (HM.out _ B4.out) ht).mono ?_
        rintro e w5 ⟨rfl, hb5⟩
        have B5 := hid (B4.out.trans (hb5.mono B4.out.size))
        clear hb5
        go_wp2_with fail
        all_goals go_ret
        all_goals exact ⟨ret_bool (by simp), B5.out⟩
    · refine (Closure_arg m s _ l _ hm hfam hbas (HM.out _ B3.out) hs).mono ?_
      rintro e w4 ⟨rfl, hb4⟩
      have X4 := hid (box_back X3.out hb4 (by omega))
      have B4 := hid (B3.out.trans (hb4.mono B3.out.size))
      have S4 : w.heap.size + 1 ≤ w4.heap.size := Nat.le_trans S3 hb4.size
      clear hb4 x0 x1 X3
      obtain ⟨x0, x1⟩ := X4.out
      go_wp2_with fail
      have CT : ∃ q : Int, ∃ e : Int, Hid (∀ w', Below w.heap.size w w' → Calls Try.prog 23 #[.agg #[.int .i64 m, .slice a (N l).length cap], .int .i64 t] w' fun e' w'' => e' = .returned (.tuple #[.int .i64 q, .int .i64 e]) ∧ Below w'.heap.size w' w'') := by
        rcases setR_01 m t with ht | ht
        · obtain ⟨t', rfl, ht'⟩ := setR_of ht
          exact ⟨_, _, fun w' hb => Closure_ok m t' _ l _ hm hfam hbas (HM.out _ hb) ht'⟩
        · exact ⟨_, _, fun w' hb => Closure_arg m t _ l _ hm hfam hbas (HM.out _ hb) ht⟩
      obtain ⟨q, e, CT⟩ := CT
      refine (CT.out _ B4.out).mono ?_
      rintro e w5 ⟨rfl, hb5⟩
      have B5 := hid (B4.out.trans (hb5.mono B4.out.size))
      clear hb5
      go_wp2_with fail
      go_ret
      exact ⟨ret_bool (by simp), B5.out⟩
  · have HC := hid hc
    refine (Ranks_bad n _ zs _ (HI.out.below B2.out) hc).mono ?_
    rintro e w3 ⟨rfl, hb3⟩
    have B3 := hid (B2.out.trans (hb3.mono B2.out.size))
    clear hb3
    generalize chkR n zs = q at *
    have hq : (q == 0) = false := by rw [beq_eq_false_iff_ne]; exact hc
    clear hc
    go_wp2_with fail
    go_ret
    exact ⟨ret_bool (by simp), B3.out⟩
end Go.Proofs.Ythbcnolpjcppoaa
