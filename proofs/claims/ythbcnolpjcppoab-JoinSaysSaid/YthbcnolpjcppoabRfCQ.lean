/- rotaref.Covered. -/
import Derived.Test.YthbcnolpjcppoabRfNQ
import Derived.Test.YthbcnolpjcppoabTkAQ
import Derived.Deep.RegionHeld3
import Derived.Test.YthbcnolpjcppoabQBelW
namespace Go.Proofs.Ythbcnolpjcppoab
open Go.RowKit

theorem held_of_any {P : Program} {md : Region.Mode} {ops : Array Oper} {Q : Exit → Act → World → Prop} : ∀ (fuel : Nat) (listed : Array Bool) (a : Act) (w : World), wpAny P md ops Q fuel listed a w → wpAnyH P md ops Q (fun _ => True) fuel listed a w
  | 0, _, _, _, h => h
  | fuel + 1, _, _, _, h => ⟨h.1, fun i hi => wpOp_mono (fun a' w' h' => ⟨trivial, held_of_any fuel _ a' w' h'⟩) (h.2 i hi)⟩
set_option maxRecDepth 20000 in
set_option maxHeartbeats 4000000 in
theorem Covered_ok (m : Nat) (v : Value) (l : List Nat) (w : World) (hm : m ≤ 8) (hf : Fam m l) (hb : Bas l) (h : Ints w v (N l)) (hl : NoLoop m (rk l)) :
    Calls Try.prog 32 #[.agg #[.int .i64 m, v]] w fun e w' => ∃ u, e = .returned (.tuple #[u, .bool true]) ∧ Own w.heap.size w' u (covL m (rk l)) ∧ Below w.heap.size w w' := by
  obtain ⟨i0, hi, hz0, hz1, hz2⟩ := info_parts Try.infoInt
  have HB0 := hid (below_box w #[.int .i64 m, v])
  have hr := hb.rkOn m
  have N1 := hid (fun (w' : World) (hb' : Below w.heap.size w w') => Needs_ok m v l w' hm hf hb (h.below hb'))
  have R1 := hid (fun (w' : World) (hb' : Below w.heap.size w w') => Ranks_ref m v l w' hm (hf.lt256 hm) (h.below hb'))
  have HCV := hid ((ned_full hm hr).2 hl)
  have AL := hid (fun w' => All_nat m w' hm)
  have hfull := full_lt m
  obtain ⟨T, HT, hT2, hT1⟩ : ∃ T : Nat, Hid (2 ^ m = T) ∧ T ≤ 256 ∧ 1 ≤ T := ⟨2 ^ m, Eq.refl (2 ^ m), (pow_wrap _ hm).2, Nat.one_le_two_pow⟩
  rw [HT.out] at N1 R1 AL hfull HCV
  obtain ⟨a, cap, hv, -, -⟩ := h.nats
  subst hv
  go_enter Try.func32, Try.ntmps32
  go_wp2_with fail
  have x0 : (w.alloc (.cells #[.int .i64 m, .slice a l.length cap] 24)).cell? ⟨w.heap.size, 0, none⟩ = some (.int .i64 m) := by rw [World.cell?_alloc_at _ _ _ _ rfl]; rfl
  have x1 : (w.alloc (.cells #[.int .i64 m, .slice a l.length cap] 24)).cell? ⟨w.heap.size, 1, none⟩ = some (.slice a l.length cap) := by rw [World.cell?_alloc_at _ _ _ _ rfl]; rfl
  have hs0 : w.heap.size < (w.alloc (.cells #[.int .i64 m, .slice a l.length cap] 24)).heap.size := by simp
  revert x0 x1 hs0 HB0
  generalize w.alloc (.cells #[.int .i64 m, .slice a l.length cap] 24) = W0
  intro HB0 x0 x1 hs0
  have N2 := hid (N1.out W0.drew HB0.out.drew)
  go_region_held3 (fun w' => w'.cell? ⟨w.heap.size, 0, none⟩ = some (.int .i64 m) ∧ w'.cell? ⟨w.heap.size, 1, none⟩ = some (.slice a l.length cap)) (go_keep)
    (first
      | (go_at_call 79; refine N2.out.mono ?_; rintro e w1 ⟨u, rfl, hu, hb1⟩; have HU := hid hu; obtain ⟨ub, uoff, ucap, rfl, -, -⟩ := hu; have HB1 := hid ((Below.refl W0.heap.size W0).drew.trans hb1); have y0 := (HB1.out.cell (p := ⟨w.heap.size, 0, none⟩) hs0).trans x0; have y1 := (HB1.out.cell (p := ⟨w.heap.size, 1, none⟩) hs0).trans x1; clear hb1)
      | (go_at_call 74; refine (R1.out _ (HB0.out.trans (HB1.out.mono HB0.out.size))).mono ?_; rintro e w2 ⟨r2, rfl, hr2, hb2⟩; have HR2 := hid hr2; obtain ⟨rb, roff, rcap, rfl, -, -⟩ := hr2; have HU2 := hid (HU.out.below hb2); have HB2 := hid (HB1.out.trans (hb2.mono HB1.out.size)); have z0 := (HB2.out.cell (p := ⟨w.heap.size, 0, none⟩) hs0).trans x0; have z1 := (HB2.out.cell (p := ⟨w.heap.size, 1, none⟩) hs0).trans x1; clear hb2 HU))
  have HBW := hid (HB0.out.trans (HB2.out.mono HB0.out.size))
  have hsW := HBW.out.size
  go_wp2_with fail
  refine (AL.out _).mono ?_
  rintro e w' ⟨rfl, h1⟩
  obtain rfl := h1.symm
  clear h1
  obtain ⟨_, _, _, e', hub, huc⟩ := HU2.out
  obtain ⟨⟨rfl, rfl⟩, rfl⟩ : (ub = _ ∧ uoff = _) ∧ ucap = _ := by simpa using e'
  have hcv0 : ¬ nedZ (rk l) (T - 1) < 0 := by rw [HCV.out (T - 1) hfull]; omega
  have hcv1 : decide (nedZ (rk l) (T - 1) < 0) = false := decide_eq_false hcv0
  have cF := huc (T - 1) hfull
  have hfT : ((T - 1 : Nat) : Int) < (T : Int) := by omega
  have hfT2 : (T : Int) - 1 = ((T - 1 : Nat) : Int) := by omega
  go_wp2_with fail
  go_loopw [6, 7] (fun i u wr => ∃ (k : Nat) (acc : List Nat), k < T ∧ i = .int .i64 k ∧ pop k + acc.length ≤ 8 ∧ Hid (Own w2.heap.size wr u acc) ∧ Hid (covL m (rk l) = acc ++ takeF (cvF (rk l)) (9 - acc.length) k) ∧ Hid (Below w2.heap.size w2 wr)) (fun i _ _ => (intOf i).toNat)
  case atStart => exact ⟨T - 1, [], by omega, rfl, by have := pop_le (T - 1) (by omega); simp; omega, Own.nil _ _, by show _ = _; rw [← HT.out]; rfl, Below.refl _ _⟩
  case round =>
    obtain ⟨k, acc, hkT, rfl, hpa, HO, HP, HW⟩ := hrel
    have hkk : k < 256 := by omega
    obtain ⟨ra, rc, hro⟩ := ownsRow_form' HO.out
    subst hro
    have hal : acc.length ≤ 8 := by omega
    by_cases hk0 : k = 0
    · subst hk0
      have HE : Hid (covL m (rk l) = acc) := by
        show _ = _
        rw [HP.out, show 9 - acc.length = (8 - acc.length) + 1 by omega, takeF, if_pos (cvF_zero _), List.append_nil]
      have HBF := hid (HBW.out.trans (HW.out.mono hsW))
      go_wp2_with fail
      go_ret2
      exact ⟨.slice ra acc.length rc, rfl, by rw [HE.out]; exact HO.out.mono hsW, HBF.out⟩
    · have hkm : k < 2 ^ m := by rw [HT.out]; exact hkT
      obtain ⟨f1, f2, f3⟩ := cvF_spec hm hr hl hkm hk0
      have hfne := cvF_ne hm hr hl hkm hk0
      obtain ⟨f4, f5, f6⟩ := (cand_iff hk0).1 f1
      have hfle := subB_le f5
      have HF3 := hid f3
      have hkp : (0 : Int) < (k : Int) := by omega
      obtain ⟨d, hd⟩ : ∃ d, 9 - acc.length = d + 1 := ⟨8 - acc.length, by omega⟩
      rw [hd, takeF, if_neg hfne] at HP
      have HD := hid hd
      have HU3 := hid (HU2.out.below HW.out)
      have HR3 := hid (HR2.out.below HW.out)
      clear hd
      have hkd : decide (0 < k) = true := decide_eq_true (by omega)
      have hkd' : decide ((0 : Int) < (k : Int)) = true := decide_eq_true hkp
      go_wp2_with fail
      clear hkd hkd'
      go_loopw [6, 7, 8] (fun s6 s7 i w3 => ∃ j : Nat, 1 ≤ j ∧ j ≤ cvF (rk l) k ∧ i = .int .i64 j ∧ s6 = .int .i64 k ∧ s7 = .slice ra acc.length rc ∧ Hid (Below wr.heap.size wr w3)) (fun _ _ i _ => k + 1 - (intOf i).toNat)
      case atStart => exact ⟨1, Nat.le_refl _, by omega, rfl, rfl, rfl, Below.refl _ _⟩
      case round =>
        rename World => w3
        obtain ⟨j, hj1, hjF, rfl, rfl, rfl, JB⟩ := hrel
        have hj8 : j < 256 := by omega
        have hmeas : k + 1 - ((j : Int) + 1).toNat < k + 1 - (j : Int).toNat := by omega
        have jT : j < T := by omega
        have hji : (j : Int) ≤ (k : Int) := by omega
        have jTi : (j : Int) < (T : Int) := by omega
        have kTi : (k : Int) < (T : Int) := by omega
        have WI := hid (fun w' => Within_any j k w' hj8 hkk)
        have SK := hid (fun w' => Size_any j w' hj8)
        have IN := hid (fun w' => In_any j (tz k) w' hj8 (tz_lt k hkk (by omega)))
        have hrl : rb < w3.heap.size := by
          obtain ⟨b', _, _, e, h1, _⟩ := HR3.out.below JB.out
          obtain ⟨⟨rfl, _⟩, _⟩ : (rb = b' ∧ roff = _) ∧ rcap = _ := by simpa using e
          exact h1
        have hul : ub < w3.heap.size := by
          obtain ⟨b', _, _, e, h1, _⟩ := HU3.out.below JB.out
          obtain ⟨⟨rfl, _⟩, _⟩ : (ub = b' ∧ uoff = _) ∧ ucap = _ := by simpa using e
          exact h1
        have cu : ∀ i, i < T → w3.cell? ⟨ub, uoff + i, none⟩ = some (.int .i64 (cvN (rk l) i : Nat)) := fun i hi => by
          obtain ⟨b', o', c', e, _, h2⟩ := HU3.out.below JB.out
          obtain ⟨⟨rfl, rfl⟩, rfl⟩ : (ub = b' ∧ uoff = o') ∧ ucap = c' := by simpa using e
          rw [h2 i hi, HCV.out i hi]
        have hdl : dif k j < T := Nat.lt_of_le_of_lt (subB_le (dif_subl k j)) hkT
        have s1 : w3.cell? ⟨rb, roff + j, none⟩ = some (.int .i64 (rk l j : Nat)) := (HR3.out.below JB.out).at jT
        have s2 := cu (dif k j) hdl
        have s3 := cu k hkT
        have EL : Hid (Calls Try.prog 50 #[.int .i64 k] w3.drew fun e w5 => ∃ ge ce, e = .returned (.slice (some ⟨ge, 0, none⟩) (els k).length ce) ∧ w5.cell? ⟨ge, 0, none⟩ = some (.int .i64 (tz k : Nat)) ∧ Below w3.drew.heap.size w3.drew w5) := by
          refine (Elements_any k w3.drew hkk).mono ?_
          rintro e w5 ⟨r5, rfl, ho5, hb5⟩
          have hne : els k ≠ [] := by rw [els_step k hkk (by omega)]; simp
          obtain ⟨g, cp, hv⟩ := Go.Joins.ownsRow_form ho5 (by
            have := List.length_pos_iff.2 hne
            simp
            omega)
          subst hv
          have h1 := World.ownsRow.cellAt ho5 0 (by have := List.length_pos_iff.2 hne; simp; omega)
          refine ⟨g, cp, by simp, ?_, hb5⟩
          rw [h1]
          rw [els_step k hkk (by omega)]
          rfl
        have hel : (0 : Int) < ((els k).length : Int) := by
          rw [els_step k hkk (by omega)]
          simp
        have c8 : cvN (rk l) k ≤ 8 ∧ cvN (rk l) (dif k j) ≤ 8 := by
          have h1 := (cvN_spec hm hr hl hkm).2.2
          have h2 := (cvN_spec hm hr hl (s := dif k j) (by rw [HT.out]; exact hdl)).2.2
          have h3 := pop_le k hkk
          have h4 := pop_le (dif k j) (by omega)
          omega
        have r8 := rk_le8 l (hf.lt256 hm) j
        have p8 := pop_le j hj8
        clear cu
        generalize (els k).length = n8 at *
        by_cases b1 : subB j k = true
        · rw [b1] at WI
          obtain ⟨e1, _⟩ := sub_dif k hkk j hj8 b1
          have hsub' : (k : Int) - (j : Int) = ((dif k j : Nat) : Int) := by omega
          have hdi : ((dif k j : Nat) : Int) < (T : Int) := by omega
          have hdi0 : (0 : Int) ≤ ((dif k j : Nat) : Int) := by omega
          have hsw : IntKind.i64.wrap ((k : Int) - (j : Int)) = ((dif k j : Nat) : Int) := by rw [hsub']; exact wrap_i64_nat _ (by omega)
          have hsw3 : IntKind.i64.wrap ((dif k j : Nat) : Int) = ((dif k j : Nat) : Int) := wrap_i64_nat _ (by omega)
          have hsw4 : wrap64 ((dif k j : Nat) : Int) = ((dif k j : Nat) : Int) := by rw [← IntWalk.i64_left]; exact hsw3
          have hsw2 : wrap64 ((k : Int) - (j : Int)) = ((dif k j : Nat) : Int) := by rw [← IntWalk.i64_left]; exact hsw
          have hcw : IntKind.i64.wrap ((cvN (rk l) k : Int) - 1) = (cvN (rk l) k : Int) - 1 := by
            have h1 : 1 ≤ cvN (rk l) k := by omega
            rw [show (cvN (rk l) k : Int) - 1 = ((cvN (rk l) k - 1 : Nat) : Int) by omega]
            exact wrap_i64_nat _ (by omega)
          have hcw2 : wrap64 ((cvN (rk l) k : Int) - 1) = (cvN (rk l) k : Int) - 1 := by rw [← IntWalk.i64_left]; exact hcw
          by_cases b2 : j.testBit (tz k) = true
          · rw [b2] at IN
            by_cases b3 : rk l j = pop j
            · by_cases b4 : cvN (rk l) (dif k j) + 1 = cvN (rk l) k
              · have hje : j = cvF (rk l) k := by
                  have := HF3.out j ((cand_iff hk0).2 ⟨b2, b1, b3⟩) b4
                  omega
                have HJE := hid hje
                obtain ⟨l1, l2⟩ := dif_less hkk b1 (by omega : j ≠ 0)
                clear hje
                rw [b3] at s1
                have hq4 : ((cvN (rk l) (dif k j) : Int) == (cvN (rk l) k : Int) - 1) = true := by rw [beq_iff_eq]; omega
                have hq5 : (cvN (rk l) (dif k j) : Int) = (cvN (rk l) k : Int) - 1 := by omega
                try clear HF3
                try clear f1
                try clear f2
                try clear f3
                try clear f4
                try clear f5
                try clear f6
                try clear HU2
                try clear HU3
                try clear HR2
                try clear HR3
                try clear HBW
                try clear HCV
                try clear AL
                try clear HB0
                try clear HB2
                try clear hfne
                try clear b1
                try clear b2
                try clear b3
                try clear b4
                try clear cF
                try clear huc
                try clear hcv0
                try clear hcv1
                try clear z0
                try clear z1
                try clear x0
                try clear x1
                try clear y0
                try clear y1
                try clear N1
                try clear R1
                try clear N2
                try clear HT
                try clear hub
                try clear hfT
                try clear hfT2
                try clear hr
                try clear hl
                try clear hf
                try clear hb
                try clear h
                go_wp2_with fail
                refine wp_region_noPanic ?_
                refine wp_region_held_drew (S := fun _ => True) (by kernel_rfl) trivial (fun _ => ?_)
                refine wpAnyH_take (i := 0) (v := .int .i64 j) rfl (by kernel_rfl) (by kernel_rfl) (by kernel_rfl) (fun _ _ _ h => h) (Or.inl ⟨by rfl, fun w _ => by go_simp⟩) trivial ?_
                refine wpAnyH_take (i := 1) (v := .int .i64 k) rfl (by kernel_rfl) (by kernel_rfl) (by kernel_rfl) (fun _ _ _ h => h) (Or.inl ⟨by rfl, fun w _ => by go_simp⟩) trivial ?_
                refine wpAnyH_ready (rs := [2]) (by kernel_rfl) (by simp) ?_
                refine AllReadyH.cons rfl (fun K hK => ?_) AllReadyH.nil
                go_simp
                refine (WI.out _).mono ?_
                rintro e w' ⟨rfl, h1⟩
                obtain rfl := h1.symm
                refine hK.out _ _ trivial (fun _ => ?_)
                clear hK K h1
                refine wpAnyH_take (i := 3) (v := .bool true) rfl (by kernel_rfl) (by kernel_rfl) (by kernel_rfl) (fun _ _ _ h => h) (Or.inl ⟨by rfl, fun w _ => by go_simp⟩) trivial ?_
                refine wpAnyH_take (i := 4) (v := .int .i64 j) rfl (by kernel_rfl) (by kernel_rfl) (by kernel_rfl) (fun _ _ _ h => h) (Or.inl ⟨by rfl, fun w _ => by go_simp⟩) trivial ?_
                refine wpAnyH_take (i := 5) (v := .int .i64 k) rfl (by kernel_rfl) (by kernel_rfl) (by kernel_rfl) (fun _ _ _ h => h) (Or.inl ⟨by rfl, fun w _ => by go_simp⟩) trivial ?_
                refine wpAnyH_ready (rs := [6]) (by kernel_rfl) (by simp) ?_
                refine AllReadyH.cons rfl (fun K hK => ?_) AllReadyH.nil
                go_simp
                refine EL.out.mono ?_
                rintro e w5 ⟨ge, ce, rfl, hce, hb5⟩
                have HB5 := hid ((Below.refl w3.heap.size w3).drew.trans hb5)
                have cE : ∀ x : Later w5, x.now.cell? ⟨ge, 0, none⟩ = some (.int .i64 (tz k : Nat)) := fun x => (x.kept.cell (p := ⟨ge, 0, none⟩) (World.block_lt_of_cell? w5 _ hce)).trans hce
                have cR : ∀ x : Later w5, x.now.cell? ⟨rb, roff + j, none⟩ = some (.int .i64 (pop j : Nat)) := fun x => ((HB5.out.trans (x.kept.mono HB5.out.size)).cell (p := ⟨rb, roff + j, none⟩) hrl).trans s1
                have cD : ∀ x : Later w5, x.now.cell? ⟨ub, uoff + dif k j, none⟩ = some (.int .i64 (cvN (rk l) (dif k j) : Nat)) := fun x => ((HB5.out.trans (x.kept.mono HB5.out.size)).cell (p := ⟨ub, uoff + dif k j, none⟩) hul).trans s2
                have cK : ∀ x : Later w5, x.now.cell? ⟨ub, uoff + k, none⟩ = some (.int .i64 (cvN (rk l) k : Nat)) := fun x => ((HB5.out.trans (x.kept.mono HB5.out.size)).cell (p := ⟨ub, uoff + k, none⟩) hul).trans s3
                refine hK.out _ _ trivial (fun _ => ?_)
                clear hK K hb5 hce
                refine held_of_any _ _ _ _ ?_
                refine wpAny_of_quiet (C := fun w' => ∃ x : Later w5, w' = x.now) (Q := fun a' => ∀ w', (∃ x : Later w5, w' = x.now) → NoPanic _ .normal a' w') (fun a w hw h => h w hw) _ _ _ _ ⟨⟨w5, Below.refl _ _⟩, rfl⟩ ?_
                refine wpAnyQ_lex (by kernel_rfl) (List.drop 7 (Array.toList _)) 7 _ _ (fun j => by rw [List.getElem?_drop, Array.getElem?_toList]) (by kernel_rfl) ?_
                simp only [List.drop_succ_cons, List.drop_zero]
                repeat (go_big_quiet_step ((first
                  | (go_at_call 69; refine (IN.out _).mono ?_; rintro e w' ⟨rfl, rfl⟩; exact ⟨rfl, Later.on _ (Below.refl _ _)⟩)
                  | (go_at_call 12; refine (SK.out _).mono ?_; rintro e w' ⟨rfl, hb9⟩; exact ⟨rfl, Later.on _ hb9⟩))))
                refine wpQuiet_nil ?_
                intro w6 hw'
                obtain ⟨⟨y6, hb6⟩, hw''⟩ := hw'
                dsimp only at hw''
                subst hw''
                have HB6 := hid (HB5.out.trans (hb6.mono HB5.out.size))
                clear hb6 cE cR cD cK
                refine NoPanic.normal ?_
                have hb36 := JB.out.trans (HB6.out.mono JB.out.size)
                have HOw := hid (HO.out.below hb36)
                have HW6 := hid (HW.out.trans (hb36.mono HW.out.size))
                have hs6 := HW6.out.size
                clear hb36 s1 s2 s3 hq4 hq5 EL WI SK IN
                go_wp2_with (at_builtin; refine wpList_append_own _ rfl _ _ 22 rfl w2.heap.size 3 i0 (.int .i64 0) 1 8 Try.underlying22 hi hz0 hz1 hz2 rfl (by decide) _ _ _ rfl (HOw.out.alloc _) ⟨w6.heap.size, 0, none⟩ 1 1 [.int .i64 (j : Nat)] rfl rfl ?c1 ?c2 ?c3 ?c4 ?c5 ?_)
                case c1 => exact cell_one_new _ _ _
                case c2 => intro u hu; simp at hu; subst hu; rfl
                case c3 => unfold maxLen; omega
                case c4 => omega
                case c5 => simp; omega
                intro v' w4 hown' hgrow _
                have G3 := hid (Own.snoc hown')
                have G4 := hid (Own.grown HOw.out HW6.out hs6 hgrow)
                clear hown' hgrow
                go_wp2_with fail
                refine ⟨⟨dif k j, acc ++ [j], by omega, rfl, by simp; omega, G3, ?_, G4⟩, by simp [intOf]; omega⟩
                show _ = _
                rw [HP.out, ← HJE.out]
                have hd := HD.out
                rw [show 9 - (acc ++ [j]).length = d by simp; omega]
                simp
              · have hje : j ≠ cvF (rk l) k := fun e => b4 (by rw [e]; exact f2)
                have hjl : j < cvF (rk l) k := Nat.lt_of_le_of_ne hjF hje
                rw [b3] at s1
                have hq4 : ((cvN (rk l) (dif k j) : Int) == (cvN (rk l) k : Int) - 1) = false := by rw [beq_eq_false_iff_ne]; omega
                have hq5 : ¬ (cvN (rk l) (dif k j) : Int) = (cvN (rk l) k : Int) - 1 := by omega
                try clear HF3
                try clear f1
                try clear f2
                try clear f3
                try clear f4
                try clear f5
                try clear f6
                try clear HU2
                try clear HU3
                try clear HR2
                try clear HR3
                try clear HBW
                try clear HCV
                try clear AL
                try clear HB0
                try clear HB2
                try clear hfne
                try clear b1
                try clear b2
                try clear b3
                try clear b4
                try clear cF
                try clear huc
                try clear hcv0
                try clear hcv1
                try clear z0
                try clear z1
                try clear x0
                try clear x1
                try clear y0
                try clear y1
                try clear N1
                try clear R1
                try clear N2
                try clear HT
                try clear hub
                try clear hfT
                try clear hfT2
                try clear hr
                try clear hl
                try clear hf
                try clear hb
                try clear h
                go_wp2_with fail
                refine wp_region_noPanic ?_
                refine wp_region_held_drew (S := fun _ => True) (by kernel_rfl) trivial (fun _ => ?_)
                refine wpAnyH_take (i := 0) (v := .int .i64 j) rfl (by kernel_rfl) (by kernel_rfl) (by kernel_rfl) (fun _ _ _ h => h) (Or.inl ⟨by rfl, fun w _ => by go_simp⟩) trivial ?_
                refine wpAnyH_take (i := 1) (v := .int .i64 k) rfl (by kernel_rfl) (by kernel_rfl) (by kernel_rfl) (fun _ _ _ h => h) (Or.inl ⟨by rfl, fun w _ => by go_simp⟩) trivial ?_
                refine wpAnyH_ready (rs := [2]) (by kernel_rfl) (by simp) ?_
                refine AllReadyH.cons rfl (fun K hK => ?_) AllReadyH.nil
                go_simp
                refine (WI.out _).mono ?_
                rintro e w' ⟨rfl, h1⟩
                obtain rfl := h1.symm
                refine hK.out _ _ trivial (fun _ => ?_)
                clear hK K h1
                refine wpAnyH_take (i := 3) (v := .bool true) rfl (by kernel_rfl) (by kernel_rfl) (by kernel_rfl) (fun _ _ _ h => h) (Or.inl ⟨by rfl, fun w _ => by go_simp⟩) trivial ?_
                refine wpAnyH_take (i := 4) (v := .int .i64 j) rfl (by kernel_rfl) (by kernel_rfl) (by kernel_rfl) (fun _ _ _ h => h) (Or.inl ⟨by rfl, fun w _ => by go_simp⟩) trivial ?_
                refine wpAnyH_take (i := 5) (v := .int .i64 k) rfl (by kernel_rfl) (by kernel_rfl) (by kernel_rfl) (fun _ _ _ h => h) (Or.inl ⟨by rfl, fun w _ => by go_simp⟩) trivial ?_
                refine wpAnyH_ready (rs := [6]) (by kernel_rfl) (by simp) ?_
                refine AllReadyH.cons rfl (fun K hK => ?_) AllReadyH.nil
                go_simp
                refine EL.out.mono ?_
                rintro e w5 ⟨ge, ce, rfl, hce, hb5⟩
                have HB5 := hid ((Below.refl w3.heap.size w3).drew.trans hb5)
                have cE : ∀ x : Later w5, x.now.cell? ⟨ge, 0, none⟩ = some (.int .i64 (tz k : Nat)) := fun x => (x.kept.cell (p := ⟨ge, 0, none⟩) (World.block_lt_of_cell? w5 _ hce)).trans hce
                have cR : ∀ x : Later w5, x.now.cell? ⟨rb, roff + j, none⟩ = some (.int .i64 (pop j : Nat)) := fun x => ((HB5.out.trans (x.kept.mono HB5.out.size)).cell (p := ⟨rb, roff + j, none⟩) hrl).trans s1
                have cD : ∀ x : Later w5, x.now.cell? ⟨ub, uoff + dif k j, none⟩ = some (.int .i64 (cvN (rk l) (dif k j) : Nat)) := fun x => ((HB5.out.trans (x.kept.mono HB5.out.size)).cell (p := ⟨ub, uoff + dif k j, none⟩) hul).trans s2
                have cK : ∀ x : Later w5, x.now.cell? ⟨ub, uoff + k, none⟩ = some (.int .i64 (cvN (rk l) k : Nat)) := fun x => ((HB5.out.trans (x.kept.mono HB5.out.size)).cell (p := ⟨ub, uoff + k, none⟩) hul).trans s3
                refine hK.out _ _ trivial (fun _ => ?_)
                clear hK K hb5 hce
                refine held_of_any _ _ _ _ ?_
                refine wpAny_of_quiet (C := fun w' => ∃ x : Later w5, w' = x.now) (Q := fun a' => ∀ w', (∃ x : Later w5, w' = x.now) → NoPanic _ .normal a' w') (fun a w hw h => h w hw) _ _ _ _ ⟨⟨w5, Below.refl _ _⟩, rfl⟩ ?_
                refine wpAnyQ_lex (by kernel_rfl) (List.drop 7 (Array.toList _)) 7 _ _ (fun j => by rw [List.getElem?_drop, Array.getElem?_toList]) (by kernel_rfl) ?_
                simp only [List.drop_succ_cons, List.drop_zero]
                repeat (go_big_quiet_step ((first
                  | (go_at_call 69; refine (IN.out _).mono ?_; rintro e w' ⟨rfl, rfl⟩; exact ⟨rfl, Later.on _ (Below.refl _ _)⟩)
                  | (go_at_call 12; refine (SK.out _).mono ?_; rintro e w' ⟨rfl, hb9⟩; exact ⟨rfl, Later.on _ hb9⟩))))
                refine wpQuiet_nil ?_
                intro w6 hw'
                obtain ⟨⟨y6, hb6⟩, hw''⟩ := hw'
                dsimp only at hw''
                subst hw''
                have HB6 := hid (HB5.out.trans (hb6.mono HB5.out.size))
                clear hb6 cE cR cD cK
                refine NoPanic.normal ?_
                go_wp2_with fail
                go_roundw
                case rel => exact ⟨j + 1, by omega, by omega, by go_num, rfl, rfl, JB.out.trans (HB6.out.mono JB.out.size)⟩
                case measure => exact hmeas
            · have hje : j ≠ cvF (rk l) k := fun e => b3 (by rw [e]; exact f6)
              have hjl : j < cvF (rk l) k := Nat.lt_of_le_of_ne hjF hje
              have hq3 : ((rk l j : Int) == (pop j : Int)) = false := by rw [beq_eq_false_iff_ne]; omega
              have hq3' : ¬ (rk l j : Int) = (pop j : Int) := by omega
              try clear HF3
              try clear f1
              try clear f2
              try clear f3
              try clear f4
              try clear f5
              try clear f6
              try clear HU2
              try clear HU3
              try clear HR2
              try clear HR3
              try clear HBW
              try clear HCV
              try clear AL
              try clear HB0
              try clear HB2
              try clear hfne
              try clear b1
              try clear b2
              try clear b3
              try clear b4
              try clear cF
              try clear huc
              try clear hcv0
              try clear hcv1
              try clear z0
              try clear z1
              try clear x0
              try clear x1
              try clear y0
              try clear y1
              try clear N1
              try clear R1
              try clear N2
              try clear HT
              try clear hub
              try clear hfT
              try clear hfT2
              try clear hr
              try clear hl
              try clear hf
              try clear hb
              try clear h
              go_wp2_with fail
              refine wp_region_noPanic ?_
              refine wp_region_held_drew (S := fun _ => True) (by kernel_rfl) trivial (fun _ => ?_)
              refine wpAnyH_take (i := 0) (v := .int .i64 j) rfl (by kernel_rfl) (by kernel_rfl) (by kernel_rfl) (fun _ _ _ h => h) (Or.inl ⟨by rfl, fun w _ => by go_simp⟩) trivial ?_
              refine wpAnyH_take (i := 1) (v := .int .i64 k) rfl (by kernel_rfl) (by kernel_rfl) (by kernel_rfl) (fun _ _ _ h => h) (Or.inl ⟨by rfl, fun w _ => by go_simp⟩) trivial ?_
              refine wpAnyH_ready (rs := [2]) (by kernel_rfl) (by simp) ?_
              refine AllReadyH.cons rfl (fun K hK => ?_) AllReadyH.nil
              go_simp
              refine (WI.out _).mono ?_
              rintro e w' ⟨rfl, h1⟩
              obtain rfl := h1.symm
              refine hK.out _ _ trivial (fun _ => ?_)
              clear hK K h1
              refine wpAnyH_take (i := 3) (v := .bool true) rfl (by kernel_rfl) (by kernel_rfl) (by kernel_rfl) (fun _ _ _ h => h) (Or.inl ⟨by rfl, fun w _ => by go_simp⟩) trivial ?_
              refine wpAnyH_take (i := 4) (v := .int .i64 j) rfl (by kernel_rfl) (by kernel_rfl) (by kernel_rfl) (fun _ _ _ h => h) (Or.inl ⟨by rfl, fun w _ => by go_simp⟩) trivial ?_
              refine wpAnyH_take (i := 5) (v := .int .i64 k) rfl (by kernel_rfl) (by kernel_rfl) (by kernel_rfl) (fun _ _ _ h => h) (Or.inl ⟨by rfl, fun w _ => by go_simp⟩) trivial ?_
              refine wpAnyH_ready (rs := [6]) (by kernel_rfl) (by simp) ?_
              refine AllReadyH.cons rfl (fun K hK => ?_) AllReadyH.nil
              go_simp
              refine EL.out.mono ?_
              rintro e w5 ⟨ge, ce, rfl, hce, hb5⟩
              have HB5 := hid ((Below.refl w3.heap.size w3).drew.trans hb5)
              have cE : ∀ x : Later w5, x.now.cell? ⟨ge, 0, none⟩ = some (.int .i64 (tz k : Nat)) := fun x => (x.kept.cell (p := ⟨ge, 0, none⟩) (World.block_lt_of_cell? w5 _ hce)).trans hce
              have cR : ∀ x : Later w5, x.now.cell? ⟨rb, roff + j, none⟩ = some (.int .i64 (rk l j : Nat)) := fun x => ((HB5.out.trans (x.kept.mono HB5.out.size)).cell (p := ⟨rb, roff + j, none⟩) hrl).trans s1
              have cD : ∀ x : Later w5, x.now.cell? ⟨ub, uoff + dif k j, none⟩ = some (.int .i64 (cvN (rk l) (dif k j) : Nat)) := fun x => ((HB5.out.trans (x.kept.mono HB5.out.size)).cell (p := ⟨ub, uoff + dif k j, none⟩) hul).trans s2
              have cK : ∀ x : Later w5, x.now.cell? ⟨ub, uoff + k, none⟩ = some (.int .i64 (cvN (rk l) k : Nat)) := fun x => ((HB5.out.trans (x.kept.mono HB5.out.size)).cell (p := ⟨ub, uoff + k, none⟩) hul).trans s3
              refine hK.out _ _ trivial (fun _ => ?_)
              clear hK K hb5 hce
              refine held_of_any _ _ _ _ ?_
              refine wpAny_of_quiet (C := fun w' => ∃ x : Later w5, w' = x.now) (Q := fun a' => ∀ w', (∃ x : Later w5, w' = x.now) → NoPanic _ .normal a' w') (fun a w hw h => h w hw) _ _ _ _ ⟨⟨w5, Below.refl _ _⟩, rfl⟩ ?_
              refine wpAnyQ_lex (by kernel_rfl) (List.drop 7 (Array.toList _)) 7 _ _ (fun j => by rw [List.getElem?_drop, Array.getElem?_toList]) (by kernel_rfl) ?_
              simp only [List.drop_succ_cons, List.drop_zero]
              repeat (go_big_quiet_step ((first
                | (go_at_call 69; refine (IN.out _).mono ?_; rintro e w' ⟨rfl, rfl⟩; exact ⟨rfl, Later.on _ (Below.refl _ _)⟩)
                | (go_at_call 12; refine (SK.out _).mono ?_; rintro e w' ⟨rfl, hb9⟩; exact ⟨rfl, Later.on _ hb9⟩))))
              refine wpQuiet_nil ?_
              intro w6 hw'
              obtain ⟨⟨y6, hb6⟩, hw''⟩ := hw'
              dsimp only at hw''
              subst hw''
              have HB6 := hid (HB5.out.trans (hb6.mono HB5.out.size))
              clear hb6 cE cR cD cK
              refine NoPanic.normal ?_
              go_wp2_with fail
              go_roundw
              case rel => exact ⟨j + 1, by omega, by omega, by go_num, rfl, rfl, JB.out.trans (HB6.out.mono JB.out.size)⟩
              case measure => exact hmeas
          · have hje : j ≠ cvF (rk l) k := fun e => b2 (by rw [e]; exact f4)
            have hjl : j < cvF (rk l) k := Nat.lt_of_le_of_ne hjF hje
            have b2' : j.testBit (tz k) = false := by simpa using b2
            rw [b2'] at IN
            try clear HF3
            try clear f1
            try clear f2
            try clear f3
            try clear f4
            try clear f5
            try clear f6
            try clear HU2
            try clear HU3
            try clear HR2
            try clear HR3
            try clear HBW
            try clear HCV
            try clear AL
            try clear HB0
            try clear HB2
            try clear hfne
            try clear b1
            try clear b2
            try clear b3
            try clear b4
            try clear cF
            try clear huc
            try clear hcv0
            try clear hcv1
            try clear z0
            try clear z1
            try clear x0
            try clear x1
            try clear y0
            try clear y1
            try clear N1
            try clear R1
            try clear N2
            try clear HT
            try clear hub
            try clear hfT
            try clear hfT2
            try clear hr
            try clear hl
            try clear hf
            try clear hb
            try clear h
            go_wp2_with fail
            refine wp_region_noPanic ?_
            refine wp_region_held_drew (S := fun _ => True) (by kernel_rfl) trivial (fun _ => ?_)
            refine wpAnyH_take (i := 0) (v := .int .i64 j) rfl (by kernel_rfl) (by kernel_rfl) (by kernel_rfl) (fun _ _ _ h => h) (Or.inl ⟨by rfl, fun w _ => by go_simp⟩) trivial ?_
            refine wpAnyH_take (i := 1) (v := .int .i64 k) rfl (by kernel_rfl) (by kernel_rfl) (by kernel_rfl) (fun _ _ _ h => h) (Or.inl ⟨by rfl, fun w _ => by go_simp⟩) trivial ?_
            refine wpAnyH_ready (rs := [2]) (by kernel_rfl) (by simp) ?_
            refine AllReadyH.cons rfl (fun K hK => ?_) AllReadyH.nil
            go_simp
            refine (WI.out _).mono ?_
            rintro e w' ⟨rfl, h1⟩
            obtain rfl := h1.symm
            refine hK.out _ _ trivial (fun _ => ?_)
            clear hK K h1
            refine wpAnyH_take (i := 3) (v := .bool true) rfl (by kernel_rfl) (by kernel_rfl) (by kernel_rfl) (fun _ _ _ h => h) (Or.inl ⟨by rfl, fun w _ => by go_simp⟩) trivial ?_
            refine wpAnyH_take (i := 4) (v := .int .i64 j) rfl (by kernel_rfl) (by kernel_rfl) (by kernel_rfl) (fun _ _ _ h => h) (Or.inl ⟨by rfl, fun w _ => by go_simp⟩) trivial ?_
            refine wpAnyH_take (i := 5) (v := .int .i64 k) rfl (by kernel_rfl) (by kernel_rfl) (by kernel_rfl) (fun _ _ _ h => h) (Or.inl ⟨by rfl, fun w _ => by go_simp⟩) trivial ?_
            refine wpAnyH_ready (rs := [6]) (by kernel_rfl) (by simp) ?_
            refine AllReadyH.cons rfl (fun K hK => ?_) AllReadyH.nil
            go_simp
            refine EL.out.mono ?_
            rintro e w5 ⟨ge, ce, rfl, hce, hb5⟩
            have HB5 := hid ((Below.refl w3.heap.size w3).drew.trans hb5)
            have cE : ∀ x : Later w5, x.now.cell? ⟨ge, 0, none⟩ = some (.int .i64 (tz k : Nat)) := fun x => (x.kept.cell (p := ⟨ge, 0, none⟩) (World.block_lt_of_cell? w5 _ hce)).trans hce
            have cR : ∀ x : Later w5, x.now.cell? ⟨rb, roff + j, none⟩ = some (.int .i64 (rk l j : Nat)) := fun x => ((HB5.out.trans (x.kept.mono HB5.out.size)).cell (p := ⟨rb, roff + j, none⟩) hrl).trans s1
            have cD : ∀ x : Later w5, x.now.cell? ⟨ub, uoff + dif k j, none⟩ = some (.int .i64 (cvN (rk l) (dif k j) : Nat)) := fun x => ((HB5.out.trans (x.kept.mono HB5.out.size)).cell (p := ⟨ub, uoff + dif k j, none⟩) hul).trans s2
            have cK : ∀ x : Later w5, x.now.cell? ⟨ub, uoff + k, none⟩ = some (.int .i64 (cvN (rk l) k : Nat)) := fun x => ((HB5.out.trans (x.kept.mono HB5.out.size)).cell (p := ⟨ub, uoff + k, none⟩) hul).trans s3
            refine hK.out _ _ trivial (fun _ => ?_)
            clear hK K hb5 hce
            refine held_of_any _ _ _ _ ?_
            refine wpAny_of_quiet (C := fun w' => ∃ x : Later w5, w' = x.now) (Q := fun a' => ∀ w', (∃ x : Later w5, w' = x.now) → NoPanic _ .normal a' w') (fun a w hw h => h w hw) _ _ _ _ ⟨⟨w5, Below.refl _ _⟩, rfl⟩ ?_
            refine wpAnyQ_lex (by kernel_rfl) (List.drop 7 (Array.toList _)) 7 _ _ (fun j => by rw [List.getElem?_drop, Array.getElem?_toList]) (by kernel_rfl) ?_
            simp only [List.drop_succ_cons, List.drop_zero]
            repeat (go_big_quiet_step ((first
              | (go_at_call 69; refine (IN.out _).mono ?_; rintro e w' ⟨rfl, rfl⟩; exact ⟨rfl, Later.on _ (Below.refl _ _)⟩)
              | (go_at_call 12; refine (SK.out _).mono ?_; rintro e w' ⟨rfl, hb9⟩; exact ⟨rfl, Later.on _ hb9⟩))))
            refine wpQuiet_nil ?_
            intro w6 hw'
            obtain ⟨⟨y6, hb6⟩, hw''⟩ := hw'
            dsimp only at hw''
            subst hw''
            have HB6 := hid (HB5.out.trans (hb6.mono HB5.out.size))
            clear hb6 cE cR cD cK
            refine NoPanic.normal ?_
            go_wp2_with fail
            go_roundw
            case rel => exact ⟨j + 1, by omega, by omega, by go_num, rfl, rfl, JB.out.trans (HB6.out.mono JB.out.size)⟩
            case measure => exact hmeas
        · have hje : j ≠ cvF (rk l) k := fun e => b1 (by rw [e]; exact f5)
          have hjl : j < cvF (rk l) k := Nat.lt_of_le_of_ne hjF hje
          have b1' : subB j k = false := by simpa using b1
          rw [b1'] at WI
          try clear HF3
          try clear f1
          try clear f2
          try clear f3
          try clear f4
          try clear f5
          try clear f6
          try clear HU2
          try clear HU3
          try clear HR2
          try clear HR3
          try clear HBW
          try clear HCV
          try clear AL
          try clear HB0
          try clear HB2
          try clear hfne
          try clear b1
          try clear b2
          try clear b3
          try clear b4
          try clear cF
          try clear huc
          try clear hcv0
          try clear hcv1
          try clear z0
          try clear z1
          try clear x0
          try clear x1
          try clear y0
          try clear y1
          try clear N1
          try clear R1
          try clear N2
          try clear HT
          try clear hub
          try clear hfT
          try clear hfT2
          try clear hr
          try clear hl
          try clear hf
          try clear hb
          try clear h
          go_wp2_with fail
          refine region_later (by kernel_rfl) (by kernel_rfl) ?_
          repeat (go_big_quiet_step ((go_at_call 78; refine (WI.out _).mono ?_; rintro e w' ⟨rfl, rfl⟩; exact ⟨rfl, Later.on _ (Below.refl _ _)⟩)))
          refine wpQuiet_nil ?_
          intro w6 hw'
          obtain ⟨⟨y6, hb6⟩, hw''⟩ := hw'
          dsimp only at hw''
          subst hw''
          have HB6 := hid hb6
          clear hb6
          go_wp2_with fail
          go_roundw
          case rel => exact ⟨j + 1, by omega, by omega, by go_num, rfl, rfl, JB.out.trans (HB6.out.mono JB.out.size)⟩
          case measure => exact hmeas
end Go.Proofs.Ythbcnolpjcppoab
