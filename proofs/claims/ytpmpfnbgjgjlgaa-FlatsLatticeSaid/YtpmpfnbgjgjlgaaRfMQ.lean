/- rotaref.Mobius. -/
import Derived.Test.YtpmpfnbgjgjlgaaRefAxAW
import Derived.Test.YtpmpfnbgjgjlgaaFlBQ
import Derived.Test.YtpmpfnbgjgjlgaaRefAxDQ
import Derived.Test.YtpmpfnbgjgjlgaaQBelW
namespace Go.Proofs.Ytpmpfnbgjgjlgaa
open Go.RowKit

theorem map_snoc (f : Nat → Int) (k : Nat) : (List.range (k + 1)).map f = (List.range k).map f ++ [f k] := by rw [List.range_succ, List.map_append]; rfl
set_option maxRecDepth 20000 in
set_option maxHeartbeats 4000000 in
theorem Mobius_ref (m : Nat) (v : Value) (l : List Nat) (w : World) (hm : m ≤ 8) (hf : Fam m l) (hb : Bas l) (h : Ints w v (N l)) :
    Calls Try.prog 10 #[.agg #[.int .i64 m, v]] w fun e w' => ∃ u, e = .returned u ∧ OwnZ 2 w.heap.size w' u ((List.range (fltL m (rk l)).length).map (mobF (rk l) m)) ∧ Below w.heap.size w w' := by
  obtain ⟨i0, hi, hz0, hz1, hz2⟩ := info_parts Try.infoLong
  have HI := hid h
  obtain ⟨a, cap, hv, -, -⟩ := h.nats
  subst hv
  have hB0 := below_box w #[.int .i64 m, .slice a l.length cap]
  have HB0 := hid hB0
  have HC := hid (Flats_ref m _ l _ hm hb (hf.lt256 hm) (HI.out.below hB0))
  rw [flat_eq hm hb] at HC
  have HX : Hid (∀ w2, Below (w.alloc (.cells #[.int .i64 m, .slice a l.length cap] 24)).heap.size (w.alloc (.cells #[.int .i64 m, .slice a l.length cap] 24)) w2 → _) := fun w2 hb => box_cells hb
  have CLO : Hid (∀ s w2, s < 2 ^ m → Below w.heap.size w w2 → _) := fun s w2 hs hb2 => Closure_ref m s _ l w2 hm hb (hf.lt256 hm) (HI.out.below hb2) hs
  have hp := flt_pos hm hb.rk
  have HFL := hid (fun i (hi : i < (fltL m (rk l)).length) => (flt_getD (r := rk l) hi).1)
  have HF8 := hid (fun i (hi : i < (fltL m (rk l)).length) => lt256 hm (flt_getD (r := rk l) hi).1)
  have HF0 := hid (flt_zero hm hb.rk)
  have hlen : (fltL m (rk l)).length ≤ 256 := flt_len hm
  have HND : Hid (∀ i, i < (fltL m (rk l)).length → mobD (rk l) m ((fltL m (rk l)).getD i 0) ((fltL m (rk l)).getD i 0 + 1) = mobF (rk l) m i) := fun i hi => mobD_end hm (flt_getD hi).1
  have HLO : Hid (loopS (rk l) m < 256) := lt256 hm (loop_lt hm)
  have hT2 := (pow_wrap m hm).2
  have HX2 : Hid ((List.range (2 ^ m)).filter (flatB (rk l) m) = fltL m (rk l)) := rfl
  rw [HX2.out] at HC
  clear HX2 hB0 hf
  have HRK := hid hb
  clear hb
  generalize fltL m (rk l) = fs at *
  go_enter Try.func10, Try.ntmps10
  go_wp2_with fail
  refine HC.out.mono ?_
  rintro e w2 ⟨fv, rfl, hfv, hb2⟩
  obtain ⟨x0, x1⟩ := HX.out w2 hb2
  have hs2 : w.heap.size + 1 ≤ w2.heap.size := by have := hb2.size; simpa using this
  have HB2 := hid (HB0.out.trans (hb2.mono HB0.out.size))
  have HIF := hid (hfv.ints (by omega))
  obtain ⟨a', c', hv', -, hcc⟩ := HIF.out.nats
  obtain ⟨fb, fo, rfl, hfb, hcell⟩ := hcc hp
  subst hv'
  have c0 := hcell 0 hp
  rw [HF0.out] at c0
  rw [Nat.add_zero] at c0
  have hpi : (0 : Int) < (fs.length : Int) := by omega
  have HCELL := hid hcell
  clear hb2 hcell hcc hfv HC HX HIF
  go_wp2_with fail
  go_loopw [5, 6, 7, 8] (fun u i _ _ wr => ∃ k : Nat, k ≤ fs.length ∧ i = .int .i64 k ∧ Hid (OwnZ 2 w2.heap.size wr u ((List.range k).map (mobF (rk l) m))) ∧ Hid (Below w2.heap.size w2 wr)) (fun _ i _ _ _ => fs.length - (intOf i).toNat)
  case atStart => exact ⟨0, Nat.zero_le _, rfl, OwnZ.nil _ _ _, Below.refl _ _⟩
  case round =>
    obtain ⟨k, hk, rfl, HO, HW⟩ := hrel
    by_cases hlt : k < fs.length
    · go_wp2_with fail
      go_loopw [7, 8] (fun d s wr' => ∃ j : Nat, j ≤ fs.getD k 0 + 1 ∧ s = .int .i64 j ∧ d = .int .i64 (mobD (rk l) m (fs.getD k 0) j) ∧ Hid (Below wr.heap.size wr wr')) (fun _ s _ => fs.getD k 0 + 1 - (intOf s).toNat)
      case atStart => exact ⟨0, Nat.zero_le _, rfl, rfl, Below.refl _ _⟩
      case round =>
        obtain ⟨j, hj, rfl, rfl, HV⟩ := hrel
        have hbj := HW.out.trans (HV.out.mono HW.out.size)
        have y0 := (hbj.cell (p := ⟨w.heap.size, 0, none⟩) (by show w.heap.size < _; omega)).trans x0
        have y1 := (hbj.cell (p := ⟨w.heap.size, 1, none⟩) (by show w.heap.size < _; omega)).trans x1
        have f1 := (hbj.cell (p := ⟨fb, fo + k, none⟩) hfb).trans (HCELL.out k hlt)
        have f8 := HF8.out k hlt
        by_cases hlt' : j < fs.getD k 0 + 1
        · have hjf : (j : Int) ≤ (fs.getD k 0 : Int) := by omega
          have hj8 : j < 256 := by omega
          have hjT : j < 2 ^ m := by have := HFL.out k hlt; omega
          have LL := HLO.out
          have WI := hid (fun w => Within_any j (fs.getD k 0) w hj8 f8)
          have AN : bits .and .i64 (j : Int) (loopS (rk l) m : Int) = ((j &&& loopS (rk l) m : Nat) : Int) := i64_and_nat _ _ (by omega) (by omega)
          have ST := hid (mobD_step (rk l) m (fs.getD k 0) j)
          have C1 := hid (fun (y : Later wr) => CLO.out j y.now hjT (HB2.out.trans ((hbj.trans (y.kept.mono hbj.size)).mono HB2.out.size)))
          have S1 := hid (fun w => Size_any j w hj8)
          have p8 := pop_le j hj8
          have PP := hid (tmod_two (pop j))
          have PE := hid (fun h => sgn_even (s := j) h)
          have PO := hid (fun h => sgn_odd (s := j) h)
          have bd := mobD_bound (rk l) m (fs.getD k 0) j
          have FC : ∀ y : Later wr, y.now.cell? ⟨fb, fo + k, none⟩ = some (.int .i64 (fs.getD k 0 : Nat)) := fun y => ((hbj.trans (y.kept.mono hbj.size)).cell (p := ⟨fb, fo + k, none⟩) hfb).trans (HCELL.out k hlt)
          have FY0 : ∀ y : Later wr, y.now.cell? ⟨w.heap.size, 0, none⟩ = some (.int .i64 m) := fun y => ((hbj.trans (y.kept.mono hbj.size)).cell (p := ⟨w.heap.size, 0, none⟩) (by show w.heap.size < _; omega)).trans x0
          have FY1 : ∀ y : Later wr, y.now.cell? ⟨w.heap.size, 1, none⟩ = some (.slice a l.length cap) := fun y => ((hbj.trans (y.kept.mono hbj.size)).cell (p := ⟨w.heap.size, 1, none⟩) (by show w.heap.size < _; omega)).trans x1
          clear hbj CLO HLO HFL HF8 HND HF0 c0 HO HI HCELL
          generalize mobD (rk l) m (fs.getD k 0) j = d1 at *
          generalize fs.getD k 0 = f at *
          generalize loopS (rk l) m = lo at *
          generalize cl (rk l) m j = cj at *
          generalize j &&& lo = ja at *
          have b1 : -256 ≤ d1 := by omega
          have b2 : d1 ≤ 256 := by omega
          clear bd
          obtain ⟨sb, HSB⟩ : ∃ sb, Hid (subB j f = sb) := ⟨_, rfl⟩
          rw [HSB.out] at WI ST
          clear HSB
          cases sb
          · rw [if_neg (by simp)] at ST
            go_wp2_with fail
            refine region_later (by kernel_rfl) (by kernel_rfl) ?_
            repeat (go_big_quiet_step ((first
              | (go_at_call 38; (with_reducible refine (WI.out _).mono ?_); rintro e w' ⟨rfl, h4⟩; obtain rfl := h4.symm; exact ⟨rfl, Later.on _ (Below.refl _ _)⟩)
              | (go_at_call 42; (with_reducible refine (C1.out _).mono ?_); rintro e w' ⟨rfl, h4⟩; exact ⟨rfl, Later.on _ h4⟩))))
            refine wpQuiet_nil ?_
            intro w6' hw'
            obtain ⟨⟨y6, hb6⟩, hw''⟩ := hw'
            dsimp only at hw''
            subst hw''
            have HV2 := hid (HV.out.trans (hb6.mono HV.out.size))
            clear hb6 FC FY0 FY1
            go_wp2_with fail
            go_roundw
            case rel => exact ⟨j + 1, by omega, by go_num, by rw [ST.out], HV2.out⟩
            case measure => simp [intOf]; omega
          · by_cases hja : ja = 0
            · have hja' : ((ja : Int) != 0) = false := by simp [hja]
              by_cases hcf : cj = f
              · have hcf' : ((cj : Int) != (f : Int)) = false := by simp [hcf]
                rw [if_pos (by simp [hja, hcf])] at ST
                clear hja hcf
                go_wp2_with fail
                refine region_later (by kernel_rfl) (by kernel_rfl) ?_
                repeat (go_big_quiet_step ((first
                  | (go_at_call 38; (with_reducible refine (WI.out _).mono ?_); rintro e w' ⟨rfl, h4⟩; obtain rfl := h4.symm; exact ⟨rfl, Later.on _ (Below.refl _ _)⟩)
                  | (go_at_call 42; (with_reducible refine (C1.out _).mono ?_); rintro e w' ⟨rfl, h4⟩; exact ⟨rfl, Later.on _ h4⟩))))
                refine wpQuiet_nil ?_
                intro w6' hw'
                obtain ⟨⟨y6, hb6⟩, hw''⟩ := hw'
                dsimp only at hw''
                subst hw''
                have HV2 := hid (HV.out.trans (hb6.mono HV.out.size))
                clear hb6 FC FY0 FY1
                go_wp2_with fail
                refine (S1.out _).mono ?_
                rintro e w7 ⟨rfl, hb7⟩
                have HV3 := hid (HV2.out.trans (hb7.mono HV2.out.size))
                clear hb7
                rcases Nat.mod_two_eq_zero_or_one (pop j) with hp | hp
                · have e1 : Int.tmod (pop j : Int) 2 = 0 := by rw [PP.out, hp]; rfl
                  have ST2 : Hid (mobD (rk l) m f (j + 1) = d1 + 1) := by show _ = _; rw [ST.out, PE.out hp]
                  clear hp PE PO PP ST
                  generalize pop j = p at *
                  go_wp2_with fail
                  go_roundw
                  case rel => exact ⟨j + 1, by omega, by go_num, by rw [ST2.out], HV3.out⟩
                  case measure => simp [intOf]; omega
                · have e1 : Int.tmod (pop j : Int) 2 = 1 := by rw [PP.out, hp]; rfl
                  have ST2 : Hid (mobD (rk l) m f (j + 1) = d1 - 1) := by show _ = _; rw [ST.out, PO.out hp]; omega
                  clear hp PE PO PP ST
                  generalize pop j = p at *
                  go_wp2_with fail
                  go_roundw
                  case rel => exact ⟨j + 1, by omega, by go_num, by rw [ST2.out], HV3.out⟩
                  case measure => simp [intOf]; omega
              · have hcf' : ((cj : Int) != (f : Int)) = true := by rw [bne_iff_ne]; omega
                rw [if_neg (by simp [hja, hcf])] at ST
                clear hja hcf
                go_wp2_with fail
                refine region_later (by kernel_rfl) (by kernel_rfl) ?_
                repeat (go_big_quiet_step ((first
                  | (go_at_call 38; (with_reducible refine (WI.out _).mono ?_); rintro e w' ⟨rfl, h4⟩; obtain rfl := h4.symm; exact ⟨rfl, Later.on _ (Below.refl _ _)⟩)
                  | (go_at_call 42; (with_reducible refine (C1.out _).mono ?_); rintro e w' ⟨rfl, h4⟩; exact ⟨rfl, Later.on _ h4⟩))))
                refine wpQuiet_nil ?_
                intro w6' hw'
                obtain ⟨⟨y6, hb6⟩, hw''⟩ := hw'
                dsimp only at hw''
                subst hw''
                have HV2 := hid (HV.out.trans (hb6.mono HV.out.size))
                clear hb6 FC FY0 FY1
                go_wp2_with fail
                go_roundw
                case rel => exact ⟨j + 1, by omega, by go_num, by rw [ST.out], HV2.out⟩
                case measure => simp [intOf]; omega
            · have hja' : ((ja : Int) != 0) = true := by rw [bne_iff_ne]; omega
              rw [if_neg (by simp [hja])] at ST
              clear hja
              go_wp2_with fail
              refine region_later (by kernel_rfl) (by kernel_rfl) ?_
              repeat (go_big_quiet_step ((first
                | (go_at_call 38; (with_reducible refine (WI.out _).mono ?_); rintro e w' ⟨rfl, h4⟩; obtain rfl := h4.symm; exact ⟨rfl, Later.on _ (Below.refl _ _)⟩)
                | (go_at_call 42; (with_reducible refine (C1.out _).mono ?_); rintro e w' ⟨rfl, h4⟩; exact ⟨rfl, Later.on _ h4⟩))))
              refine wpQuiet_nil ?_
              intro w6' hw'
              obtain ⟨⟨y6, hb6⟩, hw''⟩ := hw'
              dsimp only at hw''
              subst hw''
              have HV2 := hid (HV.out.trans (hb6.mono HV.out.size))
              clear hb6 FC FY0 FY1
              go_wp2_with fail
              go_roundw
              case rel => exact ⟨j + 1, by omega, by go_num, by rw [ST.out], HV2.out⟩
              case measure => simp [intOf]; omega
        · obtain rfl : j = fs.getD k 0 + 1 := by omega
          have hjf : ¬ ((fs.getD k 0 + 1 : Nat) : Int) ≤ (fs.getD k 0 : Int) := by omega
          have ND := hid (HND.out k hlt)
          have OJ := hid (HO.out.below HV.out)
          have MS := hid (map_snoc (mobF (rk l) m) k)
          have hlk : ((List.range k).map (mobF (rk l) m)).length ≤ 256 := by simp; omega
          have HBJ := hid hbj
          have hs3 := hbj.size
          rw [ND.out]
          clear hbj HO HV HW CLO HLO HFL HF8 HND HF0 c0 HI HCELL
          generalize mobF (rk l) m k = mk at *
          generalize (List.range k).map (mobF (rk l) m) = acc at *
          generalize fs.getD k 0 = f at *
          go_wp2_with (at_builtin; refine wpList_append_own _ rfl _ _ 27 rfl w2.heap.size 2 i0 (.int .i64 0) 1 8 Try.underlying27 hi hz0 hz1 hz2 rfl (by decide) _ _ _ rfl (OJ.out.alloc _) ⟨wr.heap.size, 0, none⟩ 1 1 [.int .i64 mk] rfl rfl ?c1 ?c2 ?c3 ?c4 ?c5 ?_)
          case c2 => first | rfl | (intro u hu; simp at hu; subst hu; rfl)
          case c3 => unfold maxLen; omega
          case c4 => omega
          case c5 => first | omega | (simp; omega)
          intro v' w5 hown' hgrow _
          have R3 := hid (OwnZ.snoc hown')
          have R4 := hid (OwnZ.grown OJ.out HBJ.out hs3 hgrow)
          clear hown' hgrow
          go_wp2_with fail
          go_roundw
          case rel => exact ⟨k + 1, by omega, by go_num, by rw [MS.out]; exact R3.out, R4.out⟩
          case measure => simp [intOf]; omega
    · obtain rfl : k = fs.length := by omega
      have HF := hid (HB2.out.trans (HW.out.mono HB2.out.size))
      have HO2 := hid (HO.out.mono HB2.out.size)
      go_wp2_with fail
      go_ret
      exact ⟨_, rfl, HO2.out, HF.out⟩
end Go.Proofs.Ytpmpfnbgjgjlgaa
