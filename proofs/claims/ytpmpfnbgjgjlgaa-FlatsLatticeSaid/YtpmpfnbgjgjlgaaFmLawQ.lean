/- rotakeep.FlatsMobius. -/
import Derived.Test.YtpmpfnbgjgjlgaaFlEQ
import Derived.Test.YtpmpfnbgjgjlgaaFlJQ
import Derived.Test.YtpmpfnbgjgjlgaaFlKQ
import Derived.Test.YtpmpfnbgjgjlgaaPlainAll
import Derived.Test.YtpmpfnbgjgjlgaaRefAxCQ
namespace Go.Proofs.Ytpmpfnbgjgjlgaa
open Go.RowKit

theorem two_chn : upN 4 (rk twoL) (2 ^ 4 - 1) = 4 := by decide +kernel
theorem memZ_nat {f : Int} {l : List Nat} (h : memZ f (N l) = true) : ∃ k : Nat, f = k ∧ k ∈ l := by
  unfold memZ N at h
  rw [decide_eq_true_eq, List.mem_map] at h
  obtain ⟨k, h1, h2⟩ := h
  exact ⟨k, h2.symm, h1⟩
/-- What Covers answers to whatever number. -/
def CovIs (w : World) (m : Nat) (l : List Nat) (f : Int) (v : Value) : Prop :=
  (∀ w', Below w.heap.size w w' → Calls Try.prog 27 #[.agg #[.int .i64 m, v], .int .i64 f] w' fun e w2 => e = .returned (.tuple #[.slice none 0 0, .int .i64 1]) ∧ Below w'.heap.size w' w2) ∨
  (∃ k : Nat, f = k ∧ k ∈ fltL m (rk l) ∧ ∀ w', Below w.heap.size w w' → Calls Try.prog 27 #[.agg #[.int .i64 m, v], .int .i64 f] w' fun e w2 => ∃ u, e = .returned (.tuple #[u, .int .i64 0]) ∧ Own w'.heap.size w2 u (nxtF (fltL m (rk l)) (rk l) k) ∧ Below w'.heap.size w' w2)
theorem cov_is (w : World) (m : Nat) (l : List Nat) (f : Int) (v : Value) (hm : m ≤ 8) (hf : Fam m l) (hb : Bas l) (h : Ints w v (N l)) : CovIs w m l f v := by
  cases hx : memZ f (N (fltL m (rk l)))
  · exact .inl fun w' hb' => Covers_arg m f v l w' hm hf hb (h.below hb') hx
  · obtain ⟨k, rfl, hk⟩ := memZ_nat hx
    exact .inr ⟨k, rfl, hk, fun w' hb' => Covers_ok m k v l w' hm hf hb (h.below hb') hk⟩
set_option maxRecDepth 20000 in
set_option maxHeartbeats 8000000 in
theorem fmobius_law (n : Int) (v : Value) (zs : List Int) (f : Int) (w : World) (h : Ints w v zs) :
    Calls Try.prog 8 #[.agg #[.int .i64 n, v], .int .i64 f] w fun e w' => e = .returned (.bool true) ∧ Below w.heap.size w w' := by
  have HI := hid h
  obtain ⟨a, cap, rfl, -, -⟩ := h
  have hB0 := below_box w #[.int .i64 n, .slice a zs.length cap]
  have HB0 := hid hB0
  have HI0 := hid (HI.out.below hB0)
  have HX : Hid (∀ w2, Below (w.alloc (.cells #[.int .i64 n, .slice a zs.length cap] 24)).heap.size (w.alloc (.cells #[.int .i64 n, .slice a zs.length cap] 24)) w2 → _) := fun w2 hb => box_cells hb
  clear hB0 HI
  go_enter Try.func8, Try.ntmps8
  go_wp2_with fail
  refine (two_any _).mono ?_
  rintro e w1 ⟨v1, rfl, hi1, hb1⟩
  have C1 := hid (Chains_ok 4 v1 twoL w1 (by omega) two_fam two_bas hi1)
  rw [two_chn] at C1
  go_wp2_with fail
  refine C1.out.mono ?_
  rintro e w4 ⟨rfl, hb4⟩
  have hb14 := hb1.trans (hb4.mono hb1.size)
  obtain ⟨x0, x1⟩ := HX.out w4 hb14
  have hs4 : w.heap.size < w4.heap.size := by have := hb14.size; simp at this; omega
  have HB4 := hid (HB0.out.trans (hb14.mono HB0.out.size))
  have HI4 := hid (HI0.out.below hb14)
  clear hb1 hb4 hb14 hi1 C1 HX HB0 HI0
  by_cases hq : chkR n zs = 0
  · obtain ⟨m, l, rfl, hm, rfl, hf, hb⟩ := chk_of hq
    rw [N_len] at x1 HI4 ⊢
    have C1 := hid (Flats_ok m _ l w4 hm hf hb HI4.out)
    have C2 := hid (fun w5 (hb5 : Below w4.heap.size w4 w5) => Mobius_ok m _ l w5 hm hf hb (HI4.out.below hb5))
    have CC := hid (cov_is w4 m l f _ hm hf hb HI4.out)
    have AL := hid (fun w => All_nat m w hm)
    have hp := flt_pos hm hb.rk
    have hlen : (fltL m (rk l)).length ≤ 256 := flt_len hm
    have HL := hid (fun i (hi : i < (fltL m (rk l)).length) => lt256 hm (flt_getD (r := rk l) hi).1)
    have HZ := hid (mob_zero hm hb.rk)
    have HNX := hid (fun i (h0 : i ≠ 0) (hi : i < (fltL m (rk l)).length) => mob_next hm hb.rk h0 hi)
    have HST := hid (fun i j => mobT_step (rk l) m i j)
    have HBT := hid (fun i j (hj : j ≤ 256) => mobT_bound (rk l) hm i hj)
    have HT0 : Hid (∀ i, mobT (rk l) m i 0 = 0) := fun i => rfl
    have HTO := hid (fun k (hk : k < (fltL m (rk l)).length) => mob_total hm hb.rk hk)
    have HB2 : Hid (∀ i, -256 ≤ mobF (rk l) m i ∧ mobF (rk l) m i ≤ 256) := fun i => mobS_bound (rk l) hm ((fltL m (rk l)).getD i 0)
    have HIN : Hid (∀ k, k < (fltL m (rk l)).length → ((fltL m (rk l)).getD k 0 = (fltL m (rk l)).getD 0 0 ↔ k = 0)) := fun k hk => ⟨fun e => flt_inj hk hp e, fun e => by rw [e]⟩
    have HCR := hid (fun f (hf : f ∈ fltL m (rk l)) j hj => nxt_round (j := j) hm hb.rk (flt_mem.1 hf).1 (flt_mem.1 hf).2 hj)
    have HCE := hid (fun f (hf : f ∈ fltL m (rk l)) => nxt_end hm hb.rk (flt_mem.1 hf).1 (flt_mem.1 hf).2)
    have HCS := hid (fun f (hf : f ∈ fltL m (rk l)) j => lt256 hm (seen_lt (r := rk l) (flt_mem.1 hf).1 j))
    have HCN : Hid (∀ f, (nxtF (fltL m (rk l)) (rk l) f).length ≤ 256) := fun f => Nat.le_trans (List.length_filter_le _ _) hlen
    have HM8 : Hid (∀ x, x ∈ fltL m (rk l) → x < 256) := fun x hx => lt256 hm (flt_mem.1 hx).1
    have HX2 : Hid ((List.range (2 ^ m)).filter (flatB (rk l) m) = fltL m (rk l)) := rfl
    rw [HX2.out] at C1
    unfold CovIs at CC
    clear hq HI4 hf hb HX2
    generalize mobT (rk l) m = mt at *
    generalize mobF (rk l) m = mf at *
    generalize rk l = r at *
    generalize fltL m r = fs at *
    go_wp2_with fail
    refine C1.out.mono ?_
    rintro e w5 ⟨lv, rfl, ho5, hb5⟩
    have C3 := hid (C2.out w5 hb5)
    have X5 := hid (And.intro ((hb5.cell (p := ⟨w.heap.size, 0, none⟩) hs4).trans x0) ((hb5.cell (p := ⟨w.heap.size, 1, none⟩) hs4).trans x1))
    obtain ⟨y0, y1⟩ := X5.out
    have HB5 := hid hb5
    have HL5 := hid (ho5.ints (by omega))
    obtain ⟨la, lcap, hlv⟩ := ho5.form
    subst hlv
    clear hb5 ho5 C1 C2
    go_wp2_with fail
    refine C3.out.mono ?_
    rintro e w6 ⟨nv, rfl, hn6, hb6⟩
    have HB6 := hid (HB5.out.trans (hb6.mono HB5.out.size))
    have HN6 := hid hn6
    have HL6 := hid (HL5.out.below hb6)
    obtain ⟨nb, no, nc, rfl, hnb, -⟩ := hn6
    obtain ⟨a', c', hv', -, hcc⟩ := HL6.out.nats
    obtain ⟨lb, lo, rfl, hlb, hcell⟩ := hcc hp
    obtain ⟨rfl, rfl⟩ : la = some ⟨lb, lo, none⟩ ∧ lcap = c' := by simpa using hv'
    have HCELL := hid hcell
    have hpi : (0 : Int) < (fs.length : Int) := by omega
    have hs6 : w.heap.size < w6.heap.size := Nat.lt_of_lt_of_le hs4 HB6.out.size
    have X6 := hid (And.intro ((HB6.out.cell (p := ⟨w.heap.size, 0, none⟩) hs4).trans x0) ((HB6.out.cell (p := ⟨w.heap.size, 1, none⟩) hs4).trans x1))
    clear hb6 hcell hcc hv' C3 HL5 HB5 X5 y0 y1 x0 x1
    go_wp2_with fail
    go_loopw [12, 13, 14, 15, 66] (fun _ _ _ _ i wr => ∃ k : Nat, k ≤ fs.length ∧ i = .int .i64 k ∧ Hid (Below w6.heap.size w6 wr)) (fun _ _ _ _ i _ => fs.length - (intOf i).toNat)
    case atStart => exact ⟨0, Nat.zero_le _, rfl, Below.refl _ _⟩
    case round =>
      obtain ⟨k, hk, rfl, HW⟩ := hrel
      by_cases hlt : k < fs.length
      · have z1 := (HW.out.cell (p := ⟨lb, lo + k, none⟩) hlb).trans (HCELL.out k hlt)
        have l2 := HL.out k hlt
        have IN := hid (HIN.out k hlt)
        have HSK := hid (fun j => HST.out k j)
        generalize fs.getD k 0 = fk at *
        go_wp2_with fail
        go_loopw [13, 14, 15, 72] (fun s _ _ i wr' => ∃ j : Nat, j ≤ fs.length ∧ i = .int .i64 j ∧ s = .int .i64 (mt k j) ∧ Hid (Below w6.heap.size w6 wr')) (fun _ _ _ i _ => fs.length - (intOf i).toNat)
        case atStart => exact ⟨0, Nat.zero_le _, rfl, by rw [HT0.out], HW.out⟩
        case round =>
          obtain ⟨j, hj, rfl, rfl, HV⟩ := hrel
          by_cases hlt' : j < fs.length
          · have z2 := (HV.out.cell (p := ⟨lb, lo + j, none⟩) hlb).trans (HCELL.out j hlt')
            have z3 := HN6.out.cellAt HV.out hlt'
            have l1 := HL.out j hlt'
            have b1 := HB2.out j
            have b2 := HBT.out k j (by omega)
            have ST := hid (HSK.out j)
            have SM := hid (fun w => Within_any (fs.getD j 0) fk w l1 l2)
            generalize fs.getD j 0 = fj at *
            generalize mf j = m1 at *
            generalize mt k j = m2 at *
            generalize subB fj fk = sb at *
            cases sb
            · rw [if_neg (by decide)] at ST
              go_wp2_with fail
              refine (SM.out _).mono ?_
              rintro e w7 ⟨rfl, h7⟩
              obtain rfl := h7.symm
              go_wp2_with fail
              go_roundw
              case rel => exact ⟨j + 1, by omega, by go_num, by rw [ST.out], HV.out⟩
              case measure => simp [intOf]; omega
            · rw [if_pos rfl] at ST
              go_wp2_with fail
              refine (SM.out _).mono ?_
              rintro e w7 ⟨rfl, h7⟩
              obtain rfl := h7.symm
              go_wp2_with fail
              go_roundw
              case rel => exact ⟨j + 1, by omega, by go_num, by rw [ST.out], HV.out⟩
              case measure => simp [intOf]; omega
          · obtain rfl : j = fs.length := by omega
            have z4 := (HV.out.cell (p := ⟨lb, lo + 0, none⟩) hlb).trans (HCELL.out 0 hp)
            rw [Nat.add_zero] at z4
            have IN := IN.out
            rw [HTO.out k hlt]
            clear z1 HIN
            generalize fs.getD 0 0 = f0 at *
            by_cases c : k = 0
            · have e1 : ((fk : Int) == (f0 : Int)) = true := by rw [beq_iff_eq]; have := IN.2 c; omega
              rw [if_pos c]
              clear IN c
              go_wp2_with fail
              go_roundw
              case rel => exact ⟨k + 1, by omega, by go_num, HV.out⟩
              case measure => simp [intOf]; omega
            · have e1 : ((fk : Int) == (f0 : Int)) = false := by rw [beq_eq_false_iff_ne]; intro e; exact c (IN.1 (by omega))
              rw [if_neg c]
              clear IN c
              go_wp2_with fail
              go_roundw
              case rel => exact ⟨k + 1, by omega, by go_num, HV.out⟩
              case measure => simp [intOf]; omega
      · obtain rfl : k = fs.length := by omega
        have hmk := fun w => run_make_row' (P := Try.prog) 27 2 (.int .i64 0) 8 Try.underlying27 Try.infoLong rfl .i64 .i64 fs.length (by omega) (by omega) w
        have tb := TblZ.new wr fs.length 2
        have hB7 : Below wr.heap.size wr (wr.alloc (.cells (madeCells #[.int .i64 0] fs.length) 2)) := (Below.refl _ _).alloc (Nat.le_refl _) _
        obtain ⟨W1, hW1⟩ : ∃ W1, wr.alloc (.cells (madeCells #[.int .i64 0] fs.length) 2) = W1 := ⟨_, rfl⟩
        rw [hW1] at tb hB7
        have HTB := hid (tb.congr (f' := ztab 0 mf 0) (fun i _ => by unfold ztab; simp))
        have HB7 := hid (HW.out.trans (hB7.mono HW.out.size))
        have hgw : w6.heap.size ≤ wr.heap.size := HW.out.size
        obtain ⟨g, hg⟩ : ∃ g, wr.heap.size = g := ⟨_, rfl⟩
        rw [hg] at HTB hgw
        have HR6 := hid (Below.refl g W1)
        clear tb hB7 HTO HIN
        go_wp2_with fail
        clear hmk hW1
        go_loopw [17, 18, 19, 109] (fun _ _ _ i wr' => ∃ k : Nat, k ≤ fs.length ∧ i = .int .i64 k ∧ Hid (TblZ g wr' fs.length (ztab k mf 0)) ∧ Hid (Below g W1 wr')) (fun _ _ _ i _ => fs.length - (intOf i).toNat)
        case atStart => exact ⟨0, Nat.zero_le _, rfl, HTB.out, Below.refl _ _⟩
        case round =>
          obtain ⟨k, hk, rfl, HK, HV⟩ := hrel
          by_cases hlt : k < fs.length
          · have hbk := HB7.out.trans (HV.out.mono hgw)
            have z1 := (hbk.cell (p := ⟨lb, lo + k, none⟩) hlb).trans (HCELL.out k hlt)
            have l2 := HL.out k hlt
            have HSK := hid (fun j => HST.out k j)
            have NX := hid (fun h0 => HNX.out k h0 hlt)
            have q1 := HK.out.cell 0 hp
            have q2 := HK.out.frozen 0
            have VAL : Hid (mf k = if k = 0 then 1 else - mt k k) := by
              show _ = _
              by_cases c : k = 0
              · rw [if_pos c, c, HZ.out]
              · rw [if_neg c, NX.out c]
            generalize fs.getD k 0 = fk at *
            clear hbk
            by_cases c : k = 0
            · have c' : ((k : Int) == 0) = true := by rw [beq_iff_eq]; omega
              have K0 : Hid (TblZ g (wr.setCell ⟨g, 0, none⟩ (.int .i64 1)) fs.length (ztab k mf (if k = 0 then 1 else - mt k 0))) := by
                rw [if_pos c]
                exact HK.out.set 0 1 hp (fun i _ => by rw [ztab_set, c])
              have V0 := hid (HV.out.setCell (p := ⟨g, 0, none⟩) (Nat.le_refl _) (.int .i64 1))
              obtain ⟨WI, HWI⟩ : ∃ WI, Hid (wr.setCell ⟨g, 0, none⟩ (.int .i64 1) = WI) := ⟨_, rfl⟩
              rw [HWI.out] at K0 V0
              have c9 := hid c
              clear c HK NX
              go_wp2_with fail
              rw [HWI.out]
              go_loopw [19, 119] (fun _ i wr' => ∃ j : Nat, j ≤ k ∧ i = .int .i64 j ∧ Hid (TblZ g wr' fs.length (ztab k mf (if k = 0 then 1 else - mt k j))) ∧ Hid (Below g W1 wr')) (fun _ i _ => k - (intOf i).toNat)
              case atStart => exact ⟨0, Nat.zero_le _, rfl, K0.out, V0.out⟩
              case round =>
                obtain ⟨j, hj, rfl, HJ, HU⟩ := hrel
                by_cases hlt' : j < k
                · have hjL : j < fs.length := by omega
                  have hbk := HB7.out.trans (HU.out.mono hgw)
                  have p1 := (hbk.cell (p := ⟨lb, lo + j, none⟩) hlb).trans (HCELL.out j hjL)
                  have l1 := HL.out j hjL
                  have y1 := HJ.out.cell j hjL
                  have y2 := HJ.out.cell k hlt
                  have y3 := HJ.out.frozen k
                  have k0 : ¬ k = 0 := by omega
                  rw [ztab_lt hlt'] at y1
                  rw [ztab_at, if_neg k0] at y2
                  have b1 := HB2.out j
                  have b2 := HBT.out k j (by omega)
                  have ST := hid (HSK.out j)
                  have SM := hid (fun w => Within_any (fs.getD j 0) fk w l1 l2)
                  have F : Hid (∀ (x : Int) (m : Nat), x = (- mt k (j + 1)) → TblZ g ((wr.drewN m).setCell ⟨g, k, none⟩ (.int .i64 x)) fs.length (ztab k mf (if k = 0 then 1 else - mt k (j + 1)))) := fun x m e => by
                    rw [if_neg k0, ← e]
                    exact (HJ.out.drewN m).set (f' := ztab k mf x) k x hlt (fun i hi => ztab_set i)
                  have F0 : Hid (mt k (j + 1) = mt k j → TblZ g wr fs.length (ztab k mf (if k = 0 then 1 else - mt k (j + 1)))) := fun e => by
                    rw [e]
                    exact HJ.out
                  have F3 : Hid (∀ (x : Value) m, Below g W1 ((wr.drewN m).setCell ⟨g, k, none⟩ x)) := fun x m => (below_drewF HU.out m).setCell (p := ⟨g, k, none⟩) (Nat.le_refl _) _
                  clear HJ hbk k0
                  generalize fs.getD j 0 = fj at *
                  generalize mf j = m1 at *
                  generalize mt k j = m2 at *
                  generalize subB fj fk = sb at *
                  cases sb
                  · rw [if_neg (by decide)] at ST
                    have F4 := hid (F0.out ST.out)
                    go_wp2_with fail
                    refine (SM.out _).mono ?_
                    rintro e w9 ⟨rfl, h9⟩
                    obtain rfl := h9.symm
                    go_wp2_with fail
                    go_roundw
                    case rel => exact ⟨j + 1, by omega, by go_num, F4.out, HU.out⟩
                    case measure => simp [intOf]; omega
                  · rw [if_pos rfl] at ST
                    obtain ⟨q, hq, HQ⟩ : ∃ q, - m2 - m1 = q ∧ Hid (q = - mt k (j + 1)) := ⟨_, rfl, by show _ = _; rw [ST.out]; omega⟩
                    have hqw : IntKind.i64.wrap q = q := IntWalk.i64_in q (by omega)
                    have F4 := hid (fun m => F.out q m HQ.out)
                    clear F F0 HQ ST
                    go_wp2_with fail
                    refine (SM.out _).mono ?_
                    rintro e w9 ⟨rfl, h9⟩
                    obtain rfl := h9.symm
                    go_wp2_with fail
                    go_region_with fail
                    all_goals go_wp2_with fail
                    all_goals exact ⟨⟨j + 1, by omega, by go_num, F4.out _, F3.out _ _⟩, by simp [intOf]; omega⟩
                · obtain rfl : j = k := by omega
                  have F1 := hid (HJ.out.congr (f' := ztab (j + 1) mf 0) (fun i _ => by rw [ztab_up, VAL.out]))
                  go_wp2_with fail
                  go_roundw
                  case rel => exact ⟨j + 1, by omega, by go_num, F1.out, HU.out⟩
                  case measure => simp [intOf]; omega
            · have c' : ((k : Int) == 0) = false := by rw [beq_eq_false_iff_ne]; omega
              have K0 : Hid (TblZ g wr fs.length (ztab k mf (if k = 0 then 1 else - mt k 0))) := by
                rw [if_neg c, HT0.out]
                exact HK.out
              have V0 := hid HV.out
              have c9 := hid c
              clear c HK NX
              go_wp2_with fail
              go_loopw [19, 119] (fun _ i wr' => ∃ j : Nat, j ≤ k ∧ i = .int .i64 j ∧ Hid (TblZ g wr' fs.length (ztab k mf (if k = 0 then 1 else - mt k j))) ∧ Hid (Below g W1 wr')) (fun _ i _ => k - (intOf i).toNat)
              case atStart => exact ⟨0, Nat.zero_le _, rfl, K0.out, V0.out⟩
              case round =>
                obtain ⟨j, hj, rfl, HJ, HU⟩ := hrel
                by_cases hlt' : j < k
                · have hjL : j < fs.length := by omega
                  have hbk := HB7.out.trans (HU.out.mono hgw)
                  have p1 := (hbk.cell (p := ⟨lb, lo + j, none⟩) hlb).trans (HCELL.out j hjL)
                  have l1 := HL.out j hjL
                  have y1 := HJ.out.cell j hjL
                  have y2 := HJ.out.cell k hlt
                  have y3 := HJ.out.frozen k
                  have k0 : ¬ k = 0 := by omega
                  rw [ztab_lt hlt'] at y1
                  rw [ztab_at, if_neg k0] at y2
                  have b1 := HB2.out j
                  have b2 := HBT.out k j (by omega)
                  have ST := hid (HSK.out j)
                  have SM := hid (fun w => Within_any (fs.getD j 0) fk w l1 l2)
                  have F : Hid (∀ (x : Int) (m : Nat), x = (- mt k (j + 1)) → TblZ g ((wr.drewN m).setCell ⟨g, k, none⟩ (.int .i64 x)) fs.length (ztab k mf (if k = 0 then 1 else - mt k (j + 1)))) := fun x m e => by
                    rw [if_neg k0, ← e]
                    exact (HJ.out.drewN m).set (f' := ztab k mf x) k x hlt (fun i hi => ztab_set i)
                  have F0 : Hid (mt k (j + 1) = mt k j → TblZ g wr fs.length (ztab k mf (if k = 0 then 1 else - mt k (j + 1)))) := fun e => by
                    rw [e]
                    exact HJ.out
                  have F3 : Hid (∀ (x : Value) m, Below g W1 ((wr.drewN m).setCell ⟨g, k, none⟩ x)) := fun x m => (below_drewF HU.out m).setCell (p := ⟨g, k, none⟩) (Nat.le_refl _) _
                  clear HJ hbk k0
                  generalize fs.getD j 0 = fj at *
                  generalize mf j = m1 at *
                  generalize mt k j = m2 at *
                  generalize subB fj fk = sb at *
                  cases sb
                  · rw [if_neg (by decide)] at ST
                    have F4 := hid (F0.out ST.out)
                    go_wp2_with fail
                    refine (SM.out _).mono ?_
                    rintro e w9 ⟨rfl, h9⟩
                    obtain rfl := h9.symm
                    go_wp2_with fail
                    go_roundw
                    case rel => exact ⟨j + 1, by omega, by go_num, F4.out, HU.out⟩
                    case measure => simp [intOf]; omega
                  · rw [if_pos rfl] at ST
                    obtain ⟨q, hq, HQ⟩ : ∃ q, - m2 - m1 = q ∧ Hid (q = - mt k (j + 1)) := ⟨_, rfl, by show _ = _; rw [ST.out]; omega⟩
                    have hqw : IntKind.i64.wrap q = q := IntWalk.i64_in q (by omega)
                    have F4 := hid (fun m => F.out q m HQ.out)
                    clear F F0 HQ ST
                    go_wp2_with fail
                    refine (SM.out _).mono ?_
                    rintro e w9 ⟨rfl, h9⟩
                    obtain rfl := h9.symm
                    go_wp2_with fail
                    go_region_with fail
                    all_goals go_wp2_with fail
                    all_goals exact ⟨⟨j + 1, by omega, by go_num, F4.out _, F3.out _ _⟩, by simp [intOf]; omega⟩
                · obtain rfl : j = k := by omega
                  have F1 := hid (HJ.out.congr (f' := ztab (j + 1) mf 0) (fun i _ => by rw [ztab_up, VAL.out]))
                  go_wp2_with fail
                  go_roundw
                  case rel => exact ⟨j + 1, by omega, by go_num, F1.out, HU.out⟩
                  case measure => simp [intOf]; omega
          · obtain rfl : k = fs.length := by omega
            have hbk := HB7.out.trans (HV.out.mono hgw)
            have I1 := (HK.out.congr (f' := mf) (fun i hi => by unfold ztab; rw [if_pos hi])).rkZ (cap := fs.length)
            have S1 := hid (SameL_any _ _ _ _ wr (I1.ints (by omega)) ((HN6.out.below hbk).ints (by omega)))
            rw [decide_eq_true rfl] at S1
            obtain ⟨u0, u1⟩ := X6.out
            have HBK := hid hbk
            clear I1 hbk HK HV HTB HB7 HR6 HL HST HBT HT0 HNX HB2 HZ
            go_wp2_with fail
            refine S1.out.mono ?_
            rintro e w8 ⟨rfl, hb8⟩
            have hb68 := HBK.out.trans (hb8.mono HBK.out.size)
            have B48 := hid (HB6.out.trans (hb68.mono HB6.out.size))
            have v0 := (hb68.cell (p := ⟨w.heap.size, 0, none⟩) hs6).trans u0
            have v1 := (hb68.cell (p := ⟨w.heap.size, 1, none⟩) hs6).trans u1
            have HL8 := hid (HL6.out.below hb68)
            clear hb8 hb68 S1 u0 u1
            rcases CC.out with CA | ⟨kf, rfl, hkf, CO⟩
            · have C8 := hid (CA w8 B48.out)
              go_wp2_with fail
              refine C8.out.mono ?_
              rintro e w9 ⟨rfl, hb9⟩
              have HF := hid (HB4.out.trans ((B48.out.trans (hb9.mono B48.out.size)).mono HB4.out.size))
              go_wp2_with fail
              go_ret
              exact ⟨rfl, HF.out⟩
            · have C8 := hid (CO w8 B48.out)
              have CR := hid (HCR.out kf hkf)
              have CE := hid (HCE.out kf hkf)
              have CS := hid (HCS.out kf hkf)
              have CN := HCN.out kf
              have kf8 := HM8.out kf hkf
              have hS0 : Hid (seenS kf ((nxtF fs r kf).take 0) = kf) := rfl
              have HCM : Hid (∀ j, j < (nxtF fs r kf).length → (nxtF fs r kf).getD j 0 < 256) := fun j hj => HM8.out _ (CR.out j hj).2
              have HTK : Hid (∀ j, j < (nxtF fs r kf).length → seenS kf ((nxtF fs r kf).take (j + 1)) = seenS kf ((nxtF fs r kf).take j) ||| (nxtF fs r kf).getD j 0) := fun j hj => seen_take hj kf
              clear HCR HCE HCS HCN HM8 CO
              generalize nxtF fs r kf = C at *
              go_wp2_with fail
              refine C8.out.mono ?_
              rintro e w9 ⟨cv, rfl, ho9, hb9⟩
              have HC9 := hid (ho9.ints (by omega))
              have HL9 := hid (HL8.out.below hb9)
              have t0 := (hb9.cell (p := ⟨w.heap.size, 0, none⟩) (Nat.lt_of_lt_of_le hs4 B48.out.size)).trans v0
              have hs9 : w.heap.size < w9.heap.size := Nat.lt_of_lt_of_le (Nat.lt_of_lt_of_le hs4 B48.out.size) hb9.size
              have HF := hid (HB4.out.trans ((B48.out.trans (hb9.mono B48.out.size)).mono HB4.out.size))
              obtain ⟨ca, cc, hcv⟩ := ownsRow_form' ho9
              subst hcv
              clear hb9 ho9 C8 HL8 v0 v1
              go_wp2_with fail
              go_loopw [21, 23, 158] (fun s _ i wr' => ∃ j : Nat, j ≤ C.length ∧ i = .int .i64 j ∧ s = .int .i64 (seenS kf (C.take j) : Nat) ∧ Hid (wr' = w9)) (fun _ _ i _ => C.length - (intOf i).toNat)
              case atStart => exact ⟨0, Nat.zero_le _, rfl, by rw [hS0.out], rfl⟩
              case round =>
                obtain ⟨j, hj, rfl, rfl, HE⟩ := hrel
                obtain rfl := HE.out
                by_cases hlt : j < C.length
                · obtain ⟨a', c', hv', -, hcc⟩ := HC9.out.nats
                  obtain ⟨b, off, rfl, hbb, hcell⟩ := hcc (by omega)
                  obtain ⟨rfl, rfl⟩ : ca = some ⟨b, off, none⟩ ∧ cc = c' := by simpa using hv'
                  have p1 := hcell j hlt
                  obtain ⟨r1, r2⟩ := CR.out j hlt
                  have g8 := HCM.out j hlt
                  have s8 := CS.out j
                  have CT := hid (ContainsZ_any _ _ ((C.getD j 0 : Nat) : Int) wr HL9.out)
                  rw [memZ_N, show memB (C.getD j 0) fs = true from decide_eq_true r2] at CT
                  have TK := hid (HTK.out j hlt)
                  have a1 : bits .and .i64 (C.getD j 0 : Int) (seenS kf (C.take j) : Int) = (kf : Int) := by rw [i64_and_nat _ _ (by omega) (by omega), r1]
                  have a2 : bits .or .i64 (seenS kf (C.take j) : Int) (C.getD j 0 : Int) = ((seenS kf (C.take j) ||| C.getD j 0 : Nat) : Int) := i64_or_nat _ _ (by omega) (by omega)
                  have a3 : ((kf : Int) != (kf : Int)) = false := by simp
                  clear r1 r2 hcell hcc hv'
                  generalize C.getD j 0 = x at *
                  generalize seenS kf (C.take j) = sn at *
                  generalize sn ||| x = sx at *
                  go_wp2_with fail
                  refine CT.out.mono ?_
                  rintro e w10 ⟨rfl, h10⟩
                  obtain rfl := h10.symm
                  go_wp2_with fail
                  go_roundw
                  case rel => exact ⟨j + 1, by omega, by go_num, by rw [TK.out], by first | exact True.intro | exact rfl⟩
                  case measure => simp [intOf]; omega
                · obtain rfl : j = C.length := by omega
                  rw [CE.out]
                  clear CE CS CR HTK HCM
                  generalize 2 ^ m - 1 = A at *
                  go_wp2_with fail
                  refine (AL.out _).mono ?_
                  rintro e w10 ⟨rfl, h10⟩
                  obtain rfl := h10.symm
                  go_wp2_with fail
                  go_ret
                  exact ⟨ret_bool (by simp), HF.out⟩
  · have C1 := hid (Flats_bad n _ zs w4 HI4.out hq)
    have C2 := hid (fun w5 (hb5 : Below w4.heap.size w4 w5) => Mobius_bad n _ zs w5 (HI4.out.below hb5) hq)
    generalize chkR n zs = q at *
    have hq' : (q == 0) = false := by rw [beq_eq_false_iff_ne]; exact hq
    have hqq : (q == q) = true := by simp
    go_wp2_with fail
    refine C1.out.mono ?_
    rintro e w5 ⟨rfl, hb5⟩
    have y0 := (hb5.cell (p := ⟨w.heap.size, 0, none⟩) (by show w.heap.size < _; omega)).trans x0
    have y1 := (hb5.cell (p := ⟨w.heap.size, 1, none⟩) (by show w.heap.size < _; omega)).trans x1
    have C3 := hid (C2.out w5 hb5)
    have HB5 := hid (HB4.out.trans (hb5.mono HB4.out.size))
    clear hb5 C1 C2
    go_wp2_with fail
    refine C3.out.mono ?_
    rintro e w6 ⟨rfl, hb6⟩
    have HB6 := hid (HB5.out.trans (hb6.mono HB5.out.size))
    clear hb6
    go_wp2_with fail
    go_ret
    exact ⟨rfl, HB6.out⟩
end Go.Proofs.Ytpmpfnbgjgjlgaa
