/- flats.countByRank, flats.mobius. -/
import Derived.Test.YtgfbajkonlaciaaFlAQ
namespace Go.Proofs.Ytgfbajkonlaciaa
open Go.RowKit

theorem below_drewF {B : Nat} {w w' : World} (h : Below B w w') (k : Nat) : Below B w (w'.drewN k) := h.trans (drewN_below _ _ _)

theorem flats_ints_cell {w w' : World} {b off cap : Nat} {l : List Nat} (h : Ints w (.slice (some ⟨b, off, none⟩) l.length cap) (N l)) (hb : Below w.heap.size w w') {i : Nat} (hi : i < l.length) : w'.cell? ⟨b, off + i, none⟩ = some (.int .i64 (l.getD i 0 : Nat)) := by
  obtain ⟨a, c, e, _, hc⟩ := (h.below hb).nats
  obtain ⟨b', off', rfl, hb', hcell⟩ := hc (by omega)
  obtain ⟨⟨rfl, rfl⟩, rfl⟩ : (b = b' ∧ off = off') ∧ cap = c := by simpa using e
  exact hcell i hi
set_option maxRecDepth 20000 in
set_option maxHeartbeats 2000000 in
theorem mobius_any (v : Value) (n : Nat) (r : Nat → Nat) (w : World) (hn : n ≤ 8) (hr : Rk r) (h : Ints w v (N (fltL n r))) :
    Calls Try.prog 13 #[v] w fun e w' => ∃ u, e = .returned u ∧ RkZ w' u (fltL n r).length (mobF r n) ∧ Below w.heap.size w w' := by
  have hp := flt_pos hn hr
  have HI := hid h
  obtain ⟨a, cap, rfl, -, hc⟩ := h.nats
  obtain ⟨b, off, rfl, -, -⟩ := hc hp
  have HL := hid (fun i (hi : i < (fltL n r).length) => lt256 hn (flt_getD (r := r) hi).1)
  have hlen : (fltL n r).length ≤ 256 := flt_len hn
  have HZ := hid (mob_zero hn hr)
  have HNX := hid (fun i (h0 : i ≠ 0) (hi : i < (fltL n r).length) => mob_next hn hr h0 hi)
  have HST := hid (fun i j => mobT_step r n i j)
  have HBT := hid (fun i j (hj : j ≤ 256) => mobT_bound r hn i hj)
  have HB1 := hid (fun i => mobS_bound r hn ((fltL n r).getD i 0))
  have HT0 : Hid (∀ i, mobT r n i 0 = 0) := fun i => rfl
  have HB2 : Hid (∀ i, -256 ≤ mobF r n i ∧ mobF r n i ≤ 256) := fun i => HB1.out i
  clear hr hc HB1
  generalize mobT r n = mt at *
  generalize mobF r n = mf at *
  generalize fltL n r = fs at *
  obtain ⟨L, hL⟩ : ∃ L, fs.length = L := ⟨_, rfl⟩
  have HIC := hid (fun (w' : World) (hb : Below w.heap.size w w') (i : Nat) (hi : i < fs.length) => flats_ints_cell HI.out hb hi)
  rw [hL] at hp hlen HL HNX HIC ⊢
  clear HI hL
  have hmk := fun w => run_make_row' (P := Try.prog) 25 2 (.int .i64 0) 8 Try.underlying25 Try.infoLong rfl .i64 .i64 L (by omega) (by omega) w
  have tb := TblZ.new w L 2
  have hB0 : Below w.heap.size w (w.alloc (.cells (madeCells #[.int .i64 0] L) 2)) := (Below.refl _ _).alloc (Nat.le_refl _) _
  obtain ⟨W0, hW0⟩ : ∃ W0, w.alloc (.cells (madeCells #[.int .i64 0] L) 2) = W0 := ⟨_, rfl⟩
  rw [hW0] at tb hB0
  have HTB := hid tb
  have HB0 := hid hB0
  have c0 := tb.cell 0 hp
  have f0 := tb.frozen 0
  clear hB0 tb
  have hpi : (0 : Int) < (L : Int) := by omega
  go_enter Try.func13, Try.ntmps13
  go_wp2_with fail
  have HT1 := hid (HTB.out.set (f' := ztab 1 mf 0) 0 1 hp (fun i hi => by
    unfold ztab
    by_cases h0 : 0 = i
    · subst h0; simp [HZ.out]
    · have h1 : ¬ i < 1 := by omega
      simp [h0, h1]))
  have HW1 := hid (HB0.out.setCell (p := ⟨w.heap.size, 0, none⟩) (Nat.le_refl _) (.int .i64 1))
  obtain ⟨W1, HE⟩ : ∃ W1, Hid (W0.setCell ⟨w.heap.size, 0, none⟩ (.int .i64 1) = W1) := ⟨_, rfl⟩
  rw [HE.out] at HT1 HW1 ⊢
  clear HE hmk HTB HB0 c0 f0 hW0
  go_loopw [4] (fun i wr => ∃ k : Nat, 1 ≤ k ∧ k ≤ L ∧ i = .int .i64 k ∧ Hid (TblZ w.heap.size wr L (ztab k mf 0)) ∧ Hid (Below w.heap.size W1 wr)) (fun i _ => L - (intOf i).toNat)
  case atStart => exact ⟨1, Nat.le_refl _, hp, rfl, HT1.out, Below.refl _ _⟩
  case round =>
    obtain ⟨k, hk1, hk, rfl, HK, HW⟩ := hrel
    by_cases hlt : k < L
    · have HK0 := hid (HK.out.congr (f' := ztab k mf (- mt k 0)) (fun i _ => by rw [HT0.out]; rfl))
      clear HK
      go_wp2_with fail
      go_loopw [18] (fun i wr => ∃ j : Nat, j ≤ k ∧ i = .int .i64 j ∧ Hid (TblZ w.heap.size wr L (ztab k mf (- mt k j))) ∧ Hid (Below w.heap.size W1 wr)) (fun i _ => k - (intOf i).toNat)
      case atStart => exact ⟨0, Nat.zero_le _, rfl, HK0.out, HW.out⟩
      case round =>
        rename_i wr0 _
        obtain ⟨j, hj, rfl, HJ, HV⟩ := hrel
        by_cases hlt' : j < k
        · have hjL : j < L := by omega
          have x1 := HIC.out wr (HW1.out.trans HV.out) j hjL
          have x2 := HIC.out wr (HW1.out.trans HV.out) k hlt
          have l1 := HL.out j hjL
          have l2 := HL.out k hlt
          have y1 := HJ.out.cell j hjL
          have y2 := HJ.out.cell k hlt
          have y3 := HJ.out.frozen k
          rw [ztab_lt hlt'] at y1
          rw [ztab_at] at y2
          have b1 := HB2.out j
          have b2 := HBT.out k j (by omega)
          have ST := hid (HST.out k j)
          have F := hid (fun (x : Int) (m : Nat) => (HJ.out.drewN m).set (f' := ztab k mf x) k x hlt (fun i hi => ztab_set i))
          have SM := hid (fun w => within_any (fs.getD j 0) (fs.getD k 0) w l1 l2)
          have HJ1 := hid (HJ.out)
          clear HJ HK0
          generalize fs.getD j 0 = fj at *
          generalize fs.getD k 0 = fk at *
          generalize mf j = m1 at *
          generalize mt k j = m2 at *
          cases hs : subB fj fk
          · rw [hs] at ST SM
            rw [if_neg (by decide)] at ST
            go_wp2_with fail
            go_quiet ((go_at_call 29; refine (SM.out _).mono ?_; rintro e w' ⟨rfl, rfl⟩; exact ⟨rfl, _, rfl⟩))
            go_wp2_with fail
            go_roundw
            case rel => exact ⟨j + 1, by omega, by go_num, by rw [ST.out]; exact HJ1.out.drewN _, below_drewF HV.out _⟩
            case measure => simp [intOf]; omega
          · rw [hs] at ST SM
            rw [if_pos rfl] at ST
            obtain ⟨q, hq, HQ⟩ : ∃ q, - m2 - m1 = q ∧ Hid (q = - mt k (j + 1)) := ⟨_, rfl, by show _ = _; rw [ST.out]; omega⟩
            have hqw : IntKind.i64.wrap q = q := IntWalk.i64_in q (by omega)
            have F2 : Hid (∀ m, TblZ w.heap.size ((wr.drewN m).setCell ⟨w.heap.size, k, none⟩ (.int .i64 q)) L (ztab k mf (- mt k (j + 1)))) := fun m => by
              rw [← HQ.out]
              exact F.out q m
            have F3 : Hid (∀ m, Below w.heap.size W1 ((wr.drewN m).setCell ⟨w.heap.size, k, none⟩ (.int .i64 q))) := fun m => (below_drewF HV.out m).setCell (p := ⟨w.heap.size, k, none⟩) (Nat.le_refl _) _
            go_wp2_with fail
            go_quiet ((go_at_call 29; refine (SM.out _).mono ?_; rintro e w' ⟨rfl, rfl⟩; exact ⟨rfl, _, rfl⟩))
            go_wp2_with fail
            go_region_with fail
            all_goals go_wp2_with fail
            all_goals exact ⟨⟨j + 1, by omega, by go_num, F2.out _, F3.out _⟩, by simp [intOf]; omega⟩
        · obtain rfl : j = k := by omega
          have HJ1 := hid (HJ.out.congr (f' := ztab (j + 1) mf 0) (fun i _ => by rw [ztab_up, HNX.out j (by omega) hlt]))
          clear HJ
          go_wp2_with fail
          go_roundw
          case rel => exact ⟨j + 1, by omega, by omega, by go_num, HJ1.out, HV.out⟩
          case measure => simp [intOf]; omega
    · obtain rfl : k = L := by omega
      go_wp2_with fail
      go_ret
      exact ⟨_, rfl, (HK.out.congr (f' := mf) (fun i hi => by unfold ztab; rw [if_pos hi])).rkZ, HW1.out.trans HW.out⟩
end Go.Proofs.Ytgfbajkonlaciaa
