/- flats.Mobius, Characteristic, Levels, Independent. -/
import Derived.Test.YtpmpfnbgjgjlgabFlBQ
namespace Go.Proofs.Ytpmpfnbgjgjlgab
open Go.RowKit

theorem rk_top {m : Nat} {l : List Nat} (hb : Bas l) : ∀ s, s < 2 ^ m → rk l s ≤ rk l (2 ^ m - 1) := fun s hs => hb.rk.mono s _ (subB_iff.2 fun j hj => by rw [full_bit]; simp; exact bit_n hs hj)
theorem Tbl.belowF {g : Nat} {w w' : World} {T : Nat} {f : Nat → Nat} (h : Tbl g w T f) (hb : Below w.heap.size w w') : Tbl g w' T f :=
  ⟨fun i hi => (hb.cell (p := ⟨g, i, none⟩) h.size).trans (h.cell i hi), fun i => (froz_below hb h.size).trans (h.frozen i), Nat.lt_of_lt_of_le h.size hb.size⟩
theorem Mobius_bad (n : Int) (v : Value) (zs : List Int) (w : World) (h : Ints w v zs) (hc : chkR n zs ≠ 0) :
    Calls Try.prog 21 #[.agg #[.int .i64 n, v]] w fun e w' => e = .returned (.tuple #[.slice none 0 0, .int .i64 (chkR n zs)]) ∧ Below w.heap.size w w' := by
  have HI := hid h
  obtain ⟨a, cap, rfl, _, _⟩ := h
  have HB0 := hid (below_box w #[.int .i64 n, .slice a zs.length cap])
  have HC := hid (Flats_bad n _ zs _ (HI.out.below HB0.out) hc)
  generalize chkR n zs = q at *
  have hc' : (q == 0) = false := by rw [beq_eq_false_iff_ne]; exact hc
  go_enter Try.func21, Try.ntmps21
  go_wp2_with fail
  refine HC.out.mono ?_
  rintro e w2 ⟨rfl, hb2⟩
  have HB := hid (HB0.out.trans (hb2.mono HB0.out.size))
  clear hb2
  go_wp2_with fail
  go_ret2
  exact ⟨rfl, HB.out⟩
theorem Mobius_ok (m : Nat) (v : Value) (l : List Nat) (w : World) (hm : m ≤ 8) (hf : Fam m l) (hb : Bas l) (h : Ints w v (N l)) :
    Calls Try.prog 21 #[.agg #[.int .i64 m, v]] w fun e w' => ∃ u, e = .returned (.tuple #[u, .int .i64 0]) ∧ RkZ w' u (fltL m (rk l)).length (mobF (rk l) m) ∧ Below w.heap.size w w' := by
  have HI := hid h
  obtain ⟨a, cap, hv, -, -⟩ := h.nats
  subst hv
  have HB0 := hid (below_box w #[.int .i64 m, .slice a l.length cap])
  have HC := hid (Flats_ok m _ l _ hm hf hb (HI.out.below HB0.out))
  have HM := hid (fun v w h => mobius_any v m (rk l) w hm hb.rk h)
  have hlen : (fltL m (rk l)).length ≤ 256 := flt_len hm
  have HX : Hid ((List.range (2 ^ m)).filter (flatB (rk l) m) = fltL m (rk l)) := rfl
  rw [HX.out] at HC
  clear HX
  generalize mobF (rk l) m = mf at *
  generalize fltL m (rk l) = fs at *
  go_enter Try.func21, Try.ntmps21
  go_wp2_with fail
  refine HC.out.mono ?_
  rintro e w2 ⟨r, rfl, ho, hb2⟩
  have HB := hid (HB0.out.trans (hb2.mono HB0.out.size))
  have HN := hid (HM.out r w2 (ho.ints (by omega)))
  clear hb2 ho HM
  go_wp2_with fail
  refine HN.out.mono ?_
  rintro e w3 ⟨u, rfl, hu, hb3⟩
  have HU := hid hu
  have HB3 := hid (HB.out.trans (hb3.mono HB.out.size))
  clear hu hb3
  go_wp2_with fail
  go_ret2
  exact ⟨_, rfl, HU.out, HB3.out⟩
theorem Characteristic_bad (n : Int) (v : Value) (zs : List Int) (w : World) (h : Ints w v zs) (hc : chkR n zs ≠ 0) :
    Calls Try.prog 10 #[.agg #[.int .i64 n, v]] w fun e w' => e = .returned (.tuple #[.slice none 0 0, .int .i64 (chkR n zs)]) ∧ Below w.heap.size w w' := by
  have HI := hid h
  obtain ⟨a, cap, rfl, _, _⟩ := h
  have HB0 := hid (below_box w #[.int .i64 n, .slice a zs.length cap])
  have HC := hid (Ranks_bad n _ zs _ (HI.out.below HB0.out) hc)
  generalize chkR n zs = q at *
  have hc' : (q == 0) = false := by rw [beq_eq_false_iff_ne]; exact hc
  go_enter Try.func10, Try.ntmps10
  go_wp2_with fail
  refine HC.out.mono ?_
  rintro e w2 ⟨rfl, hb2⟩
  have HB := hid (HB0.out.trans (hb2.mono HB0.out.size))
  clear hb2
  go_wp2_with fail
  go_ret2
  exact ⟨rfl, HB.out⟩
theorem Characteristic_ok (m : Nat) (v : Value) (l : List Nat) (w : World) (hm : m ≤ 8) (hf : Fam m l) (hb : Bas l) (h : Ints w v (N l)) :
    Calls Try.prog 10 #[.agg #[.int .i64 m, v]] w fun e w' => ∃ u, e = .returned (.tuple #[u, .int .i64 0]) ∧ RkZ w' u (rk l (2 ^ m - 1) + 1) (chrS (rk l) (rk l (2 ^ m - 1)) (2 ^ m)) ∧ Below w.heap.size w w' := by
  have HI := hid h
  obtain ⟨a, cap, hv, -, -⟩ := h.nats
  subst hv
  have HB0 := hid (below_box w #[.int .i64 m, .slice a l.length cap])
  have HC := hid (Ranks_ok m _ l _ hm hf hb (HI.out.below HB0.out))
  have HM := hid (fun v w h => characteristic_any v m (rk l) w hm (rk_small hm hf) (rk_top hb) h)
  generalize chrS (rk l) (rk l (2 ^ m - 1)) (2 ^ m) = mf at *
  generalize rk l (2 ^ m - 1) + 1 = N1 at *
  generalize 2 ^ m = T at *
  go_enter Try.func10, Try.ntmps10
  go_wp2_with fail
  refine HC.out.mono ?_
  rintro e w2 ⟨r, rfl, ho, hb2⟩
  have HB := hid (HB0.out.trans (hb2.mono HB0.out.size))
  have HN := hid (HM.out r w2 ho)
  clear hb2 ho HM
  go_wp2_with fail
  refine HN.out.mono ?_
  rintro e w3 ⟨u, rfl, hu, hb3⟩
  have HU := hid hu
  have HB3 := hid (HB.out.trans (hb3.mono HB.out.size))
  clear hu hb3
  go_wp2_with fail
  go_ret2
  exact ⟨_, rfl, HU.out, HB3.out⟩
theorem count_bad (g : Nat) (n : Int) (v : Value) (zs : List Int) (w : World) (h : Ints w v zs) (hc : chkR n zs ≠ 0) :
    Calls Try.prog 34 #[.agg #[.int .i64 n, v], .func (.func g) #[] #[]] w fun e w' => e = .returned (.tuple #[.slice none 0 0, .int .i64 (chkR n zs)]) ∧ Below w.heap.size w w' := by
  have HI := hid h
  obtain ⟨a, cap, rfl, _, _⟩ := h
  have HB0 := hid (below_box w #[.int .i64 n, .slice a zs.length cap])
  have HC := hid (Ranks_bad n _ zs _ (HI.out.below HB0.out) hc)
  generalize chkR n zs = q at *
  have hc' : (q == 0) = false := by rw [beq_eq_false_iff_ne]; exact hc
  go_enter Try.func34, Try.ntmps34
  go_wp2_with fail
  refine HC.out.mono ?_
  rintro e w2 ⟨rfl, hb2⟩
  have HB := hid (HB0.out.trans (hb2.mono HB0.out.size))
  clear hb2
  go_wp2_with fail
  go_ret2
  exact ⟨rfl, HB.out⟩
set_option maxRecDepth 20000 in
set_option maxHeartbeats 2000000 in
theorem count_ok (g m : Nat) (v : Value) (l : List Nat) (p : Nat → Bool) (w : World) (hm : m ≤ 8) (hf : Fam m l) (hb : Bas l) (h : Ints w v (N l)) (eg : Enters g) (hg : ByRank g (2 ^ m) (rk l) p) :
    Calls Try.prog 34 #[.agg #[.int .i64 m, v], .func (.func g) #[] #[]] w fun e w' => ∃ u, e = .returned (.tuple #[u, .int .i64 0]) ∧ RkAt w' u (rk l (2 ^ m - 1) + 1) (cntS p (rk l) (2 ^ m)) ∧ Below w.heap.size w w' := by
  have HI := hid h
  obtain ⟨a, cap, hv, -, -⟩ := h.nats
  subst hv
  have HB0 := hid (below_box w #[.int .i64 m, .slice a l.length cap])
  have HC := hid (Ranks_ok m _ l _ hm hf hb (HI.out.below HB0.out))
  have hr8 := rk_small hm hf
  have hmo := rk_top (m := m) hb
  obtain ⟨T, HT, hT2, hT1⟩ : ∃ T : Nat, Hid (2 ^ m = T) ∧ T ≤ 256 ∧ 1 ≤ T := ⟨2 ^ m, Eq.refl (2 ^ m), (pow_wrap _ hm).2, Nat.one_le_two_pow⟩
  rw [HT.out] at HC hmo hg ⊢
  obtain ⟨A, hA, hAT⟩ : ∃ A : Nat, (T : Int) - 1 = (A : Int) ∧ A + 1 = T := ⟨T - 1, by omega, by omega⟩
  have hA2 : T - 1 = A := by omega
  rw [hA2] at hmo ⊢
  clear hA2 HT
  have hR8 := hr8 A
  have HM := hid hmo
  have H8 := hid hr8
  clear hmo hr8
  obtain ⟨R, HRA⟩ : ∃ R, Hid (rk l A = R) := ⟨_, rfl⟩
  rw [HRA.out] at hR8 HM ⊢
  obtain ⟨N1, hN1, hN2⟩ : ∃ N1 : Nat, (R : Int) + 1 = (N1 : Int) ∧ N1 = R + 1 := ⟨R + 1, by omega, rfl⟩
  rw [← hN2]
  have hmk := fun w => run_make_row' (P := Try.prog) 22 3 (.int .i64 0) 8 Try.underlying22 Try.infoInt rfl .i64 .i64 N1 (by omega) (by omega) w
  have HN2 := hid hN2
  have HEG := hid eg
  unfold Enters at eg
  clear hN2
  generalize rk l = r at *
  go_enter Try.func34, Try.ntmps34
  go_wp2_with fail
  refine HC.out.mono ?_
  rintro e w2 ⟨ru, rfl, hru, hb2⟩
  have HB2 := hid (HB0.out.trans (hb2.mono HB0.out.size))
  have HR := hid hru
  obtain ⟨rb, roff, rcap, rfl, hrb, -⟩ := hru
  have c0 := HR.out.cellAt (Below.refl _ _) (i := A) (by omega)
  rw [HRA.out] at c0
  have tb := Tbl.new w2 N1
  have hB3 : Below w2.heap.size w2 (w2.alloc (.cells (madeCells #[.int .i64 0] N1) 3)) := (Below.refl _ _).alloc (Nat.le_refl _) _
  obtain ⟨W1, hW1⟩ : ∃ W1, w2.alloc (.cells (madeCells #[.int .i64 0] N1) 3) = W1 := ⟨_, rfl⟩
  rw [hW1] at tb hB3
  have HTB := hid tb
  have HB3 := hid hB3
  clear hb2 tb hB3 HC
  go_wp2_with fail
  clear hmk hW1
  have hs2 := HB2.out.size
  go_loopw [29] (fun i wr => ∃ k : Nat, k ≤ T ∧ i = .int .i64 k ∧ Hid (Tbl w2.heap.size wr N1 (cntS p r k)) ∧ Hid (Below w2.heap.size W1 wr)) (fun i _ => T - (intOf i).toNat)
  case atStart => exact ⟨0, Nat.zero_le _, rfl, HTB.out, Below.refl _ _⟩
  case round =>
    obtain ⟨k, hk, rfl, HK, HW⟩ := hrel
    by_cases hlt : k < T
    · have x1 := HR.out.cellAt (HB3.out.trans HW.out) hlt
      have r8 := H8.out k
      have rm := HM.out k hlt
      have dN : r k < N1 := by rw [HN2.out]; omega
      have hdi : (r k : Int) < (N1 : Int) := by omega
      have G1 := hid (hg _ k wr hlt (HR.out.below (HB3.out.trans HW.out)))
      have cb := cnt_le p r k (r k)
      have hk1 : w2.heap.size < wr.heap.size := HK.out.size
      have ST := hid (cnt_step p r k)
      obtain ⟨pk, hpk⟩ : ∃ pk, p k = pk := ⟨_, rfl⟩
      rw [hpk] at G1 ST
      clear hpk
      cases pk
      · have HK2 := hid (HK.out.congr (f' := cntS p r (k + 1)) (fun i _ => by rw [ST.out]; simp))
        clear HK
        generalize r k = rk0 at *
        go_wp2_with fail
        refine G1.out.mono ?_
        rintro e w3 ⟨rfl, hb3⟩
        have F := hid (HK2.out.belowF hb3)
        have F2 := hid (HW.out.trans (hb3.mono (Nat.le_of_lt hk1)))
        clear hb3
        go_wp2_with fail
        go_roundw
        case rel => exact ⟨k + 1, by omega, by go_num, F.out, F2.out⟩
        case measure => simp [intOf]; omega
      · have HK2 := hid HK.out
        clear HK
        go_wp2_with fail
        refine G1.out.mono ?_
        rintro e w3 ⟨rfl, hb3⟩
        have F := hid (HK2.out.belowF hb3)
        have F2 := hid (HW.out.trans (hb3.mono (Nat.le_of_lt hk1)))
        have y1 := F.out.cell _ dN
        have y2 := F.out.frozen (r k)
        have G := hid (F.out.set (f' := cntS p r (k + 1)) (r k) (cntS p r k (r k) + 1) dN (fun i _ => by
          rw [ST.out]
          by_cases e : r k = i
          · subst e; simp
          · simp [e]))
        have cw : ((cntS p r k (r k) + 1 : Nat) : Int) = (cntS p r k (r k) : Int) + 1 := by omega
        rw [cw] at G
        clear hb3 cw F HK2
        generalize cntS p r k (r k) = c at *
        generalize r k = rk0 at *
        go_wp2_with fail
        go_roundw
        case rel => exact ⟨k + 1, by omega, by go_num, G.out, F2.out.setCell (p := ⟨w2.heap.size, rk0, none⟩) (Nat.le_refl _) _⟩
        case measure => simp [intOf]; omega
    · obtain rfl : k = T := by omega
      have HF := hid (HB2.out.trans ((HB3.out.trans HW.out).mono hs2))
      go_wp2_with fail
      go_ret2
      exact ⟨_, rfl, HK.out.rkAt, HF.out⟩
end Go.Proofs.Ytpmpfnbgjgjlgab
