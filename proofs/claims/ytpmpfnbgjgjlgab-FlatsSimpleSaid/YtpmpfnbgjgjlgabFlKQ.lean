/- (lattice).chains, flats.Chains. -/
import Derived.Test.YtpmpfnbgjgjlgabFlIQ
import Derived.Test.YtpmpfnbgjgjlgabPlainAll
namespace Go.Proofs.Ytpmpfnbgjgjlgab
open Go.RowKit

theorem Tbl.saveK {X : Nat → Prop} {g : Nat} {w w' : World} {T : Nat} {f : Nat → Nat} (h : Tbl g w T f) (hs : Save X w w') (hg : ¬ X g) : Tbl g w' T f :=
  ⟨fun i hi => (World.cell?_of_block (w := w) (hs.block g h.size hg)).trans (h.cell i hi), fun i => by
    have e := hs.block g h.size hg
    have := h.frozen i
    unfold World.frozen? at this ⊢
    rw [e]
    exact this, Nat.lt_of_lt_of_le h.size hs.size⟩
set_option maxRecDepth 20000 in
set_option maxHeartbeats 4000000 in
theorem chains_any (fv rv : Value) (n : Nat) (r : Nat → Nat) (w : World) (hn : n ≤ 8) (hR : Rk r) (hr8 : ∀ i, r i ≤ 8) (h : Ints w fv (N (fltL n r))) (hr : RkAt w rv (2 ^ n) r) :
    Calls Try.prog 39 #[.agg #[fv, rv]] w fun e w' => e = .returned (.int .i64 (upN n r (2 ^ n - 1) : Nat)) ∧ Below w.heap.size w w' := by
  have hp := flt_pos hn hR
  have hlen : (fltL n r).length ≤ 256 := flt_len hn
  have CV := hid (fun f w' (hf : f < 2 ^ n) (hb : Below w.heap.size w w') => covers_any fv rv (fltL n r) (2 ^ n) f r w' (pow_wrap n hn).2 (fun x hx => (flt_mem.1 hx).1) hlen hf hr8 (h.below hb) (hr.below hb))
  have HFL := hid (fun i (hi : i < (fltL n r).length) => (flt_getD (r := r) hi).1)
  have HF0 := hid (flt_zero hn hR)
  have HZ := hid (fun x => tS_zero n r x)
  have HSF := hid (fun k (hk : k < (fltL n r).length) j => tI_self hn hR hk j)
  have HTZ := hid (fun k x => tI_zero n r k x)
  have HEN := hid (fun k x (hx : x < 2 ^ n) => tI_end (n := n) (r := r) (k := k) hx)
  have HST := hid (fun k j (hj : j < (nxtF (fltL n r) r ((fltL n r).getD k 0)).length) x => tI_step (n := n) (r := r) (k := k) hj x)
  have HCM := hid (fun f x (hx : x ∈ nxtF (fltL n r) r f) => (nxtF_mem.1 hx).1)
  have HBD := hid (fun k j x (hk : k < (fltL n r).length) (hx : x ∈ nxtF (fltL n r) r ((fltL n r).getD k 0)) => tI_bound (j := j) hn hR hk (List.mem_filter.1 hx).1)
  have HUB := hid (fun x (hx : x < 2 ^ n) => up_bound hn hR hx)
  have HTE := hid (tS_end hn hR)
  have HCL : Hid (∀ f, (nxtF (fltL n r) r f).length ≤ 256) := fun f => Nat.le_trans (List.length_filter_le _ _) hlen
  obtain ⟨fa, fcap, rfl, -, hcc⟩ := h.nats
  obtain ⟨fb, fo, rfl, hfb, hcell⟩ := hcc hp
  have HR := hid hr
  obtain ⟨rb, ro, rc, rfl, hrb, -⟩ := hr
  have HT2 : 2 ^ n ≤ 256 := (pow_wrap n hn).2
  have hT1 : 1 ≤ 2 ^ n := Nat.one_le_two_pow
  have HLO : Hid (loopS r n < 2 ^ n) := loop_lt hn
  generalize tS n r = ts at *
  generalize tI n r = ti at *
  generalize upN n r = up at *
  generalize loopS r n = lo at *
  generalize fltL n r = fs at *
  obtain ⟨A, hA, hA1⟩ : ∃ A : Nat, ((2 ^ n : Nat) : Int) - 1 = (A : Int) ∧ 2 ^ n - 1 = A := ⟨2 ^ n - 1, by omega, rfl⟩
  have hAT : A < 2 ^ n := by omega
  rw [hA1] at HTE ⊢
  clear hA1
  generalize 2 ^ n = T at *
  have hB0 : Below w.heap.size w (w.alloc (.cells #[.slice (some ⟨fb, fo, none⟩) fs.length fcap, .slice (some ⟨rb, ro, none⟩) T rc] 48)) := (Below.refl _ _).alloc (Nat.le_refl _) _
  have hx := World.alloc_heap_new w (.cells #[.slice (some ⟨fb, fo, none⟩) fs.length fcap, .slice (some ⟨rb, ro, none⟩) T rc] 48)
  have hsz : (w.alloc (.cells #[.slice (some ⟨fb, fo, none⟩) fs.length fcap, .slice (some ⟨rb, ro, none⟩) T rc] 48)).heap.size = w.heap.size + 1 := World.size_alloc ..
  obtain ⟨W0, hW0⟩ : ∃ W0, w.alloc (.cells #[.slice (some ⟨fb, fo, none⟩) fs.length fcap, .slice (some ⟨rb, ro, none⟩) T rc] 48) = W0 := ⟨_, rfl⟩
  rw [hW0] at hB0 hx hsz
  have hsw : w.heap.size < W0.heap.size := by omega
  have HB0 := hid hB0
  have HX := hid hx
  clear hsz
  obtain ⟨x0, x1, -, -⟩ := two_cells hx
  have hmk := fun w => run_make_row' (P := Try.prog) 22 3 (.int .i64 0) 8 Try.underlying22 Try.infoInt rfl .i64 .i64 T (by omega) (by omega) w
  have tb := Tbl.new W0 T
  have hB1 : Below W0.heap.size W0 (W0.alloc (.cells (madeCells #[.int .i64 0] T) 3)) := (Below.refl _ _).alloc (Nat.le_refl _) _
  obtain ⟨W1, hW1⟩ : ∃ W1, W0.alloc (.cells (madeCells #[.int .i64 0] T) 3) = W1 := ⟨_, rfl⟩
  rw [hW1] at tb hB1
  have hxx := (hB1.block w.heap.size hsw).trans hx
  obtain ⟨y0, y1, -, -⟩ := two_cells hxx
  have HB1 := hid hB1
  have HTB := hid tb
  have c0 := ((HB0.out.trans (HB1.out.mono HB0.out.size)).cell (p := ⟨fb, fo + 0, none⟩) hfb).trans (hcell 0 hp)
  rw [HF0.out, Nat.add_zero] at c0
  have t0 := tb.cell lo HLO.out
  have t1 := tb.frozen lo
  have loT : (lo : Int) < (T : Int) := by have := HLO.out; omega
  have hpi : (0 : Int) < (fs.length : Int) := by omega
  have HCELL := hid hcell
  clear hB0 hx hcc h hB1 tb hxx hcell
  go_enter Try.func39, Try.ntmps39
  go_wp2_with fail
  have T2 := hid (HTB.out.set (f' := ts 0) lo 1 HLO.out (fun i _ => HZ.out i))
  have hB2 := (Below.refl W0.heap.size W1).setCell (p := ⟨W0.heap.size, lo, none⟩) (Nat.le_refl _) (.int .i64 1)
  obtain ⟨W2, HW2⟩ : ∃ W2, Hid (W1.setCell ⟨W0.heap.size, lo, none⟩ (.int .i64 1) = W2) := ⟨_, rfl⟩
  have e1 : Value.int .i64 ((1 : Nat) : Int) = Value.int .i64 1 := rfl
  rw [e1] at T2
  rw [HW2.out] at T2 hB2 ⊢
  have HB2 := hid (HB1.out.trans hB2)
  have hx2 := (HB2.out.block w.heap.size hsw).trans HX.out
  have z0 := (two_cells hx2).1
  clear HW2 hB2 hmk hW0 hW1 c0 t0 t1 e1 hx2 x0 x1 y0 y1
  go_wp2_with fail
  go_loopw [21] (fun i wr => ∃ k : Nat, k ≤ fs.length ∧ i = .int .i64 k ∧ Hid (Tbl W0.heap.size wr T (ts k)) ∧ Hid (Below W0.heap.size W0 wr)) (fun i _ => fs.length - (intOf i).toNat)
  case atStart => exact ⟨0, Nat.zero_le _, rfl, T2.out, HB2.out⟩
  case round =>
    obtain ⟨k, hk, rfl, HK, HW⟩ := hrel
    have hgw : W0.heap.size < wr.heap.size := HK.out.size
    by_cases hlt : k < fs.length
    · have hbw := HB0.out.trans (HW.out.mono HB0.out.size)
      have q1 := (hbw.cell (p := ⟨fb, fo + k, none⟩) hfb).trans (HCELL.out k hlt)
      have hxw := (HW.out.block w.heap.size hsw).trans HX.out
      obtain ⟨y0, y1, -, -⟩ := two_cells hxw
      have fT := HFL.out k hlt
      have C1 := hid (CV.out _ wr fT hbw)
      have K1 := hid (HK.out.congr (f' := ti k 0) (fun i _ => HTZ.out k i))
      have SF := hid (HSF.out k hlt)
      have EN := hid (HEN.out k)
      have ST := hid (HST.out k)
      have BD := hid (fun j x hx => HBD.out k j x hlt hx)
      have UB := HUB.out _ fT
      have CL := HCL.out (fs.getD k 0)
      have CM := hid (fun x hx => HCM.out (fs.getD k 0) x hx)
      have fTi : (fs.getD k 0 : Int) < (T : Int) := by omega
      clear hbw hxw CV HFL HSF HEN HST HBD HUB HCL HK HTZ
      generalize hcf : nxtF fs r (fs.getD k 0) = C at *
      clear hcf
      generalize fs.getD k 0 = f at *
      generalize up f = uf at *
      go_wp2_with fail
      refine C1.out.mono ?_
      rintro e w5 ⟨cv, rfl, ho5, hb5⟩
      have K5 := hid (K1.out.belowF hb5)
      have HW5 := hid (HW.out.trans (hb5.mono (Nat.le_of_lt hgw)))
      have HI5 := hid (ho5.ints (by omega))
      have hmem := ho5
      obtain ⟨ca, cc, hcv⟩ := ownsRow_form' ho5
      subst hcv
      have HOB : Hid (∀ b o, ca = some ⟨b, o, none⟩ → wr.heap.size ≤ b ∧ b < w5.heap.size) := fun b o e => by
        subst e
        exact World.ownsRow.lt hmem b rfl
      clear hmem ho5 hb5 C1 K1 q1 y0 y1
      go_wp2_with fail
      go_loopw [29] (fun i wr' => ∃ j : Nat, j ≤ C.length ∧ i = .int .i64 j ∧ Hid (Tbl W0.heap.size wr' T (ti k j)) ∧ Hid (Save (fun b => b = W0.heap.size) w5 wr')) (fun i _ => C.length - (intOf i).toNat)
      case atStart => exact ⟨0, Nat.zero_le _, rfl, K5.out, Save.refl _ _⟩
      case round =>
        obtain ⟨j, hj, rfl, HJ, HS⟩ := hrel
        by_cases hlt' : j < C.length
        · obtain ⟨a', c', hv', -, hcc⟩ := HI5.out.nats
          obtain ⟨b, off, rfl, hbb, hcell⟩ := hcc (by omega)
          obtain ⟨rfl, rfl⟩ : ca = some ⟨b, off, none⟩ ∧ cc = c' := by simpa using hv'
          have hbo := HOB.out b off rfl
          have q1 := (World.cell?_of_block (w := w5) (a := ⟨b, off + j, none⟩) (HS.out.block b hbo.2 (by omega))).trans (hcell j hlt')
          have hgm : C.getD j 0 ∈ C := by simp [List.getD, hlt']
          have gT := CM.out _ hgm
          have q2 := HJ.out.cell _ gT
          have q3 := HJ.out.cell _ fT
          have q4 := HJ.out.frozen (C.getD j 0)
          rw [SF.out j] at q3
          have b1 := BD.out j _ hgm
          have gTi : (C.getD j 0 : Int) < (T : Int) := by omega
          have G : Hid (∀ m, Tbl W0.heap.size ((wr.drewN m).setCell ⟨W0.heap.size, C.getD j 0, none⟩ (.int .i64 ((ti k j (C.getD j 0) : Int) + (uf : Int)))) T (ti k (j + 1))) := fun m => by
            have := (HJ.out.drewN m).set (f' := ti k (j + 1)) (C.getD j 0) (ti k j (C.getD j 0) + uf) gT (fun i _ => by
              rw [ST.out j hlt']
              by_cases e : C.getD j 0 = i
              · rw [if_pos e, if_pos e, e]
              · rw [if_neg e, if_neg e])
            rwa [show ((ti k j (C.getD j 0) + uf : Nat) : Int) = (ti k j (C.getD j 0) : Int) + (uf : Int) by omega] at this
          have SS : Hid (∀ (m : Nat) (x : Value), Save (fun b => b = W0.heap.size) w5 ((wr.drewN m).setCell ⟨W0.heap.size, C.getD j 0, none⟩ x)) := fun m x => (HS.out.trans (Save.of_below (drewN_below _ _ m))).setCell (p := ⟨W0.heap.size, C.getD j 0, none⟩) (.inl rfl) x
          have hwp : IntKind.i64.wrap ((ti k j (C.getD j 0) : Int) + (uf : Int)) = (ti k j (C.getD j 0) : Int) + (uf : Int) := IntWalk.i64_in _ (by omega)
          clear HJ hcell hcc hv' HS
          generalize ti k j (C.getD j 0) = tg at *
          generalize C.getD j 0 = g at *
          go_wp2_with fail
          go_region_with fail
          all_goals go_wp2_with fail
          all_goals exact ⟨⟨j + 1, by omega, by go_num, G.out _, SS.out _ _⟩, by simp [intOf]; omega⟩
        · obtain rfl : j = C.length := by omega
          have F1 := hid (HJ.out.congr (f' := ts (k + 1)) (fun i hi => (EN.out i hi).symm))
          have F2 := hid (HS.out.below HW5.out (by have := HW5.out.size; omega) (fun k e => by omega))
          go_wp2_with fail
          go_roundw
          case rel => exact ⟨k + 1, by omega, by go_num, F1.out, F2.out⟩
          case measure => simp [intOf]; omega
    · obtain rfl : k = fs.length := by omega
      have hAi : (A : Int) < (T : Int) := by omega
      have q1 := HK.out.cell A hAT
      rw [HTE.out] at q1
      have HF := hid (HB0.out.trans (HW.out.mono HB0.out.size))
      go_wp2_with fail
      go_ret
      exact ⟨rfl, HF.out⟩
theorem Chains_bad (n : Int) (v : Value) (zs : List Int) (w : World) (h : Ints w v zs) (hc : chkR n zs ≠ 0) :
    Calls Try.prog 20 #[.agg #[.int .i64 n, v]] w fun e w' => e = .returned (.tuple #[.int .i64 0, .int .i64 (chkR n zs)]) ∧ Below w.heap.size w w' := by
  have HI := hid h
  obtain ⟨a, cap, rfl, _, _⟩ := h
  have HB0 := hid (below_box w #[.int .i64 n, .slice a zs.length cap])
  have HC := hid (latticeOf_bad n _ zs _ (HI.out.below HB0.out) hc)
  generalize chkR n zs = q at *
  have hc' : (q == 0) = false := by rw [beq_eq_false_iff_ne]; exact hc
  go_enter Try.func20, Try.ntmps20
  go_wp2_with fail
  refine HC.out.mono ?_
  rintro e w2 ⟨rfl, hb2⟩
  have HB := hid ((HB0.out.trans (hb2.mono HB0.out.size)).alloc (HB0.out.trans (hb2.mono HB0.out.size)).size (.cells #[.slice none 0 0, .slice none 0 0] 48))
  clear hb2
  go_wp2_with fail
  go_ret2
  exact ⟨rfl, HB.out⟩
set_option maxRecDepth 20000 in
set_option maxHeartbeats 1000000 in
theorem Chains_ok (m : Nat) (v : Value) (l : List Nat) (w : World) (hm : m ≤ 8) (hf : Fam m l) (hb : Bas l) (h : Ints w v (N l)) :
    Calls Try.prog 20 #[.agg #[.int .i64 m, v]] w fun e w' => e = .returned (.tuple #[.int .i64 (upN m (rk l) (2 ^ m - 1) : Nat), .int .i64 0]) ∧ Below w.heap.size w w' := by
  have HI := hid h
  obtain ⟨a, cap, hv, -, -⟩ := h.nats
  subst hv
  have HB0 := hid (below_box w #[.int .i64 m, .slice a l.length cap])
  have HC := hid (latticeOf_ok m _ l _ hm hf hb (HI.out.below HB0.out))
  have hlen : (fltL m (rk l)).length ≤ 256 := flt_len hm
  have CV := hid (fun fv rv w (h1 : Ints w fv (N (fltL m (rk l)))) (h2 : RkAt w rv (2 ^ m) (rk l)) => chains_any fv rv m (rk l) w hm hb.rk (rk_small hm hf) h1 h2)
  clear hf hb h
  generalize upN m (rk l) (2 ^ m - 1) = ans at *
  generalize 2 ^ m = T at *
  generalize fltL m (rk l) = fs at *
  generalize rk l = r at *
  go_enter Try.func20, Try.ntmps20
  go_wp2_with fail
  refine HC.out.mono ?_
  rintro e w2 ⟨fv, rv, rfl, ho2, hr2, hb2⟩
  have HB2 := hid (HB0.out.trans (hb2.mono HB0.out.size))
  have HI2 := hid (ho2.ints (by omega))
  have HR2 := hid hr2.rkAt
  obtain ⟨fa, fc, hfv⟩ := ownsRow_form' ho2
  subst hfv
  obtain ⟨rb, ro, rc, rfl, -, -, -⟩ := hr2
  have hb3 : Below w2.heap.size w2 (w2.alloc (.cells #[.slice fa fs.length fc, .slice (some ⟨rb, ro, none⟩) T rc] 48)) := (Below.refl _ _).alloc (Nat.le_refl _) _
  have hx2 := World.alloc_heap_new w2 (.cells #[.slice fa fs.length fc, .slice (some ⟨rb, ro, none⟩) T rc] 48)
  obtain ⟨W3, hW3⟩ : ∃ W3, w2.alloc (.cells #[.slice fa fs.length fc, .slice (some ⟨rb, ro, none⟩) T rc] 48) = W3 := ⟨_, rfl⟩
  rw [hW3] at hx2 hb3
  have HB3 := hid (HB2.out.trans (hb3.mono HB2.out.size))
  obtain ⟨z0, z1, -, -⟩ := two_cells hx2
  have CV3 := hid (CV.out _ _ W3 (HI2.out.below hb3) (HR2.out.below hb3))
  clear hb2 hb3 hx2 HC ho2 CV HI2 HR2
  go_wp2_with fail
  refine CV3.out.mono ?_
  rintro e w4 ⟨rfl, hb4⟩
  have HB4 := hid (HB3.out.trans (hb4.mono HB3.out.size))
  clear hb4
  go_wp2_with fail
  go_ret2
  exact ⟨rfl, HB4.out⟩
end Go.Proofs.Ytpmpfnbgjgjlgab
