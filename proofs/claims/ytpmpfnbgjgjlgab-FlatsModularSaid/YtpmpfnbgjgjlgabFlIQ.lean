/- flats.latticeAt; (lattice).covers, isModular. -/
import Derived.Test.YtpmpfnbgjgjlgabFlHQ
import Derived.Test.YtpmpfnbgjgjlgabGrBQ
import Derived.Test.YtpmpfnbgjgjlgabPlainAll
namespace Go.Proofs.Ytpmpfnbgjgjlgab
open Go.RowKit

set_option maxRecDepth 20000 in
set_option maxHeartbeats 1000000 in
theorem latticeAt_bad (n f : Int) (v : Value) (zs : List Int) (w : World) (h : Ints w v zs) (hc : chkR n zs ≠ 0) :
    Calls Try.prog 22 #[.agg #[.int .i64 n, v], .int .i64 f] w fun e w' => e = .returned (.tuple #[.agg #[.slice none 0 0, .slice none 0 0], .int .i64 (chkR n zs)]) ∧ Below w.heap.size w w' := by
  have HI := hid h
  obtain ⟨a, cap, rfl, _, _⟩ := h
  have HB0 := hid (boxL_below w n (.slice a zs.length cap))
  have HC := hid (latticeOf_bad n _ zs _ (HI.out.below HB0.out) hc)
  have HX : Hid (∀ w2, Below (boxL w n (.slice a zs.length cap)).heap.size (boxL w n (.slice a zs.length cap)) w2 → _) := fun w2 h => boxL_blocks h
  have HSZ := hid (boxL_size w n (.slice a zs.length cap))
  generalize chkR n zs = q at *
  have hc' : (q == 0) = false := by rw [beq_eq_false_iff_ne]; exact hc
  go_enter Try.func22, Try.ntmps22
  go_wp2_with fail
  refine HC.out.mono ?_
  rintro e w2 ⟨rfl, hb2⟩
  have hs2 : w.heap.size + 2 ≤ w2.heap.size := by rw [← HSZ.out]; exact hb2.size
  have HB2 := hid (HB0.out.trans (hb2.mono HB0.out.size))
  obtain ⟨b0, b1⟩ := HX.out w2 hb2
  have hb3 : Below w2.heap.size w2 (w2.alloc (.cells #[.slice none 0 0, .slice none 0 0] 48)) := (Below.refl _ _).alloc (Nat.le_refl _) _
  have hx1 := (hb3.block (w.heap.size + 1) (by omega)).trans b1
  have HB3 := hid (HB2.out.trans (hb3.mono HB2.out.size))
  obtain ⟨y0, y1, y2, y3⟩ := two_cells hx1
  have HS := hid (set_two (x := .slice none 0 0) (y := .slice none 0 0) hx1)
  have HB4 := hid (below_two (x := .slice none 0 0) (y := .slice none 0 0) HB3.out (b := w.heap.size + 1) (by omega))
  clear hb2 hb3 hx1
  go_wp2_with fail
  obtain ⟨c0, c1⟩ := HS.out
  refine bodyPost_ret (v := .tuple #[.agg #[.slice none 0 0, .slice none 0 0], .int .i64 q]) ?_ rfl ⟨rfl, HB4.out⟩
  simp [results, Try.f22, go_sem, c0, c1]
set_option maxRecDepth 20000 in
set_option maxHeartbeats 1000000 in
theorem latticeAt_arg (m : Nat) (f : Int) (v : Value) (l : List Nat) (w : World) (hm : m ≤ 8) (hf : Fam m l) (hb : Bas l) (h : Ints w v (N l)) (hx : memZ f (N (fltL m (rk l))) = false) :
    Calls Try.prog 22 #[.agg #[.int .i64 m, v], .int .i64 f] w fun e w' => e = .returned (.tuple #[.agg #[.slice none 0 0, .slice none 0 0], .int .i64 1]) ∧ Below w.heap.size w w' := by
  have HI := hid h
  obtain ⟨a, cap, hv, -, -⟩ := h.nats
  subst hv
  have HB0 := hid (boxL_below w m (.slice a l.length cap))
  have HC := hid (latticeOf_ok m _ l _ hm hf hb (HI.out.below HB0.out))
  have HX : Hid (∀ w2, Below (boxL w m (.slice a l.length cap)).heap.size (boxL w m (.slice a l.length cap)) w2 → _) := fun w2 h => boxL_blocks h
  have HSZ := hid (boxL_size w m (.slice a l.length cap))
  have hlen : (fltL m (rk l)).length ≤ 256 := flt_len hm
  have HXX := hid hx
  clear hf hb h hx
  generalize 2 ^ m = T at *
  generalize fltL m (rk l) = fs at *
  generalize rk l = r at *
  go_enter Try.func22, Try.ntmps22
  go_wp2_with fail
  refine HC.out.mono ?_
  rintro e w2 ⟨fv, rv, rfl, ho2, hr2, hb2⟩
  have hs2 : w.heap.size + 2 ≤ w2.heap.size := by rw [← HSZ.out]; exact hb2.size
  have HB2 := hid (HB0.out.trans (hb2.mono HB0.out.size))
  obtain ⟨b0, b1⟩ := HX.out w2 hb2
  have HO2 := hid ho2
  have HR2 := hid hr2
  obtain ⟨fa, fc, hfv⟩ := ownsRow_form' ho2
  subst hfv
  obtain ⟨rb, ro, rc, rfl, -, -, -⟩ := hr2
  have hb3 : Below w2.heap.size w2 (w2.alloc (.cells #[.slice fa fs.length fc, .slice (some ⟨rb, ro, none⟩) T rc] 48)) := (Below.refl _ _).alloc (Nat.le_refl _) _
  have hx1 := (hb3.block (w.heap.size + 1) (by omega)).trans b1
  have hx2 := World.alloc_heap_new w2 (.cells #[.slice fa fs.length fc, .slice (some ⟨rb, ro, none⟩) T rc] 48)
  have HB3 := hid (HB2.out.trans (hb3.mono HB2.out.size))
  have HO3 := hid (HO2.out.below hb3)
  have HR3 := hid (HR2.out.below hb3)
  obtain ⟨W3, hW3⟩ : ∃ W3, w2.alloc (.cells #[.slice fa fs.length fc, .slice (some ⟨rb, ro, none⟩) T rc] 48) = W3 := ⟨_, rfl⟩
  rw [hW3] at hx1 hx2 HB3 HO3 HR3
  obtain ⟨y0, y1, y2, y3⟩ := two_cells hx1
  obtain ⟨z0, z1, -, -⟩ := two_cells hx2
  have HX1 := hid hx1
  have CT := hid (ContainsZ_any _ _ f W3 (HO3.out.ints (by omega)))
  rw [HXX.out] at CT
  clear hb2 hb3 hx1 hx2 HC HX b0 b1 ho2 HO2 HR2
  go_wp2_with fail
  refine CT.out.mono ?_
  rintro e w4 ⟨rfl, h4⟩
  obtain rfl := h4.symm
  have HS := hid (set_two (x := .slice none 0 0) (y := .slice none 0 0) HX1.out)
  have HB4 := hid (below_two (x := .slice none 0 0) (y := .slice none 0 0) HB3.out (b := w.heap.size + 1) (by omega))
  go_wp2_with fail
  obtain ⟨c0, c1⟩ := HS.out
  refine bodyPost_ret (v := .tuple #[.agg #[.slice none 0 0, .slice none 0 0], .int .i64 1]) ?_ rfl ⟨rfl, HB4.out⟩
  simp [results, Try.f22, go_sem, c0, c1]
set_option maxRecDepth 20000 in
set_option maxHeartbeats 1000000 in
theorem latticeAt_ok (m : Nat) (f : Int) (v : Value) (l : List Nat) (w : World) (hm : m ≤ 8) (hf : Fam m l) (hb : Bas l) (h : Ints w v (N l)) (hx : memZ f (N (fltL m (rk l))) = true) :
    Calls Try.prog 22 #[.agg #[.int .i64 m, v], .int .i64 f] w fun e w' => ∃ f r, e = .returned (.tuple #[.agg #[f, r], .int .i64 0]) ∧ Own w.heap.size w' f (fltL m (rk l)) ∧ RkOw w.heap.size w' r (2 ^ m) (rk l) ∧ Below w.heap.size w w' := by
  have HI := hid h
  obtain ⟨a, cap, hv, -, -⟩ := h.nats
  subst hv
  have HB0 := hid (boxL_below w m (.slice a l.length cap))
  have HC := hid (latticeOf_ok m _ l _ hm hf hb (HI.out.below HB0.out))
  have HX : Hid (∀ w2, Below (boxL w m (.slice a l.length cap)).heap.size (boxL w m (.slice a l.length cap)) w2 → _) := fun w2 h => boxL_blocks h
  have HSZ := hid (boxL_size w m (.slice a l.length cap))
  have hlen : (fltL m (rk l)).length ≤ 256 := flt_len hm
  have HXX := hid hx
  clear hf hb h hx
  generalize 2 ^ m = T at *
  generalize fltL m (rk l) = fs at *
  generalize rk l = r at *
  go_enter Try.func22, Try.ntmps22
  go_wp2_with fail
  refine HC.out.mono ?_
  rintro e w2 ⟨fv, rv, rfl, ho2, hr2, hb2⟩
  have hs2 : w.heap.size + 2 ≤ w2.heap.size := by rw [← HSZ.out]; exact hb2.size
  have HB2 := hid (HB0.out.trans (hb2.mono HB0.out.size))
  obtain ⟨b0, b1⟩ := HX.out w2 hb2
  have HO2 := hid ho2
  have HR2 := hid hr2
  obtain ⟨fa, fc, hfv⟩ := ownsRow_form' ho2
  subst hfv
  obtain ⟨rb, ro, rc, rfl, -, -, -⟩ := hr2
  have hb3 : Below w2.heap.size w2 (w2.alloc (.cells #[.slice fa fs.length fc, .slice (some ⟨rb, ro, none⟩) T rc] 48)) := (Below.refl _ _).alloc (Nat.le_refl _) _
  have hx1 := (hb3.block (w.heap.size + 1) (by omega)).trans b1
  have hx2 := World.alloc_heap_new w2 (.cells #[.slice fa fs.length fc, .slice (some ⟨rb, ro, none⟩) T rc] 48)
  have HB3 := hid (HB2.out.trans (hb3.mono HB2.out.size))
  have HO3 := hid (HO2.out.below hb3)
  have HR3 := hid (HR2.out.below hb3)
  obtain ⟨W3, hW3⟩ : ∃ W3, w2.alloc (.cells #[.slice fa fs.length fc, .slice (some ⟨rb, ro, none⟩) T rc] 48) = W3 := ⟨_, rfl⟩
  rw [hW3] at hx1 hx2 HB3 HO3 HR3
  obtain ⟨y0, y1, y2, y3⟩ := two_cells hx1
  obtain ⟨z0, z1, -, -⟩ := two_cells hx2
  have HX1 := hid hx1
  have CT := hid (ContainsZ_any _ _ f W3 (HO3.out.ints (by omega)))
  rw [HXX.out] at CT
  clear hb2 hb3 hx1 hx2 HC HX b0 b1 ho2 HO2 HR2
  go_wp2_with fail
  refine CT.out.mono ?_
  rintro e w4 ⟨rfl, h4⟩
  obtain rfl := h4.symm
  have HS := hid (set_two (x := .slice fa fs.length fc) (y := .slice (some ⟨rb, ro, none⟩) T rc) HX1.out)
  have HB4 := hid (below_two (x := .slice fa fs.length fc) (y := .slice (some ⟨rb, ro, none⟩) T rc) HB3.out (b := w.heap.size + 1) (by omega))
  have HO4 := hid ((HO3.out.set2 (b := w.heap.size + 1) (x := .slice fa fs.length fc) (y := .slice (some ⟨rb, ro, none⟩) T rc) (by show w.heap.size + 1 < (boxL w m (.slice a l.length cap)).heap.size; rw [HSZ.out]; omega)).mono (by show w.heap.size ≤ (boxL w m (.slice a l.length cap)).heap.size; rw [HSZ.out]; omega : w.heap.size ≤ _))
  have HR4 := hid ((HR3.out.save (X := fun k => k = w.heap.size + 1) (Save.setCell (X := fun k => k = w.heap.size + 1) (Save.setCell (X := fun k => k = w.heap.size + 1) (Save.refl _ W3) (p := ⟨w.heap.size + 1, 0, none⟩) (.inl rfl) (.slice fa fs.length fc)) (p := ⟨w.heap.size + 1, 1, none⟩) (.inl rfl) (.slice (some ⟨rb, ro, none⟩) T rc)) (fun k e => by show k < (boxL w m (.slice a l.length cap)).heap.size; rw [HSZ.out]; omega)).mono (by show w.heap.size ≤ (boxL w m (.slice a l.length cap)).heap.size; rw [HSZ.out]; omega : w.heap.size ≤ _))
  go_wp2_with fail
  obtain ⟨c0, c1⟩ := HS.out
  refine bodyPost_ret (v := .tuple #[.agg #[.slice fa fs.length fc, .slice (some ⟨rb, ro, none⟩) T rc], .int .i64 0]) ?_ rfl ⟨_, _, rfl, HO4.out, HR4.out, HB4.out⟩
  simp [results, Try.f22, go_sem, c0, c1]
set_option maxRecDepth 20000 in
set_option maxHeartbeats 2000000 in
theorem covers_any (fv rv : Value) (fs : List Nat) (T f : Nat) (r : Nat → Nat) (w : World) (hT : T ≤ 256) (hfs : ∀ x ∈ fs, x < T) (hlen : fs.length ≤ 256) (hfT : f < T) (hr8 : ∀ i, r i ≤ 8) (h : Ints w fv (N fs)) (hr : RkAt w rv T r) :
    Calls Try.prog 60 #[.agg #[fv, rv], .int .i64 f] w fun e w' => ∃ u, e = .returned u ∧ Own w.heap.size w' u (nxtF fs r f) ∧ Below w.heap.size w w' := by
  obtain ⟨i0, hi, hz0, hz1, hz2⟩ := info_parts Try.infoInt
  obtain ⟨fa, fcap, rfl, -, hcc⟩ := h.nats
  have HR := hid hr
  obtain ⟨rb, ro, rc, rfl, hrb, -⟩ := hr
  obtain ⟨p, HP⟩ : ∃ p : Nat → Bool, Hid ((fun g => subB f g && r g == r f + 1) = p) := ⟨_, rfl⟩
  have PX : Hid (∀ g, p g = (subB f g && r g == r f + 1)) := fun g => by rw [← HP.out]
  have HE : Hid (nxtF fs r f = (fs.take fs.length).filter p) := by show _ = _; rw [← HP.out, List.take_length]; rfl
  rw [HE.out]
  have HL : Hid (∀ k, k < fs.length → fs.getD k 0 < T) := fun k hk => hfs _ (by simp [List.getD, hk])
  have hB0 : Below w.heap.size w (w.alloc (.cells #[.slice fa fs.length fcap, .slice (some ⟨rb, ro, none⟩) T rc] 48)) := (Below.refl _ _).alloc (Nat.le_refl _) _
  have hx := World.alloc_heap_new w (.cells #[.slice fa fs.length fcap, .slice (some ⟨rb, ro, none⟩) T rc] 48)
  have hsz : (w.alloc (.cells #[.slice fa fs.length fcap, .slice (some ⟨rb, ro, none⟩) T rc] 48)).heap.size = w.heap.size + 1 := World.size_alloc ..
  obtain ⟨W0, hW0⟩ : ∃ W0, w.alloc (.cells #[.slice fa fs.length fcap, .slice (some ⟨rb, ro, none⟩) T rc] 48) = W0 := ⟨_, rfl⟩
  rw [hW0] at hB0 hx hsz
  have hsw : w.heap.size < W0.heap.size := by omega
  have HB0 := hid hB0
  have HX := hid hx
  clear hsz
  obtain ⟨x0, x1, -, -⟩ := two_cells hx
  have HCC := hid hcc
  clear HP HE hB0 hx hcc h hfs
  go_enter Try.func60, Try.ntmps60
  go_wp2_with fail
  clear hW0
  go_loopw [5, 7, 11] (fun u _ i wr => ∃ k : Nat, k ≤ fs.length ∧ i = .int .i64 k ∧ Hid (Own W0.heap.size wr u ((fs.take k).filter p)) ∧ Hid (Below W0.heap.size W0 wr)) (fun _ _ i _ => fs.length - (intOf i).toNat)
  case atStart => exact ⟨0, Nat.zero_le _, rfl, Own.nil _ _, Below.refl _ _⟩
  case round =>
    obtain ⟨k, hk, rfl, HO, HW⟩ := hrel
    by_cases hlt : k < fs.length
    · obtain ⟨b, off, rfl, hbb, hcell⟩ := HCC.out (by omega)
      have hbw := HB0.out.trans (HW.out.mono HB0.out.size)
      have z1 := (hbw.cell (p := ⟨b, off + k, none⟩) hbb).trans (hcell k hlt)
      have l1 := HL.out k hlt
      have z2 := HR.out.cellAt hbw l1
      have z3 := HR.out.cellAt hbw hfT
      have hxw := (HW.out.block w.heap.size (by omega)).trans HX.out
      obtain ⟨y0, y1, -, -⟩ := two_cells hxw
      have PK := hid (PX.out (fs.getD k 0))
      have Hhit := hid (fun hp => filter_hit (p := p) hlt hp)
      have Hmiss := hid (fun hp => filter_miss (p := p) hlt hp)
      have hfl := filter_le p fs k
      have WI := hid (fun w => within_any f (fs.getD k 0) w (by omega) (by omega))
      have r1 := hr8 (fs.getD k 0)
      have r2 := hr8 f
      have l1i : (fs.getD k 0 : Int) < (T : Int) := by omega
      have hfi : (f : Int) < (T : Int) := by omega
      have hs2 := HW.out.size
      clear hcell hbw hxw PX
      generalize (fs.take k).filter p = acc at *
      generalize fs.getD k 0 = g at *
      generalize r g = rg at *
      generalize r f = rf at *
      generalize subB f g = sb at *
      have SKIP := hid (fun m => And.intro (HO.out.below (drewN_below _ _ m)) (HW.out.trans (drewN_below _ _ m)))
      cases sb
      · have PF := Hmiss.out (by rw [PK.out]; rfl)
        have HPF := hid PF
        clear Hhit Hmiss PK PF
        go_wp2_with fail
        go_quiet ((go_at_call 33; refine (WI.out _).mono ?_; rintro e w' ⟨rfl, rfl⟩; exact ⟨rfl, _, rfl⟩))
        go_wp2_with fail
        go_roundw
        case rel => exact ⟨k + 1, by omega, by go_num, by rw [HPF.out]; exact (SKIP.out _).1, (SKIP.out _).2⟩
        case measure => simp [intOf]; omega
      · by_cases hc : rg = rf + 1
        · have hc' : ((rg : Int) == (rf : Int) + 1) = true := by rw [beq_iff_eq]; omega
          have hbe : (rg == rf + 1) = true := by rw [beq_iff_eq]; exact hc
          have HPF := hid (Hhit.out (by rw [PK.out, hbe]; rfl))
          clear Hhit Hmiss PK hc hbe
          go_wp2_with fail
          go_quiet ((go_at_call 33; refine (WI.out _).mono ?_; rintro e w' ⟨rfl, rfl⟩; exact ⟨rfl, _, rfl⟩))
          have Q1 := hid (SKIP.out nq)
          have hsq : W0.heap.size ≤ (wr.drewN nq).heap.size := hs2
          obtain ⟨W5, HW5⟩ : ∃ W5, Hid (wr.drewN nq = W5) := ⟨_, rfl⟩
          rw [HW5.out] at Q1 hsq ⊢
          clear HW5 HO HW SKIP
          go_wp2_with (at_builtin; refine wpList_append_own _ rfl _ _ 22 rfl W0.heap.size 3 i0 (.int .i64 0) 1 8 Try.underlying22 hi hz0 hz1 hz2 rfl (by decide) _ _ _ rfl (Q1.out.1.alloc _) ⟨W5.heap.size, 0, none⟩ 1 1 [.int .i64 (g : Nat)] rfl rfl ?c1 ?c2 ?c3 ?c4 ?c5 ?_)
          case c1 => exact cell_one_new _ _ _
          case c2 => first | rfl | (intro u hu; simp at hu; subst hu; rfl)
          case c3 => unfold maxLen; omega
          case c4 => omega
          case c5 => first | omega | (simp; omega)
          intro v' w5 hown' hgrow _
          have R3 := hid (Own.snoc hown')
          have R4 := hid (Own.grown Q1.out.1 Q1.out.2 (by omega) hgrow)
          clear hown' hgrow
          go_wp2_with fail
          go_roundw
          case rel => exact ⟨k + 1, by omega, by go_num, by rw [HPF.out]; exact R3.out, R4.out⟩
          case measure => simp [intOf]; omega
        · have hc' : ((rg : Int) == (rf : Int) + 1) = false := by rw [beq_eq_false_iff_ne]; omega
          have hbe : (rg == rf + 1) = false := by rw [beq_eq_false_iff_ne]; exact hc
          have HPF := hid (Hmiss.out (by rw [PK.out, hbe]; rfl))
          clear Hhit Hmiss PK hc hbe
          go_wp2_with fail
          go_quiet ((go_at_call 33; refine (WI.out _).mono ?_; rintro e w' ⟨rfl, rfl⟩; exact ⟨rfl, _, rfl⟩))
          go_wp2_with fail
          go_roundw
          case rel => exact ⟨k + 1, by omega, by go_num, by rw [HPF.out]; exact (SKIP.out _).1, (SKIP.out _).2⟩
          case measure => simp [intOf]; omega
    · obtain rfl : k = fs.length := by omega
      have F1 := hid (HO.out.mono HB0.out.size)
      have F2 := hid (HB0.out.trans (HW.out.mono HB0.out.size))
      go_wp2_with fail
      go_ret
      exact ⟨_, rfl, F1.out, F2.out⟩
end Go.Proofs.Ytpmpfnbgjgjlgab
