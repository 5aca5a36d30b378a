/- minors.Truncate. -/
import Derived.Test.YthbldeloocmakaaWithoutQ
import Derived.Test.YthbldeloocmakaaPlainAll
import Derived.Deep.RegionHeld3
namespace Go.Proofs.Ythbldeloocmakaa
open Go.RowKit

theorem mInd_any (v : Value) (T : Nat) (r : Nat → Nat) (s : Nat) (w : World) (hT : T ≤ 256) (hs : s < T) (h : RkAt w v T r) :
    Calls Try.prog 62 #[v, .int .i64 s] w fun e w' => e = .returned (.bool (r s == pop s)) ∧ Below w.heap.size w w' := by
  obtain ⟨b, off, cap, rfl, h1, h2⟩ := h
  have hc := h2 s hs
  have HS := hid (fun w' => size_any s w' (by omega))
  clear h2
  go_enter Try.func62, Try.ntmps62
  go_wp2_with fail
  go_quiet ((go_at_call 83; refine (HS.out _).mono ?_; rintro e w' ⟨rfl, rfl⟩; exact ⟨rfl, _, rfl⟩))
  go_wp2_with fail
  go_ret
  exact ⟨ret_bool (by rw [Bool.eq_iff_iff, beq_iff_eq, beq_iff_eq]; omega), drewN_below _ _ _⟩
theorem TruncQ_ok (s bR bK T k : Nat) (v : Value) (r : Nat → Nat) (w : World) (hT : T ≤ 256) (hs : s < T)
    (hR : w.cell? ⟨bR, 0, none⟩ = some v) (hK : w.cell? ⟨bK, 0, none⟩ = some (.int .i64 k)) (hv : RkAt w v T r) :
    Calls Try.prog 91 #[.int .i64 s, .pointer (some ⟨bR, 0, none⟩), .pointer (some ⟨bK, 0, none⟩)] w fun e w' => e = .returned (.bool (r s == pop s && decide (pop s ≤ k))) ∧ Below w.heap.size w w' := by
  have HS := hid (fun w' => size_any s w' (by omega))
  have HI := hid (fun x : Later w => mInd_any v T r s x.now hT hs (hv.below x.kept))
  obtain ⟨rb, roff, rcap, rfl, h1, h2⟩ := hv
  have hR' : ∀ x : Later w, x.now.cell? ⟨bR, 0, none⟩ = some (.slice (some ⟨rb, roff, none⟩) T rcap) := fun x => (x.kept.cell (p := ⟨bR, 0, none⟩) (World.block_lt_of_cell? w _ hR)).trans hR
  have hK' : ∀ x : Later w, x.now.cell? ⟨bK, 0, none⟩ = some (.int .i64 k) := fun x => (x.kept.cell (p := ⟨bK, 0, none⟩) (World.block_lt_of_cell? w _ hK)).trans hK
  clear h2 hR hK
  rcases hq : r s == pop s with _ | _
  · rw [hq] at HI
    clear hq
    go_enter Try.func91, Try.ntmps91
    go_wp2_with fail
    refine region_later (by kernel_rfl) (by kernel_rfl) ?_
    repeat (go_big_quiet_step ((first
      | (go_at_call 83; refine (HS.out _).mono ?_; rintro e w' ⟨rfl, rfl⟩; exact ⟨rfl, Later.on _ (Below.refl _ _)⟩)
      | (go_at_call 62; refine (HI.out _).mono ?_; rintro e w' ⟨rfl, hb9⟩; exact ⟨rfl, Later.on _ hb9⟩))))
    refine wpQuiet_nil ?_
    intro w6 hw'
    obtain ⟨⟨y6, hb6⟩, hw''⟩ := hw'
    dsimp only at hw''
    subst hw''
    have HB := hid hb6
    clear hb6
    go_wp2_with fail
    go_ret
    exact ⟨rfl, HB.out⟩
  · rw [hq] at HI
    clear hq
    go_enter Try.func91, Try.ntmps91
    go_wp2_with fail
    refine region_later (by kernel_rfl) (by kernel_rfl) ?_
    repeat (go_big_quiet_step ((first
      | (go_at_call 83; refine (HS.out _).mono ?_; rintro e w' ⟨rfl, rfl⟩; exact ⟨rfl, Later.on _ (Below.refl _ _)⟩)
      | (go_at_call 62; refine (HI.out _).mono ?_; rintro e w' ⟨rfl, hb9⟩; exact ⟨rfl, Later.on _ hb9⟩))))
    refine wpQuiet_nil ?_
    intro w6 hw'
    obtain ⟨⟨y6, hb6⟩, hw''⟩ := hw'
    dsimp only at hw''
    subst hw''
    have HB := hid hb6
    clear hb6
    go_wp2_with fail
    go_ret
    exact ⟨ret_bool (by rw [Bool.eq_iff_iff]; simp), HB.out⟩

set_option maxRecDepth 20000 in
set_option maxHeartbeats 1600000 in
theorem Truncate_ok (m k : Nat) (v : Value) (l : List Nat) (w : World) (hm : m ≤ 8) (hf : Fam m l) (hb : Bas l) (h : Ints w v (N l)) (hk : k ≤ rk l (2 ^ m - 1)) :
    Calls Try.prog 50 #[.agg #[.int .i64 m, v], .int .i64 k] w (GivesO w m (cutL m l k)) := by
  have HI := hid h
  obtain ⟨a, cap, hv, _, _⟩ := h.nats
  subst hv
  have HB0 := hid (boxW_below w m (.slice a l.length cap) k)
  have HRK := hid (Ranks_ok m _ l _ hm hf hb (HI.out.below HB0.out))
  have HX : Hid (∀ w2, Below (boxW w m (.slice a l.length cap) k).heap.size (boxW w m (.slice a l.length cap) k) w2 → _) := fun w2 h => boxW_blocks h
  have HSZ := hid (boxW_size w m (.slice a l.length cap) k)
  have HWS := hid (fun w' => wholeSet_any m w' hm)
  obtain ⟨acc, HACC⟩ : ∃ acc : List Nat, Hid (cutL m l k = acc) := ⟨_, rfl⟩
  rw [HACC.out]
  go_enter Try.func50, Try.ntmps50
  go_wp2_with fail
  refine HRK.out.mono ?_
  rintro e w1 ⟨r1, rfl, hr1, hb1⟩
  obtain ⟨hx0, hx1, hx2⟩ := HX.out w1 hb1
  have HR1 := hid hr1
  obtain ⟨rb, roff, rcap, rfl, _, _⟩ := hr1
  have HY0 := hid hx0
  have HY1 := hid hx1
  have HY2 := hid hx2
  have HB1 := hid (HB0.out.trans (hb1.mono HB0.out.size))
  have hsz1 : w.heap.size + 3 ≤ w1.heap.size := by have := hb1.size; have := HSZ.out; omega
  obtain ⟨x00, _, _, _⟩ := two_cells hx0
  have x11 := hx1.cell
  have z0 := fun o => cellA (W := w1) o x00
  have z1 := fun o => cellA (W := w1) o x11
  clear hb1 hx0 hx1 hx2 x00 x11
  go_wp2_with fail
  clear z0 z1
  have bR := Boxed.new w1 22 (.slice (some ⟨rb, roff, none⟩) (2 ^ m) rcap)
  have hBK : Below w1.heap.size w1 (w1.alloc (.cells #[.slice (some ⟨rb, roff, none⟩) (2 ^ m) rcap] 22)) := (Below.refl _ _).alloc (Nat.le_refl _) _
  have hszK : (w1.alloc (.cells #[.slice (some ⟨rb, roff, none⟩) (2 ^ m) rcap] 22)).heap.size = w1.heap.size + 1 := by simp
  have HbR := hid bR
  have HBK := hid hBK
  clear bR hBK
  revert hszK HbR HBK
  generalize (w1.alloc (.cells #[.slice (some ⟨rb, roff, none⟩) (2 ^ m) rcap] 22)) = W2
  intro hszK HbR HBK
  have HW2 := hid (HB1.out.trans (HBK.out.mono HB1.out.size))
  have HZ0 : Hid (W2.heap[w.heap.size]? = some (.cells #[.int .i64 m, .slice a l.length cap] 24 (0, 0))) := (HBK.out.block _ (by omega)).trans HY0.out
  have HZ1 : Hid (Boxed W2 (w.heap.size + 1) 3 (.int .i64 k)) := (HBK.out.block _ (by omega)).trans HY1.out
  have HZ2 : Hid (W2.heap[w.heap.size + 1 + 1]? = some (.cells #[.int .i64 0, .slice none 0 0] 24 (0, 0))) := (HBK.out.block _ (by omega)).trans HY2.out
  obtain ⟨x0, _, _, _⟩ := two_cells HZ0.out
  have x1 := HZ1.out.cell
  have xr := HbR.out.cell
  have HRA := hid (HR1.out.below HBK.out)
  obtain ⟨rb', roff', rcap', e', hrb, hrc⟩ := HRA.out
  obtain ⟨⟨rfl, rfl⟩, rfl⟩ : (rb = rb' ∧ roff = roff') ∧ rcap = rcap' := by simpa using e'
  have cR := hrc (2 ^ m - 1) (full_lt m)
  have lF := full_lt m
  clear e' hrc
  have OI := hid (fun w' (hb' : Below W2.heap.size W2 w') => ofInd_any m 91 #[.pointer (some ⟨w1.heap.size, 0, none⟩), .pointer (some ⟨w.heap.size + 1, 0, none⟩)] (fun s => rk l s == pop s && decide (pop s ≤ k)) w' hm (fun args w => enters_of Try.func91 (by kernel_rfl) rfl args w)
    (fun x hx w3 hb3 _ => by
      have hbb := hb'.trans (hb3.mono hb'.size)
      exact TruncQ_ok x w1.heap.size (w.heap.size + 1) (2 ^ m) k _ (rk l) w3 (pow_wrap m hm).2 hx ((hbb.cell (p := ⟨w1.heap.size, 0, none⟩) (by show w1.heap.size < _; omega)).trans xr) ((hbb.cell (p := ⟨w.heap.size + 1, 0, none⟩) (by show w.heap.size + 1 < _; omega)).trans x1) (HRA.out.below hbb)))
  rw [ofInd_eq (r := cutR (rk l) k) hm (cut_rkOn (hb.rkOn m) k) (fun s _ => cut_ind (hb.rk.le s)), show basR m (cutR (rk l) k) = acc from HACC.out] at OI
  generalize rk l (2 ^ m - 1) = R at *
  generalize 2 ^ m - 1 = fm at *
  generalize 2 ^ m = T at *
  have hkR : ¬ (R : Int) < (k : Int) := by omega
  go_quiet ((go_at_call 87; refine (HWS.out _).mono ?_; rintro e w' ⟨rfl, rfl⟩; exact ⟨rfl, _, rfl⟩))
  have HBq : Hid (Below W2.heap.size W2 (W2.drewN nq)) := drewN_below _ _ _
  have x0q : (W2.drewN nq).cell? ⟨w.heap.size, 0, none⟩ = some (.int .i64 m) := by rw [World.cell?_drewN]; exact x0
  go_wp2_with fail
  refine (OI.out _ HBq.out).mono ?_
  rintro e w4 ⟨r4, rfl, hr4, hb4⟩
  have hW4 := HBq.out.trans (hb4.mono HBq.out.size)
  obtain ⟨ra, rc, hr⟩ := ownsRow_form' hr4
  subst hr
  have hxx := (hW4.block (w.heap.size + 1 + 1) (by omega)).trans HZ2.out
  obtain ⟨y2, y3, g2, g3⟩ := two_cells hxx
  have HC := hid (set_two (x := .int .i64 m) (y := .slice ra acc.length rc) hxx)
  have HB4 := hid (HW2.out.trans (hW4.mono HW2.out.size))
  have HD := hid (below_two (b := w.heap.size + 1 + 1) (x := .int .i64 m) (y := .slice ra acc.length rc) HB4.out (by omega))
  have hqs : (W2.drewN nq).heap.size = W2.heap.size := rfl
  have HII := hid ((hr4.set2 (b := w.heap.size + 1 + 1) (x := .int .i64 m) (y := .slice ra acc.length rc) (by omega)).mono (by omega : w.heap.size ≤ _))
  clear hb4 hr4 hxx hW4
  go_wp2_with fail
  obtain ⟨c0, c1⟩ := HC.out
  refine bodyPost_ret (v := .tuple #[.agg #[.int .i64 m, .slice ra _ rc], .int .i64 0]) ?_ rfl ⟨_, rfl, HII.out, HD.out⟩
  simp [results, Try.f50, go_sem, c0, c1]
set_option maxRecDepth 20000 in
set_option maxHeartbeats 1600000 in
theorem Truncate_arg (m : Nat) (k : Int) (v : Value) (l : List Nat) (w : World) (hm : m ≤ 8) (hf : Fam m l) (hb : Bas l) (h : Ints w v (N l)) (hk : k < 0 ∨ (rk l (2 ^ m - 1) : Int) < k) :
    Calls Try.prog 50 #[.agg #[.int .i64 m, v], .int .i64 k] w (BadM w 1) := by
  have HI := hid h
  obtain ⟨a, cap, hv, _, _⟩ := h.nats
  subst hv
  have HB0 := hid (boxW_below w m (.slice a l.length cap) k)
  have HRK := hid (Ranks_ok m _ l _ hm hf hb (HI.out.below HB0.out))
  have HX : Hid (∀ w2, Below (boxW w m (.slice a l.length cap) k).heap.size (boxW w m (.slice a l.length cap) k) w2 → _) := fun w2 h => boxW_blocks h
  have HSZ := hid (boxW_size w m (.slice a l.length cap) k)
  have HWS := hid (fun w' => wholeSet_any m w' hm)
  go_enter Try.func50, Try.ntmps50
  go_wp2_with fail
  refine HRK.out.mono ?_
  rintro e w1 ⟨r1, rfl, hr1, hb1⟩
  obtain ⟨hx0, hx1, hx2⟩ := HX.out w1 hb1
  have HR1 := hid hr1
  obtain ⟨rb, roff, rcap, rfl, _, _⟩ := hr1
  have HY0 := hid hx0
  have HY1 := hid hx1
  have HY2 := hid hx2
  have HB1 := hid (HB0.out.trans (hb1.mono HB0.out.size))
  have hsz1 : w.heap.size + 3 ≤ w1.heap.size := by have := hb1.size; have := HSZ.out; omega
  obtain ⟨x00, _, _, _⟩ := two_cells hx0
  have x11 := hx1.cell
  have z0 := fun o => cellA (W := w1) o x00
  have z1 := fun o => cellA (W := w1) o x11
  clear hb1 hx0 hx1 hx2 x00 x11
  go_wp2_with fail
  clear z0 z1
  have bR := Boxed.new w1 22 (.slice (some ⟨rb, roff, none⟩) (2 ^ m) rcap)
  have hBK : Below w1.heap.size w1 (w1.alloc (.cells #[.slice (some ⟨rb, roff, none⟩) (2 ^ m) rcap] 22)) := (Below.refl _ _).alloc (Nat.le_refl _) _
  have hszK : (w1.alloc (.cells #[.slice (some ⟨rb, roff, none⟩) (2 ^ m) rcap] 22)).heap.size = w1.heap.size + 1 := by simp
  have HbR := hid bR
  have HBK := hid hBK
  clear bR hBK
  revert hszK HbR HBK
  generalize (w1.alloc (.cells #[.slice (some ⟨rb, roff, none⟩) (2 ^ m) rcap] 22)) = W2
  intro hszK HbR HBK
  have HW2 := hid (HB1.out.trans (HBK.out.mono HB1.out.size))
  have HZ0 : Hid (W2.heap[w.heap.size]? = some (.cells #[.int .i64 m, .slice a l.length cap] 24 (0, 0))) := (HBK.out.block _ (by omega)).trans HY0.out
  have HZ1 : Hid (Boxed W2 (w.heap.size + 1) 3 (.int .i64 k)) := (HBK.out.block _ (by omega)).trans HY1.out
  have HZ2 : Hid (W2.heap[w.heap.size + 1 + 1]? = some (.cells #[.int .i64 0, .slice none 0 0] 24 (0, 0))) := (HBK.out.block _ (by omega)).trans HY2.out
  obtain ⟨x0, _, _, _⟩ := two_cells HZ0.out
  have x1 := HZ1.out.cell
  have xr := HbR.out.cell
  have HRA := hid (HR1.out.below HBK.out)
  obtain ⟨rb', roff', rcap', e', hrb, hrc⟩ := HRA.out
  obtain ⟨⟨rfl, rfl⟩, rfl⟩ : (rb = rb' ∧ roff = roff') ∧ rcap = rcap' := by simpa using e'
  have cR := hrc (2 ^ m - 1) (full_lt m)
  have lF := full_lt m
  clear e' hrc
  generalize rk l (2 ^ m - 1) = R at *
  generalize 2 ^ m - 1 = fm at *
  generalize 2 ^ m = T at *
  have FIN : Hid (∀ W3 : World, Below W2.heap.size W2 W3 → _) := fun W3 hb3 => (set_two (x := .int .i64 0) (y := .slice none 0 0) ((hb3.block (w.heap.size + 1 + 1) (by omega)).trans HZ2.out))
  by_cases hk0 : k < 0
  · go_quiet ((go_at_call 87; refine (HWS.out _).mono ?_; rintro e w' ⟨rfl, rfl⟩; exact ⟨rfl, _, rfl⟩))
    have hbq : Below W2.heap.size W2 (W2.drewN nq) := drewN_below _ _ _
    have HC := hid (FIN.out _ hbq)
    obtain ⟨y2, y3, g2, g3⟩ := two_cells ((hbq.block (w.heap.size + 1 + 1) (by omega)).trans HZ2.out)
    have HD := hid (below_two (b := w.heap.size + 1 + 1) (x := .int .i64 0) (y := .slice none 0 0) (HW2.out.trans (hbq.mono HW2.out.size)) (by omega))
    clear hbq
    go_wp2_with fail
    obtain ⟨c0, c1⟩ := HC.out
    refine bodyPost_ret (v := .tuple #[.agg #[.int .i64 0, .slice none 0 0], .int .i64 1]) ?_ rfl ⟨rfl, HD.out⟩
    simp [results, Try.f50, go_sem, c0, c1]
  · have hkR : (R : Int) < k := by omega
    go_quiet ((go_at_call 87; refine (HWS.out _).mono ?_; rintro e w' ⟨rfl, rfl⟩; exact ⟨rfl, _, rfl⟩))
    have hbq : Below W2.heap.size W2 (W2.drewN nq) := drewN_below _ _ _
    have HC := hid (FIN.out _ hbq)
    obtain ⟨y2, y3, g2, g3⟩ := two_cells ((hbq.block (w.heap.size + 1 + 1) (by omega)).trans HZ2.out)
    have HD := hid (below_two (b := w.heap.size + 1 + 1) (x := .int .i64 0) (y := .slice none 0 0) (HW2.out.trans (hbq.mono HW2.out.size)) (by omega))
    clear hbq
    go_wp2_with fail
    obtain ⟨c0, c1⟩ := HC.out
    refine bodyPost_ret (v := .tuple #[.agg #[.int .i64 0, .slice none 0 0], .int .i64 1]) ?_ rfl ⟨rfl, HD.out⟩
    simp [results, Try.f50, go_sem, c0, c1]
set_option maxHeartbeats 800000 in
theorem Truncate_bad (n k : Int) (v : Value) (zs : List Int) (w : World) (h : Ints w v zs) (hc : chkR n zs ≠ 0) :
    Calls Try.prog 50 #[.agg #[.int .i64 n, v], .int .i64 k] w (BadM w (chkR n zs)) := by
  have HI := hid h
  obtain ⟨a, cap, rfl, _, _⟩ := h
  have HB0 := hid (boxW_below w n (.slice a zs.length cap) k)
  have HRK := hid (Ranks_bad n _ zs _ (HI.out.below HB0.out) hc)
  have HX : Hid (∀ w2, Below (boxW w n (.slice a zs.length cap) k).heap.size (boxW w n (.slice a zs.length cap) k) w2 → _) := fun w2 h => boxW_blocks h
  have HSZ := hid (boxW_size w n (.slice a zs.length cap) k)
  generalize chkR n zs = q at *
  have hc' : (q == 0) = false := by rw [beq_eq_false_iff_ne]; exact hc
  go_enter Try.func50, Try.ntmps50
  go_wp2_with fail
  refine HRK.out.mono ?_
  rintro e w1 ⟨rfl, hb1⟩
  obtain ⟨_, _, hx2⟩ := HX.out w1 hb1
  have hsz1 : w.heap.size + 3 ≤ w1.heap.size := by have := hb1.size; have := HSZ.out; omega
  have hx3 : (w1.alloc (.cells #[.slice none 0 0] 22)).heap[w.heap.size + 1 + 1]? = some (.cells #[.int .i64 0, .slice none 0 0] 24 (0, 0)) := (Below.heap_alloc _ _ _ (by omega)).trans hx2
  have HB1 : Hid (Below w.heap.size w (w1.alloc (.cells #[.slice none 0 0] 22))) := (HB0.out.trans (hb1.mono HB0.out.size)).alloc (by omega) _
  have HC := hid (set_two (x := .int .i64 0) (y := .slice none 0 0) hx3)
  have HD := hid (below_two (b := w.heap.size + 1 + 1) (x := .int .i64 0) (y := .slice none 0 0) HB1.out (by omega))
  obtain ⟨y2, y3, g2, g3⟩ := two_cells hx3
  clear hb1 hx2 hx3
  go_wp2_with fail
  obtain ⟨c0, c1⟩ := HC.out
  refine bodyPost_ret (v := .tuple #[.agg #[.int .i64 0, .slice none 0 0], .int .i64 q]) ?_ rfl ⟨rfl, HD.out⟩
  simp [results, Try.f50, go_sem, c0, c1]
end Go.Proofs.Ythbldeloocmakaa
