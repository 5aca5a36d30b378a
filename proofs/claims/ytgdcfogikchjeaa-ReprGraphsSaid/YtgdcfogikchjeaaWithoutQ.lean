/- minors.without: Delete, Contract. -/
import Derived.Test.YtgdcfogikchjeaaTakeW
import Derived.Test.YtgdcfogikchjeaaAxW
namespace Go.Proofs.Ytgdcfogikchjeaa
open Go.RowKit

theorem withoutQ_ok (t bR bK bB T k b : Nat) (v : Value) (r : Nat → Nat) (w : World) (hT : T ≤ 256) (ht : t < 256) (hk : k < 256) (hx : old (els k) t ||| b < T) (hbT : b < T) (hr8 : ∀ i, r i ≤ 8) (hge : r b ≤ r (old (els k) t ||| b))
    (hR : w.cell? ⟨bR, 0, none⟩ = some v) (hK : w.cell? ⟨bK, 0, none⟩ = some (.int .i64 k)) (hB : w.cell? ⟨bB, 0, none⟩ = some (.int .i64 b)) (hv : RkAt w v T r) :
    Calls Try.prog 71 #[.int .i64 t, .pointer (some ⟨bR, 0, none⟩), .pointer (some ⟨bK, 0, none⟩), .pointer (some ⟨bB, 0, none⟩)] w fun e w' => e = .returned (.bool (minR r k b t == pop t)) ∧ Below w.heap.size w w' := by
  obtain ⟨rb, roff, rcap, rfl, h1, h2⟩ := hv
  have hR' : ∀ x : Later w, x.now.cell? ⟨bR, 0, none⟩ = some (.slice (some ⟨rb, roff, none⟩) T rcap) := fun x => (x.kept.cell (p := ⟨bR, 0, none⟩) (World.block_lt_of_cell? w _ hR)).trans hR
  have hK' : ∀ x : Later w, x.now.cell? ⟨bK, 0, none⟩ = some (.int .i64 k) := fun x => (x.kept.cell (p := ⟨bK, 0, none⟩) (World.block_lt_of_cell? w _ hK)).trans hK
  have hB' : ∀ x : Later w, x.now.cell? ⟨bB, 0, none⟩ = some (.int .i64 b) := fun x => (x.kept.cell (p := ⟨bB, 0, none⟩) (World.block_lt_of_cell? w _ hB)).trans hB
  have hc1 : ∀ x : Later w, x.now.cell? ⟨rb, roff + (old (els k) t ||| b), none⟩ = some (.int .i64 (r (old (els k) t ||| b) : Nat)) := fun x => (x.kept.cell (p := ⟨rb, roff + (old (els k) t ||| b), none⟩) h1).trans (h2 _ hx)
  have hc2 : ∀ x : Later w, x.now.cell? ⟨rb, roff + b, none⟩ = some (.int .i64 (r b : Nat)) := fun x => (x.kept.cell (p := ⟨rb, roff + b, none⟩) h1).trans (h2 _ hbT)
  have HS := hid (fun w' => size_any t w' ht)
  have HO := hid (fun w' => oldN_any t k w' ht hk)
  have ho8 : old (els k) t < 256 := old_lt (fun x h => els_8 h) t
  have hor : bits .or .i64 (old (els k) t : Int) (b : Int) = ((old (els k) t ||| b : Nat) : Int) := i64_or_nat _ b (by omega) (by omega)
  unfold minR
  have g1 := hr8 b
  have g2 := hr8 (old (els k) t ||| b)
  have g3 := pop_le t ht
  clear h2 hR hK hB hr8
  generalize old (els k) t = o at *
  generalize o ||| b = z at *
  generalize r z = x at *
  generalize r b = y at *
  generalize pop t = p at *
  go_enter Try.func71, Try.ntmps71
  go_wp2_with fail
  refine region_later (by kernel_rfl) (by kernel_rfl) ?_
  repeat (go_big_quiet_step ((first
    | (go_at_call 10; refine (HS.out _).mono ?_; rintro e w' ⟨rfl, rfl⟩; exact ⟨rfl, Later.on _ (Below.refl _ _)⟩)
    | (go_at_call 72; refine (HO.out _).mono ?_; rintro e w' ⟨rfl, hb9⟩; exact ⟨rfl, Later.on _ hb9⟩))))
  refine wpQuiet_nil ?_
  intro w6 hw'
  obtain ⟨⟨y6, hb6⟩, hw''⟩ := hw'
  dsimp only at hw''
  subst hw''
  have HB := hid hb6
  clear hb6
  go_wp2_with fail
  go_ret
  exact ⟨ret_bool (by rw [Bool.eq_iff_iff, beq_iff_eq, beq_iff_eq]; omega), HB.out⟩
/-- The blocks of without: the matroid, the base, the result. -/
def boxW (w : World) (n : Int) (v : Value) (b : Int) : World := ((w.alloc (.cells #[.int .i64 n, v] 33)).alloc (.cells #[.int .i64 b] 3)).alloc (.cells #[.int .i64 0, .slice none 0 0] 33)
theorem boxW_below (w : World) (n : Int) (v : Value) (b : Int) : Below w.heap.size w (boxW w n v b) := (((Below.refl _ _).alloc (Nat.le_refl _) _).alloc (by simp) _).alloc (by simp; omega) _
theorem boxW_size (w : World) (n : Int) (v : Value) (b : Int) : (boxW w n v b).heap.size = w.heap.size + 3 := by unfold boxW; simp
theorem boxW_blocks {w w2 : World} {n : Int} {v : Value} {b : Int} (hb2 : Below (boxW w n v b).heap.size (boxW w n v b) w2) :
    w2.heap[w.heap.size]? = some (.cells #[.int .i64 n, v] 33 (0, 0)) ∧ Boxed w2 (w.heap.size + 1) 3 (.int .i64 b) ∧ w2.heap[w.heap.size + 1 + 1]? = some (.cells #[.int .i64 0, .slice none 0 0] 33 (0, 0)) := by
  have hs := boxW_size w n v b
  refine ⟨(hb2.block _ (by omega)).trans ?_, (hb2.block _ (by omega)).trans ?_, (hb2.block _ (by omega)).trans ?_⟩
  · unfold boxW
    rw [Below.heap_alloc _ _ _ (by simp; omega), Below.heap_alloc _ _ _ (by simp)]
    exact World.alloc_heap_new w _
  · unfold boxW
    have := Boxed.new (w.alloc (.cells #[.int .i64 n, v] 33)) 3 (.int .i64 b)
    rw [World.size_alloc] at this
    exact this.alloc _
  · unfold boxW
    have := World.alloc_heap_new ((w.alloc (.cells #[.int .i64 n, v] 33)).alloc (.cells #[.int .i64 b] 3)) (.cells #[.int .i64 0, .slice none 0 0] 33)
    rwa [World.size_alloc, World.size_alloc] at this
theorem setR_ok {m s : Nat} (hm : m ≤ 8) (hs : s < 2 ^ m) : setR m s = 0 := by
  unfold setR
  have e : ((2 ^ m : Nat) : Int) = (2 : Int) ^ m := by simp
  rw [if_pos]
  refine ⟨by omega, by omega, by omega, ?_⟩
  rw [Int.toNat_natCast, ← e]
  omega

set_option maxHeartbeats 1600000 in
theorem without_ok (m s b : Nat) (v : Value) (l : List Nat) (w : World) (hm : m ≤ 8) (hf : Fam m l) (hb : Bas l) (h : Ints w v (N l)) (hs : s < 2 ^ m) (hbm : b < 2 ^ m) :
    Calls Try.prog 50 #[.agg #[.int .i64 m, v], .int .i64 s, .int .i64 b] w (GivesO w (pop (dif (2 ^ m - 1) s) : Nat) (minL m l s b)) := by
  have HI := hid h
  obtain ⟨a, cap, hv, _, _⟩ := h.nats
  subst hv
  have HB0 := hid (boxW_below w m (.slice a l.length cap) b)
  have HRK := hid (Ranks_ok m _ l _ hm hf hb (HI.out.below HB0.out))
  have HX : Hid (∀ w2, Below (boxW w m (.slice a l.length cap) b).heap.size (boxW w m (.slice a l.length cap) b) w2 → _) := fun w2 h => boxW_blocks h
  have HSZ := hid (boxW_size w m (.slice a l.length cap) b)
  have HSC := hid (fun w' => setsCheck_any m s w')
  rw [setR_ok hm hs] at HSC
  have HWS := hid (fun w' => wholeSet_any m w' hm)
  have hs8 := lt256 hm hs
  have hfu := lt256 hm (full_lt m)
  have hand : bits .andNot .i64 ((2 ^ m - 1 : Nat) : Int) (s : Int) = ((dif (2 ^ m - 1) s : Nat) : Int) := i64_andNot_nat _ s (by omega) (by omega)
  generalize hfm : 2 ^ m - 1 = fm at *
  have HFM := hid hfm
  clear hfm
  go_enter Try.func50, Try.ntmps50
  go_wp2_with fail
  refine HRK.out.mono ?_
  rintro e w1 ⟨r1, rfl, hr1, hb1⟩
  obtain ⟨hx0, hx1, hx2⟩ := HX.out w1 hb1
  have HR1 := hid hr1
  obtain ⟨rb, roff, rcap, rfl, _, _⟩ := hr1
  obtain ⟨x0, x1, _, _⟩ := two_cells hx0
  have z0 := fun o => cellA (W := w1) o x0
  have HY0 := hid hx0
  have HY1 := hid hx1
  have HY2 := hid hx2
  have HB1 := hid (HB0.out.trans (hb1.mono HB0.out.size))
  have hsz1 : w.heap.size + 3 ≤ w1.heap.size := by have := hb1.size; have := HSZ.out; omega
  clear hb1 hx0 hx1 hx2
  go_wp2_with fail
  refine (HSC.out _).mono ?_
  rintro e w1' ⟨rfl, rfl⟩
  go_wp2_with fail
  refine (HWS.out _).mono ?_
  rintro e w1' ⟨rfl, rfl⟩
  go_wp2_with fail
  have HK8 : Hid (dif fm s < 256) := by
    show _ < _
    rw [← HFM.out]
    exact kept_lt hm s
  have bR := hid ((Boxed.new w1 31 (.slice (some ⟨rb, roff, none⟩) (2 ^ m) rcap)).alloc (.cells #[.int .i64 (dif fm s : Nat)] 3))
  have bK := Boxed.new (w1.alloc (.cells #[.slice (some ⟨rb, roff, none⟩) (2 ^ m) rcap] 31)) 3 (.int .i64 (dif fm s : Nat))
  rw [World.size_alloc] at bK
  have hBK : Below w1.heap.size w1 ((w1.alloc (.cells #[.slice (some ⟨rb, roff, none⟩) (2 ^ m) rcap] 31)).alloc (.cells #[.int .i64 (dif fm s : Nat)] 3)) := ((Below.refl _ _).alloc (Nat.le_refl _) _).alloc (by simp) _
  have HBK := hid hBK
  have HbK := hid bK
  have hszK : ((w1.alloc (.cells #[.slice (some ⟨rb, roff, none⟩) (2 ^ m) rcap] 31)).alloc (.cells #[.int .i64 (dif fm s : Nat)] 3)).heap.size = w1.heap.size + 2 := by simp
  clear bK hBK z0 x0 x1
  revert bR HBK HbK hszK
  generalize ((w1.alloc (.cells #[.slice (some ⟨rb, roff, none⟩) (2 ^ m) rcap] 31)).alloc (.cells #[.int .i64 (dif fm s : Nat)] 3)) = W2
  intro bR HBK HbK hszK
  have HW2 := hid (HB1.out.trans (HBK.out.mono HB1.out.size))
  have bB : Hid (Boxed W2 (w.heap.size + 1) 3 (.int .i64 b)) := (HBK.out.block _ (by omega)).trans HY1.out
  have hZ : Hid (W2.heap[w.heap.size + 1 + 1]? = some (.cells #[.int .i64 0, .slice none 0 0] 33 (0, 0))) := (HBK.out.block _ (by omega)).trans HY2.out
  have HRA := hid (HR1.out.below HBK.out)
  have HKE : Hid (dif (2 ^ m - 1) s = dif fm s) := by show _ = _; rw [HFM.out]
  have HOI := hid (ofInd_any (pop (dif fm s)) 71 #[.pointer (some ⟨w1.heap.size, 0, none⟩), .pointer (some ⟨w1.heap.size + 1, 0, none⟩), .pointer (some ⟨w.heap.size + 1, 0, none⟩)] (fun t => minR (rk l) (dif fm s) b t == pop t) W2 (pop_le _ HK8.out) (fun args w => enters_of Try.func71 (by kernel_rfl) rfl args w)
    (fun x hx w3 hb3 _ => withoutQ_ok x w1.heap.size (w1.heap.size + 1) (w.heap.size + 1) (2 ^ m) (dif fm s) b _ (rk l) w3 (pow_wrap m hm).2 (lt256 (pop_le _ HK8.out) hx) HK8.out (by rw [← HKE.out]; exact Nat.or_lt_two_pow (old_ltn hm s x) hbm) hbm (rk_small hm hf) (min_ge hb.rk _ _)
      ((hb3.cell (p := ⟨w1.heap.size, 0, none⟩) (by show w1.heap.size < _; omega)).trans bR.out.cell) ((hb3.cell (p := ⟨w1.heap.size + 1, 0, none⟩) (by show w1.heap.size + 1 < _; omega)).trans HbK.out.cell) ((hb3.cell (p := ⟨w.heap.size + 1, 0, none⟩) (by show w.heap.size + 1 < _; omega)).trans bB.out.cell) (HRA.out.below hb3)))
  have HLS := hid (ofInd_eq (n := pop (dif fm s)) (r := minR (rk l) (dif fm s) b) (pop_le _ HK8.out) (min_rkOn hb.rk HK8.out b) (p := fun t => minR (rk l) (dif fm s) b t == pop t) (fun _ _ => rfl))
  rw [HLS.out] at HOI
  have HML : Hid (basR (pop (dif fm s)) (minR (rk l) (dif fm s) b) = minL m l s b) := by show _ = _; unfold minL; rw [HKE.out]
  rw [HML.out] at HOI
  have HSK := hid (fun w' => size_any (dif fm s) w' HK8.out)
  generalize dif fm s = kk at *
  generalize pop kk = n2 at *
  refine (HSK.out _).mono ?_
  rintro e w9 ⟨rfl, rfl⟩
  go_wp2_with fail
  refine HOI.out.mono ?_
  rintro e w4 ⟨r4, rfl, hr4, hb4⟩
  have hx1 := (hb4.block (w.heap.size + 1 + 1) (by omega)).trans hZ.out
  have HB4 := hid (HW2.out.trans (hb4.mono HW2.out.size))
  have HF := hid (ownsRow_form' hr4)
  obtain ⟨ra, rc, hr⟩ := HF.out
  subst hr
  have HC := hid (set_two (x := .int .i64 n2) (y := .slice ra (minL m l s b).length rc) hx1)
  have HD := hid (below_two (b := w.heap.size + 1 + 1) (x := .int .i64 n2) (y := .slice ra (minL m l s b).length rc) HB4.out (by omega))
  have HII := hid ((hr4.set2 (b := w.heap.size + 1 + 1) (x := .int .i64 n2) (y := .slice ra (minL m l s b).length rc) (by omega)).mono (by omega : w.heap.size ≤ _))
  obtain ⟨y2, y3, g2, g3⟩ := two_cells hx1
  clear hb4 hr4 hx1
  go_wp2_with fail
  obtain ⟨c0, c1⟩ := HC.out
  refine bodyPost_ret (v := .tuple #[.agg #[.int .i64 n2, .slice ra _ rc], .int .i64 0]) ?_ rfl ⟨_, rfl, HII.out, HD.out⟩
  simp [results, Try.f50, go_sem, c0, c1]

/-- What a call with an error hands back. -/
def BadM (w : World) (q : Int) (e : Ending) (w' : World) : Prop := e = .returned (.tuple #[.agg #[.int .i64 0, .slice none 0 0], .int .i64 q]) ∧ Below w.heap.size w w'
set_option maxHeartbeats 800000 in
theorem without_bad (n s b : Int) (v : Value) (zs : List Int) (w : World) (h : Ints w v zs) (hc : chkR n zs ≠ 0) :
    Calls Try.prog 50 #[.agg #[.int .i64 n, v], .int .i64 s, .int .i64 b] w (BadM w (chkR n zs)) := by
  have HI := hid h
  obtain ⟨a, cap, rfl, _, _⟩ := h
  have HB0 := hid (boxW_below w n (.slice a zs.length cap) b)
  have HRK := hid (Ranks_bad n _ zs _ (HI.out.below HB0.out) hc)
  have HX : Hid (∀ w2, Below (boxW w n (.slice a zs.length cap) b).heap.size (boxW w n (.slice a zs.length cap) b) w2 → _) := fun w2 h => boxW_blocks h
  have HSZ := hid (boxW_size w n (.slice a zs.length cap) b)
  generalize chkR n zs = q at *
  have hc' : (q == 0) = false := by rw [beq_eq_false_iff_ne]; exact hc
  go_enter Try.func50, Try.ntmps50
  go_wp2_with fail
  refine HRK.out.mono ?_
  rintro e w1 ⟨rfl, hb1⟩
  obtain ⟨_, _, hx2⟩ := HX.out w1 hb1
  have hsz1 : w.heap.size + 3 ≤ w1.heap.size := by have := hb1.size; have := HSZ.out; omega
  have hx3 : (w1.alloc (.cells #[.slice none 0 0] 31)).heap[w.heap.size + 1 + 1]? = some (.cells #[.int .i64 0, .slice none 0 0] 33 (0, 0)) := (Below.heap_alloc _ _ _ (by omega)).trans hx2
  have HB1 : Hid (Below w.heap.size w (w1.alloc (.cells #[.slice none 0 0] 31))) := (HB0.out.trans (hb1.mono HB0.out.size)).alloc (by omega) _
  have HC := hid (set_two (x := .int .i64 0) (y := .slice none 0 0) hx3)
  have HD := hid (below_two (b := w.heap.size + 1 + 1) (x := .int .i64 0) (y := .slice none 0 0) HB1.out (by omega))
  obtain ⟨y2, y3, g2, g3⟩ := two_cells hx3
  clear hb1 hx2 hx3
  go_wp2_with fail
  obtain ⟨c0, c1⟩ := HC.out
  refine bodyPost_ret (v := .tuple #[.agg #[.int .i64 0, .slice none 0 0], .int .i64 q]) ?_ rfl ⟨rfl, HD.out⟩
  simp [results, Try.f50, go_sem, c0, c1]
set_option maxHeartbeats 800000 in
theorem without_arg (m : Nat) (s b : Int) (v : Value) (l : List Nat) (w : World) (hm : m ≤ 8) (hf : Fam m l) (hb : Bas l) (h : Ints w v (N l)) (hs : setR m s = 1) :
    Calls Try.prog 50 #[.agg #[.int .i64 m, v], .int .i64 s, .int .i64 b] w (BadM w 1) := by
  have HI := hid h
  obtain ⟨a, cap, hv, _, _⟩ := h.nats
  subst hv
  have HB0 := hid (boxW_below w m (.slice a l.length cap) b)
  have HRK := hid (Ranks_ok m _ l _ hm hf hb (HI.out.below HB0.out))
  have HX : Hid (∀ w2, Below (boxW w m (.slice a l.length cap) b).heap.size (boxW w m (.slice a l.length cap) b) w2 → _) := fun w2 h => boxW_blocks h
  have HSZ := hid (boxW_size w m (.slice a l.length cap) b)
  have HSC := hid (fun w' => setsCheck_any m s w')
  rw [hs] at HSC
  clear hs
  go_enter Try.func50, Try.ntmps50
  go_wp2_with fail
  refine HRK.out.mono ?_
  rintro e w1 ⟨r1, rfl, hr1, hb1⟩
  obtain ⟨hx0, _, hx2⟩ := HX.out w1 hb1
  obtain ⟨rb, roff, rcap, rfl, _, _⟩ := hr1
  obtain ⟨x0, x1, _, _⟩ := two_cells hx0
  have z0 := fun o => cellA (W := w1) o x0
  have hsz1 : w.heap.size + 3 ≤ w1.heap.size := by have := hb1.size; have := HSZ.out; omega
  have hx3 : (w1.alloc (.cells #[.slice (some ⟨rb, roff, none⟩) (2 ^ m) rcap] 31)).heap[w.heap.size + 1 + 1]? = some (.cells #[.int .i64 0, .slice none 0 0] 33 (0, 0)) := (Below.heap_alloc _ _ _ (by omega)).trans hx2
  have HB1 : Hid (Below w.heap.size w (w1.alloc (.cells #[.slice (some ⟨rb, roff, none⟩) (2 ^ m) rcap] 31))) := (HB0.out.trans (hb1.mono HB0.out.size)).alloc (by omega) _
  have HC := hid (set_two (x := .int .i64 0) (y := .slice none 0 0) hx3)
  have HD := hid (below_two (b := w.heap.size + 1 + 1) (x := .int .i64 0) (y := .slice none 0 0) HB1.out (by omega))
  obtain ⟨y2, y3, g2, g3⟩ := two_cells hx3
  clear hb1 hx2 hx3 hx0
  go_wp2_with fail
  refine (HSC.out _).mono ?_
  rintro e w1' ⟨rfl, rfl⟩
  go_wp2_with fail
  obtain ⟨c0, c1⟩ := HC.out
  refine bodyPost_ret (v := .tuple #[.agg #[.int .i64 0, .slice none 0 0], .int .i64 1]) ?_ rfl ⟨rfl, HD.out⟩
  simp [results, Try.f50, go_sem, c0, c1]
end Go.Proofs.Ytgdcfogikchjeaa
