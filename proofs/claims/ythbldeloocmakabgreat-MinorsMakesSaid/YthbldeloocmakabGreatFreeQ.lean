/- minors.Free. -/
import Derived.Test.YthbldeloocmakabGreatTruncW
import Derived.Test.YthbldeloocmakabGreatPlainAll
namespace Go.Proofs.YthbldeloocmakabGreat
open Go.RowKit

set_option maxHeartbeats 800000 in
theorem FreeQ_ok (s bA bR bF T n : Nat) (v : Value) (r : Nat → Nat) (w : World) (hT : T = 2 ^ n) (hn : n < 8) (hs : s < 2 ^ (n + 1))
    (hA : w.cell? ⟨bA, 0, none⟩ = some (.int .i64 (T : Nat))) (hR : w.cell? ⟨bR, 0, none⟩ = some v) (hF : w.cell? ⟨bF, 0, none⟩ = some (.int .i64 (T - 1 : Nat))) (hv : RkAt w v T r) :
    Calls Tryz.prog 50 #[.int .i64 s, .pointer (some ⟨bA, 0, none⟩), .pointer (some ⟨bR, 0, none⟩), .pointer (some ⟨bF, 0, none⟩)] w fun e w' => e = .returned (.bool (r (rm s n) == pop (rm s n) && (s == rm s n || decide (r (rm s n) < r (T - 1))))) ∧ Below w.heap.size w w' := by
  have hT2 : T ≤ 256 := by rw [hT]; exact (pow_wrap n (by omega)).2
  have hT0 : 1 ≤ T := by rw [hT]; exact Nat.one_le_two_pow
  have hs9 : s < 512 := Nat.lt_of_lt_of_le hs (by rw [Nat.pow_succ]; omega)
  have hand : bits .andNot .i64 (s : Int) (T : Int) = ((rm s n : Nat) : Int) := by rw [hT]; exact i64_andNot_nat s (2 ^ n) (by omega) (by omega)
  have hq0 : rm s n < T := by rw [hT]; exact rm_ltn hs
  have hRA := hid hv
  obtain ⟨rb, roff, rcap, rfl, h1, h2⟩ := hv
  have c1 := h2 (rm s n) hq0
  have c2 := h2 (T - 1) (by omega)
  generalize rm s n = q at *
  have HI := hid (fun x : Later w => mInd_any _ T r q x.now hT2 hq0 (hRA.out.below x.kept))
  have hA' : ∀ x : Later w, x.now.cell? ⟨bA, 0, none⟩ = some (.int .i64 (T : Nat)) := fun x => (x.kept.cell (p := ⟨bA, 0, none⟩) (World.block_lt_of_cell? w _ hA)).trans hA
  have hR' : ∀ x : Later w, x.now.cell? ⟨bR, 0, none⟩ = some (.slice (some ⟨rb, roff, none⟩) T rcap) := fun x => (x.kept.cell (p := ⟨bR, 0, none⟩) (World.block_lt_of_cell? w _ hR)).trans hR
  have hF' : ∀ x : Later w, x.now.cell? ⟨bF, 0, none⟩ = some (.int .i64 (T - 1 : Nat)) := fun x => (x.kept.cell (p := ⟨bF, 0, none⟩) (World.block_lt_of_cell? w _ hF)).trans hF
  have c1' : ∀ x : Later w, x.now.cell? ⟨rb, roff + q, none⟩ = some (.int .i64 (r q : Nat)) := fun x => (x.kept.cell (p := ⟨rb, roff + q, none⟩) (World.block_lt_of_cell? w _ c1)).trans c1
  have c2' : ∀ x : Later w, x.now.cell? ⟨rb, roff + (T - 1), none⟩ = some (.int .i64 (r (T - 1) : Nat)) := fun x => (x.kept.cell (p := ⟨rb, roff + (T - 1), none⟩) (World.block_lt_of_cell? w _ c2)).trans c2
  clear h2 hR hF c1 c2 hT
  have hT1 : T - 1 < T := by omega
  generalize r (T - 1) = R at *
  generalize T - 1 = fm at *
  rcases hi : r q == pop q with _ | _
  · rw [hi] at HI
    clear hi
    go_enter Tryz.func50, Tryz.ntmps50
    go_wp2_with fail
    refine region_later (by kernel_rfl) (by kernel_rfl) ?_
    repeat (go_big_quiet_step ((
      (go_at_call 48; refine (HI.out _).mono ?_; rintro e w' ⟨rfl, hb9⟩; exact ⟨rfl, Later.on _ hb9⟩))))
    refine wpQuiet_nil ?_
    intro w6 hw'
    obtain ⟨⟨y6, hb6⟩, hw''⟩ := hw'
    dsimp only at hw''
    subst hw''
    have HB := hid hb6
    clear hb6
    go_wp2_with fail
    go_ret
    exact ⟨rfl, HB.out⟩
  · rw [hi] at HI
    clear hi
    rcases hq : decide (s = q) with _ | _
    · have hne : ((s : Int) == (q : Int)) = false := by rw [beq_eq_false_iff_ne]; have := of_decide_eq_false hq; omega
      have hne' : ¬ (s : Int) = (q : Int) := by have := of_decide_eq_false hq; omega
      have hsq : (s == q) = false := by rw [beq_eq_false_iff_ne]; exact of_decide_eq_false hq
      clear hq
      go_enter Tryz.func50, Tryz.ntmps50
      go_wp2_with fail
      refine region_later (by kernel_rfl) (by kernel_rfl) ?_
      repeat (go_big_quiet_step ((
        (go_at_call 48; refine (HI.out _).mono ?_; rintro e w' ⟨rfl, hb9⟩; exact ⟨rfl, Later.on _ hb9⟩))))
      refine wpQuiet_nil ?_
      intro w6 hw'
      obtain ⟨⟨y6, hb6⟩, hw''⟩ := hw'
      dsimp only at hw''
      subst hw''
      have HB := hid hb6
      clear hb6
      go_wp2_with fail
      go_ret
      exact ⟨ret_bool (by rw [hsq, Bool.eq_iff_iff]; simp), HB.out⟩
    · have hsq := of_decide_eq_true hq
      clear hq
      subst hsq
      go_enter Tryz.func50, Tryz.ntmps50
      go_wp2_with fail
      refine region_later (by kernel_rfl) (by kernel_rfl) ?_
      repeat (go_big_quiet_step ((
        (go_at_call 48; refine (HI.out _).mono ?_; rintro e w' ⟨rfl, hb9⟩; exact ⟨rfl, Later.on _ hb9⟩))))
      refine wpQuiet_nil ?_
      intro w6 hw'
      obtain ⟨⟨y6, hb6⟩, hw''⟩ := hw'
      dsimp only at hw''
      subst hw''
      have HB := hid hb6
      clear hb6
      go_wp2_with fail
      go_ret
      exact ⟨ret_bool (by simp), HB.out⟩
theorem two_new (W : World) (x y : Value) (t : TypeId) {B : Nat} (h : W.heap.size = B) :
    Below W.heap.size W ((W.alloc (.cells #[x] t)).alloc (.cells #[y] t)).drew ∧ ((W.alloc (.cells #[x] t)).alloc (.cells #[y] t)).drew.cell? ⟨B, 0, none⟩ = some x ∧ ((W.alloc (.cells #[x] t)).alloc (.cells #[y] t)).drew.cell? ⟨B + 1, 0, none⟩ = some y ∧ ((W.alloc (.cells #[x] t)).alloc (.cells #[y] t)).drew.heap.size = B + 2 := by
  subst h
  refine ⟨(((Below.refl _ _).alloc (Nat.le_refl _) _).alloc (by simp) _).drew, ?_, ?_, ?_⟩
  · exact cellA _ (Boxed.new W t x).cell
  · have := (Boxed.new (W.alloc (.cells #[x] t)) t y).cell
    rw [World.size_alloc] at this
    exact this
  · show ((W.alloc (.cells #[x] t)).alloc (.cells #[y] t)).heap.size = _
    simp
set_option maxRecDepth 20000 in
set_option maxHeartbeats 1600000 in
theorem Free_ok (m : Nat) (v : Value) (l : List Nat) (w : World) (hm : m < 8) (hf : Fam m l) (hb : Bas l) (h : Ints w v (N l)) :
    Calls Tryz.prog 18 #[.agg #[.int .i64 m, v]] w (GivesO w ((m + 1 : Nat) : Int) (feL m l)) := by
  have HI := hid h
  obtain ⟨a, cap, hv, _, _⟩ := h.nats
  subst hv
  have HB0 := hid (boxM_below w m (.slice a l.length cap))
  have HRK := hid (Ranks_ok m _ l _ (by omega) hf hb (HI.out.below HB0.out))
  have HX : Hid (∀ w2, Below (boxM w m (.slice a l.length cap)).heap.size (boxM w m (.slice a l.length cap)) w2 → _) := fun w2 h => boxM_blocks h
  have HSZ := hid (boxM_size w m (.slice a l.length cap))
  have HWS := hid (fun w' => wholeSet_any m w' (by omega))
  obtain ⟨acc, HACC⟩ : ∃ acc : List Nat, Hid (feL m l = acc) := ⟨_, rfl⟩
  rw [HACC.out]
  obtain ⟨p, HP, hp⟩ : ∃ p : Int, Hid (((m + 1 : Nat) : Int) = p) ∧ (m : Int) + 1 = p := ⟨_, rfl, rfl⟩
  rw [HP.out]
  have hm8 : ((m : Int) == 8) = false := by rw [beq_eq_false_iff_ne]; omega
  have hm8' : ¬ (m : Int) = 8 := by omega
  have hmT : wrap64 (2 ^ m) = ((2 ^ m : Nat) : Int) := (pow_wrap m (by omega)).1
  go_enter Tryz.func18, Tryz.ntmps18
  go_wp2_with fail
  refine HRK.out.mono ?_
  rintro e w1 ⟨r1, rfl, hr1, hb1⟩
  obtain ⟨hx0, hx1⟩ := HX.out w1 hb1
  have HR1 := hid hr1
  obtain ⟨rb, roff, rcap, rfl, _, _⟩ := hr1
  have HY0 := hid hx0
  have HY1 := hid hx1
  have HB1 := hid (HB0.out.trans (hb1.mono HB0.out.size))
  have hsz1 : w.heap.size + 2 ≤ w1.heap.size := by have := hb1.size; have := HSZ.out; omega
  obtain ⟨x00, _, _, _⟩ := two_cells hx0
  have z0 := fun o => cellA (W := w1) o x00
  clear hb1 hx0 hx1 x00
  go_wp2_with fail
  clear z0
  have bR := Boxed.new w1 22 (.slice (some ⟨rb, roff, none⟩) (2 ^ m) rcap)
  have hBK : Below w1.heap.size w1 (w1.alloc (.cells #[.slice (some ⟨rb, roff, none⟩) (2 ^ m) rcap] 22)) := (Below.refl _ _).alloc (Nat.le_refl _) _
  have hszK : (w1.alloc (.cells #[.slice (some ⟨rb, roff, none⟩) (2 ^ m) rcap] 22)).heap.size = w1.heap.size + 1 := by simp
  have HbR := hid bR
  have HBK := hid hBK
  clear bR hBK
  revert hszK HbR HBK
  generalize (w1.alloc (.cells #[.slice (some ⟨rb, roff, none⟩) (2 ^ m) rcap] 22)) = W2
  intro hszK HbR HBK
  have HW2 := hid (HB1.out.trans (HBK.out.mono HB1.out.size))
  have HZ0 : Hid (W2.heap[w.heap.size]? = some (.cells #[.int .i64 m, .slice a l.length cap] 24 (0, 0))) := (HBK.out.block _ (by omega)).trans HY0.out
  have HZ1 : Hid (W2.heap[w.heap.size + 1]? = some (.cells #[.int .i64 0, .slice none 0 0] 24 (0, 0))) := (HBK.out.block _ (by omega)).trans HY1.out
  obtain ⟨x0, _, _, _⟩ := two_cells HZ0.out
  have xr := HbR.out.cell
  have HRA := hid (HR1.out.below HBK.out)
  have HHB := hid hb
  clear HRK HX HSZ HI h
  have HMW : Hid (IntKind.i64.wrap (2 ^ m) = ((2 ^ m : Nat) : Int)) := hid <| by rw [show (2 : Int) ^ m = ((2 ^ m : Nat) : Int) by simp]; exact wrap_i64_nat _ (by have := (pow_wrap m (by omega)).2; omega)
  have hneg : ¬ (m : Int) < 0 := by omega
  have hneg' : decide ((m : Int) < 0) = false := by rw [decide_eq_false_iff_not]; omega
  go_region_held3 (fun w' => w'.cell? ⟨w.heap.size, 0, none⟩ = some (.int .i64 m)) (go_keep) ((go_at_call 45; refine (HWS.out _).mono ?_; rintro e w' ⟨rfl, rfl⟩))
  all_goals
    first
    | (have q := two_new W2 (.int .i64 ((2 ^ m - 1 : Nat) : Int)) (.int .i64 (IntKind.i64.wrap (2 ^ m))) 3 hszK
       generalize ((W2.alloc (.cells #[(.int .i64 ((2 ^ m - 1 : Nat) : Int))] 3)).alloc (.cells #[.int .i64 (IntKind.i64.wrap (2 ^ m))] 3)).drew = W3 at q ⊢
       obtain ⟨hb3, q1, q2, hsz3⟩ := q
       have xA : W3.cell? ⟨w1.heap.size + 1 + 1, 0, none⟩ = some (.int .i64 ((2 ^ m : Nat) : Int)) := by rw [← HMW.out]; first | exact q1 | exact q2
       have xF : W3.cell? ⟨w1.heap.size + 1, 0, none⟩ = some (.int .i64 ((2 ^ m - 1 : Nat) : Int)) := by first | exact q1 | exact q2
       have x0q := (hb3.cell (p := ⟨w.heap.size, 0, none⟩) (by show w.heap.size < _; omega)).trans x0
       have OI := hid (ofInd_any (m + 1) 50 #[.pointer (some ⟨w1.heap.size + 1 + 1, 0, none⟩), .pointer (some ⟨w1.heap.size, 0, none⟩), .pointer (some ⟨w1.heap.size + 1, 0, none⟩)] (fun s => rk l (rm s m) == pop (rm s m) && (s == rm s m || decide (rk l (rm s m) < rk l (2 ^ m - 1)))) W3 (by omega) (fun args w => enters_of Tryz.func50 (by kernel_rfl) rfl args w)
         (fun x hx w5 hb5 _ => FreeQ_ok x (w1.heap.size + 1 + 1) w1.heap.size (w1.heap.size + 1) (2 ^ m) m _ (rk l) w5 rfl hm hx ((hb5.cell (p := ⟨w1.heap.size + 1 + 1, 0, none⟩) (by show w1.heap.size + 1 + 1 < _; omega)).trans xA) ((hb5.cell (p := ⟨w1.heap.size, 0, none⟩) (by show w1.heap.size < _; omega)).trans ((hb3.cell (p := ⟨w1.heap.size, 0, none⟩) (by show w1.heap.size < _; omega)).trans xr)) ((hb5.cell (p := ⟨w1.heap.size + 1, 0, none⟩) (by show w1.heap.size + 1 < _; omega)).trans xF) ((HRA.out.below hb3).below hb5)))
       rw [ofInd_eq (r := freeR m (rk l)) (by omega) (free_rkOn hm (hb.rkOn m)) (fun s hs => free_ind hm (hb.rkOn m) hs), show basR (m + 1) (freeR m (rk l)) = acc from HACC.out, HP.out] at OI
       have HB3 := hid hb3
       have HZ3 := hid ((hb3.block (w.heap.size + 1) (by omega)).trans HZ1.out)
       clear hb3 q1 q2 xA xF xr x0
       generalize 2 ^ m - 1 = fm at *
       go_wp2_with fail
       refine OI.out.mono ?_
       rintro e w4 ⟨r4, rfl, hr4, hb4⟩
       obtain ⟨ra, rc, hr⟩ := ownsRow_form' hr4
       subst hr
       have hxx := (hb4.block (w.heap.size + 1) (by omega)).trans HZ3.out
       obtain ⟨y2, y3, g2, g3⟩ := two_cells hxx
       have HC := hid (set_two (x := .int .i64 p) (y := .slice ra acc.length rc) hxx)
       have HB4 := hid (HW2.out.trans ((HB3.out.trans (hb4.mono HB3.out.size)).mono HW2.out.size))
       have HD := hid (below_two (b := w.heap.size + 1) (x := .int .i64 p) (y := .slice ra acc.length rc) HB4.out (by omega))
       have HII := hid ((hr4.set2 (b := w.heap.size + 1) (x := .int .i64 p) (y := .slice ra acc.length rc) (by omega)).mono (by omega : w.heap.size ≤ _))
       clear hb4 hr4 hxx
       go_wp2_with fail
       obtain ⟨c0, c1⟩ := HC.out
       refine bodyPost_ret (v := .tuple #[.agg #[.int .i64 p, .slice ra _ rc], .int .i64 0]) ?_ rfl ⟨_, rfl, HII.out, HD.out⟩
       simp [results, Tryz.f18, go_sem, c0, c1])
    | (have q := two_new W2 (.int .i64 (IntKind.i64.wrap (2 ^ m))) (.int .i64 ((2 ^ m - 1 : Nat) : Int)) 3 hszK
       generalize ((W2.alloc (.cells #[.int .i64 (IntKind.i64.wrap (2 ^ m))] 3)).alloc (.cells #[(.int .i64 ((2 ^ m - 1 : Nat) : Int))] 3)).drew = W3 at q ⊢
       obtain ⟨hb3, q1, q2, hsz3⟩ := q
       have xA : W3.cell? ⟨w1.heap.size + 1, 0, none⟩ = some (.int .i64 ((2 ^ m : Nat) : Int)) := by rw [← HMW.out]; first | exact q1 | exact q2
       have xF : W3.cell? ⟨w1.heap.size + 1 + 1, 0, none⟩ = some (.int .i64 ((2 ^ m - 1 : Nat) : Int)) := by first | exact q1 | exact q2
       have x0q := (hb3.cell (p := ⟨w.heap.size, 0, none⟩) (by show w.heap.size < _; omega)).trans x0
       have OI := hid (ofInd_any (m + 1) 50 #[.pointer (some ⟨w1.heap.size + 1, 0, none⟩), .pointer (some ⟨w1.heap.size, 0, none⟩), .pointer (some ⟨w1.heap.size + 1 + 1, 0, none⟩)] (fun s => rk l (rm s m) == pop (rm s m) && (s == rm s m || decide (rk l (rm s m) < rk l (2 ^ m - 1)))) W3 (by omega) (fun args w => enters_of Tryz.func50 (by kernel_rfl) rfl args w)
         (fun x hx w5 hb5 _ => FreeQ_ok x (w1.heap.size + 1) w1.heap.size (w1.heap.size + 1 + 1) (2 ^ m) m _ (rk l) w5 rfl hm hx ((hb5.cell (p := ⟨w1.heap.size + 1, 0, none⟩) (by show w1.heap.size + 1 < _; omega)).trans xA) ((hb5.cell (p := ⟨w1.heap.size, 0, none⟩) (by show w1.heap.size < _; omega)).trans ((hb3.cell (p := ⟨w1.heap.size, 0, none⟩) (by show w1.heap.size < _; omega)).trans xr)) ((hb5.cell (p := ⟨w1.heap.size + 1 + 1, 0, none⟩) (by show w1.heap.size + 1 + 1 < _; omega)).trans xF) ((HRA.out.below hb3).below hb5)))
       rw [ofInd_eq (r := freeR m (rk l)) (by omega) (free_rkOn hm (hb.rkOn m)) (fun s hs => free_ind hm (hb.rkOn m) hs), show basR (m + 1) (freeR m (rk l)) = acc from HACC.out, HP.out] at OI
       have HB3 := hid hb3
       have HZ3 := hid ((hb3.block (w.heap.size + 1) (by omega)).trans HZ1.out)
       clear hb3 q1 q2 xA xF xr x0
       generalize 2 ^ m - 1 = fm at *
       go_wp2_with fail
       refine OI.out.mono ?_
       rintro e w4 ⟨r4, rfl, hr4, hb4⟩
       obtain ⟨ra, rc, hr⟩ := ownsRow_form' hr4
       subst hr
       have hxx := (hb4.block (w.heap.size + 1) (by omega)).trans HZ3.out
       obtain ⟨y2, y3, g2, g3⟩ := two_cells hxx
       have HC := hid (set_two (x := .int .i64 p) (y := .slice ra acc.length rc) hxx)
       have HB4 := hid (HW2.out.trans ((HB3.out.trans (hb4.mono HB3.out.size)).mono HW2.out.size))
       have HD := hid (below_two (b := w.heap.size + 1) (x := .int .i64 p) (y := .slice ra acc.length rc) HB4.out (by omega))
       have HII := hid ((hr4.set2 (b := w.heap.size + 1) (x := .int .i64 p) (y := .slice ra acc.length rc) (by omega)).mono (by omega : w.heap.size ≤ _))
       clear hb4 hr4 hxx
       go_wp2_with fail
       obtain ⟨c0, c1⟩ := HC.out
       refine bodyPost_ret (v := .tuple #[.agg #[.int .i64 p, .slice ra _ rc], .int .i64 0]) ?_ rfl ⟨_, rfl, HII.out, HD.out⟩
       simp [results, Tryz.f18, go_sem, c0, c1])
set_option maxHeartbeats 800000 in
theorem Free_bad (n : Int) (v : Value) (zs : List Int) (w : World) (h : Ints w v zs) (hc : chkR n zs ≠ 0) :
    Calls Tryz.prog 18 #[.agg #[.int .i64 n, v]] w (BadM w (chkR n zs)) := by
  have HI := hid h
  obtain ⟨a, cap, rfl, _, _⟩ := h
  have HB0 := hid (boxM_below w n (.slice a zs.length cap))
  have HRK := hid (Ranks_bad n _ zs _ (HI.out.below HB0.out) hc)
  have HX : Hid (∀ w2, Below (boxM w n (.slice a zs.length cap)).heap.size (boxM w n (.slice a zs.length cap)) w2 → _) := fun w2 h => boxM_blocks h
  have HSZ := hid (boxM_size w n (.slice a zs.length cap))
  generalize chkR n zs = q at *
  have hc' : (q == 0) = false := by rw [beq_eq_false_iff_ne]; exact hc
  go_enter Tryz.func18, Tryz.ntmps18
  go_wp2_with fail
  refine HRK.out.mono ?_
  rintro e w1 ⟨rfl, hb1⟩
  obtain ⟨hx0, hx2⟩ := HX.out w1 hb1
  obtain ⟨x00, _, _, _⟩ := two_cells hx0
  have z0 := fun o => cellA (W := w1) o x00
  have hsz1 : w.heap.size + 2 ≤ w1.heap.size := by have := hb1.size; have := HSZ.out; omega
  have hx3 : (w1.alloc (.cells #[.slice none 0 0] 22)).heap[w.heap.size + 1]? = some (.cells #[.int .i64 0, .slice none 0 0] 24 (0, 0)) := (Below.heap_alloc _ _ _ (by omega)).trans hx2
  have HB1 : Hid (Below w.heap.size w (w1.alloc (.cells #[.slice none 0 0] 22))) := (HB0.out.trans (hb1.mono HB0.out.size)).alloc (by omega) _
  have HC := hid (set_two (x := .int .i64 0) (y := .slice none 0 0) hx3)
  have HD := hid (below_two (b := w.heap.size + 1) (x := .int .i64 0) (y := .slice none 0 0) HB1.out (by omega))
  obtain ⟨y2, y3, g2, g3⟩ := two_cells hx3
  clear hb1 hx0 hx2 hx3 x00
  go_wp2_with fail
  obtain ⟨c0, c1⟩ := HC.out
  refine bodyPost_ret (v := .tuple #[.agg #[.int .i64 0, .slice none 0 0], .int .i64 q]) ?_ rfl ⟨rfl, HD.out⟩
  simp [results, Tryz.f18, go_sem, c0, c1]
set_option maxHeartbeats 800000 in
theorem Free_large (v : Value) (l : List Nat) (w : World) (hf : Fam 8 l) (hb : Bas l) (h : Ints w v (N l)) :
    Calls Tryz.prog 18 #[.agg #[.int .i64 8, v]] w (BadM w 2) := by
  have HI := hid h
  obtain ⟨a, cap, hv, _, _⟩ := h.nats
  subst hv
  have HB0 := hid (boxM_below w 8 (.slice a l.length cap))
  have HRK := hid (Ranks_ok 8 _ l _ (Nat.le_refl _) hf hb (HI.out.below HB0.out))
  have HX : Hid (∀ w2, Below (boxM w 8 (.slice a l.length cap)).heap.size (boxM w 8 (.slice a l.length cap)) w2 → _) := fun w2 h => boxM_blocks h
  have HSZ := hid (boxM_size w 8 (.slice a l.length cap))
  go_enter Tryz.func18, Tryz.ntmps18
  go_wp2_with fail
  refine HRK.out.mono ?_
  rintro e w1 ⟨r1, rfl, hr1, hb1⟩
  obtain ⟨rb, roff, rcap, rfl, _, _⟩ := hr1
  generalize 2 ^ 8 = T at *
  obtain ⟨hx0, hx2⟩ := HX.out w1 hb1
  obtain ⟨x00, _, _, _⟩ := two_cells hx0
  have z0 := fun o => cellA (W := w1) o x00
  have hsz1 : w.heap.size + 2 ≤ w1.heap.size := by have := hb1.size; have := HSZ.out; omega
  have hx3 : (w1.alloc (.cells #[.slice (some ⟨rb, roff, none⟩) T rcap] 22)).heap[w.heap.size + 1]? = some (.cells #[.int .i64 0, .slice none 0 0] 24 (0, 0)) := (Below.heap_alloc _ _ _ (by omega)).trans hx2
  have HB1 : Hid (Below w.heap.size w (w1.alloc (.cells #[.slice (some ⟨rb, roff, none⟩) T rcap] 22))) := (HB0.out.trans (hb1.mono HB0.out.size)).alloc (by omega) _
  have HC := hid (set_two (x := .int .i64 0) (y := .slice none 0 0) hx3)
  have HD := hid (below_two (b := w.heap.size + 1) (x := .int .i64 0) (y := .slice none 0 0) HB1.out (by omega))
  obtain ⟨y2, y3, g2, g3⟩ := two_cells hx3
  clear hb1 hx0 hx2 hx3 x00
  go_wp2_with fail
  obtain ⟨c0, c1⟩ := HC.out
  refine bodyPost_ret (v := .tuple #[.agg #[.int .i64 0, .slice none 0 0], .int .i64 2]) ?_ rfl ⟨rfl, HD.out⟩
  simp [results, Tryz.f18, go_sem, c0, c1]
end Go.Proofs.YthbldeloocmakabGreat
