/- The document's free element and what is simple: rotaref.Freed, Simple. -/
import Derived.Test.YthbldeloocmakabGreatRefMkAQ
import Derived.Test.YthbldeloocmakabGreatRefMin3W
namespace Go.Proofs.YthbldeloocmakabGreat
open Go.RowKit

theorem rm_top {n s : Nat} (hs : s < 2 ^ (n + 1)) (h : s.testBit n = true) : s - 2 ^ n = rm s n ∧ 2 ^ n ≤ s ∧ rm s n < 2 ^ n := by
  have h1 := Nat.ge_two_pow_of_testBit h
  have h2 := rm_ltn hs
  refine ⟨?_, h1, h2⟩
  have e : s = 2 ^ n + rm s n := by
    have e2 : 2 ^ n + rm s n = 2 ^ n ||| rm s n := by
      have := Nat.two_pow_add_eq_or_of_lt h2 1
      simpa using this
    rw [e2]
    refine Nat.eq_of_testBit_eq fun j => ?_
    rw [Nat.testBit_or, Nat.testBit_two_pow, rm_bit]
    by_cases e : n = j
    · subst e; simp [h]
    · simp [e]
  omega
theorem low_of {n s : Nat} (hs : s < 2 ^ (n + 1)) (h : s.testBit n = false) : s < 2 ^ n := lt_of_bits fun j hj => by
  have := bit_n hs hj
  by_cases e : j = n
  · subst e; rw [h] at hj; cases hj
  · omega
set_option maxRecDepth 20000 in
set_option maxHeartbeats 2000000 in
theorem FreedQ_ok (s bM bR n : Nat) (v : Value) (r : Nat → Nat) (w : World) (hn : n < 8) (hs : s < 2 ^ (n + 1)) (hr8 : ∀ i, r i ≤ 8)
    (hM : w.cell? ⟨bM, 0, none⟩ = some (.int .i64 n)) (hR : w.cell? ⟨bR, 0, none⟩ = some v) (hv : RkAt w v (2 ^ n) r) :
    Calls Tryz.prog 43 #[.int .i64 s, .pointer (some ⟨bM, 0, none⟩), .pointer (some ⟨bR, 0, none⟩)] w fun e w' => e = .returned (.int .i64 (freeR n r s : Nat)) ∧ Below w.heap.size w w' := by
  obtain ⟨rb, roff, rcap, rfl, h1, h2⟩ := hv
  have s8 : s < 256 := lt256 (n := n + 1) (by omega) hs
  have IN := hid (fun w => In_any s n w s8 hn)
  have AL := hid (fun w' => All_ref n w' (by omega))
  have hR' : ∀ x : Later w, x.now.cell? ⟨bR, 0, none⟩ = some (.slice (some ⟨rb, roff, none⟩) (2 ^ n) rcap) := fun x => (x.kept.cell (p := ⟨bR, 0, none⟩) (World.block_lt_of_cell? w _ hR)).trans hR
  have hM' : ∀ x : Later w, x.now.cell? ⟨bM, 0, none⟩ = some (.int .i64 n) := fun x => (x.kept.cell (p := ⟨bM, 0, none⟩) (World.block_lt_of_cell? w _ hM)).trans hM
  have EF : Hid (freeR n r s = if s.testBit n = true then min (r (rm s n) + 1) (r (2 ^ n - 1)) else r s) := rfl
  cases hb : s.testBit n
  · rw [hb] at EF IN
    have hlt := low_of hs hb
    have hc := h2 s hlt
    have hlt' : (s : Int) < ((2 ^ n : Nat) : Int) := Int.ofNat_lt.2 hlt
    have E : Hid (freeR n r s = r s) := EF.out.trans (if_neg (by simp))
    clear hb EF h2 hr8
    rw [E.out]
    generalize r s = rs at *
    generalize 2 ^ n = T at *
    go_enter Tryz.func43, Tryz.ntmps43
    go_wp2_with fail
    refine (IN.out _).mono ?_
    rintro e w' ⟨rfl, hw'⟩
    obtain rfl := hw'.symm
    go_wp2_with fail
    go_ret
    exact ⟨rfl, Below.refl _ _⟩
  · rw [hb] at EF IN
    obtain ⟨e1, e2, e3⟩ := rm_top hs hb
    have E : Hid (freeR n r s = min (r (rm s n) + 1) (r (2 ^ n - 1))) := EF.out.trans (if_pos rfl)
    have hc1 : ∀ x : Later w, x.now.cell? ⟨rb, roff + rm s n, none⟩ = some (.int .i64 (r (rm s n) : Nat)) := fun x => (x.kept.cell (p := ⟨rb, roff + rm s n, none⟩) h1).trans (h2 _ e3)
    have hc2 : ∀ x : Later w, x.now.cell? ⟨rb, roff + (2 ^ n - 1), none⟩ = some (.int .i64 (r (2 ^ n - 1) : Nat)) := fun x => (x.kept.cell (p := ⟨rb, roff + (2 ^ n - 1), none⟩) h1).trans (h2 _ (full_lt n))
    have hsub : (s : Int) - ((2 ^ n : Nat) : Int) = (rm s n : Int) := by omega
    have i1 : (rm s n : Int) < ((2 ^ n : Nat) : Int) := Int.ofNat_lt.2 e3
    have i2 : ((2 ^ n - 1 : Nat) : Int) < ((2 ^ n : Nat) : Int) := Int.ofNat_lt.2 (full_lt n)
    have q1 := hr8 (rm s n)
    have q2 := hr8 (2 ^ n - 1)
    have hT2 : 2 ^ n ≤ 256 := (pow_wrap n (by omega)).2
    have hn8 : (n : Int) < 8 := by omega
    have hpw := pow8 hn
    have hpW := powW hn
    rw [E.out]
    clear hb EF h2 hr8 E e1 e2 e3 hs
    generalize r (rm s n) = x at *
    generalize r (2 ^ n - 1) = y at *
    generalize rm s n = z at *
    generalize 2 ^ n - 1 = fm at *
    generalize hTT : 2 ^ n = T at *
    clear hTT
    by_cases hxy : x + 1 < y
    · have a1 : (x : Int) + 1 < (y : Int) := by omega
      have a2 : ¬ (y : Int) < (x : Int) + 1 := by omega
      have a3 : ¬ (y : Int) ≤ (x : Int) + 1 := by omega
      have E2 : Hid (min (x + 1) y = x + 1) := by show _ = _; omega
      rw [E2.out]
      clear hxy
      go_enter Tryz.func43, Tryz.ntmps43
      go_wp2_with fail
      refine (IN.out _).mono ?_
      rintro e w' ⟨rfl, hw'⟩
      obtain rfl := hw'.symm
      go_wp2_with fail
      refine region_later (by kernel_rfl) (by kernel_rfl) ?_
      repeat (go_big_quiet_step ((go_at_call 28; refine (AL.out _).mono ?_; rintro e w' ⟨rfl, rfl⟩; exact ⟨rfl, Later.on _ (Below.refl _ _)⟩)))
      refine wpQuiet_nil ?_
      intro w6 hw'
      obtain ⟨⟨y6, hb6⟩, hw''⟩ := hw'
      dsimp only at hw''
      subst hw''
      have HB := hid hb6
      clear hb6 hpw hpW
      go_wp2_with fail
      go_ret
      exact ⟨ret_int (by omega), HB.out⟩
    · by_cases hyx : y < x + 1
      · have a1 : ¬ (x : Int) + 1 < (y : Int) := by omega
        have a2 : (y : Int) < (x : Int) + 1 := by omega
        have E2 : Hid (min (x + 1) y = y) := by show _ = _; omega
        rw [E2.out]
        clear hxy hyx
        go_enter Tryz.func43, Tryz.ntmps43
        go_wp2_with fail
        refine (IN.out _).mono ?_
        rintro e w' ⟨rfl, hw'⟩
        obtain rfl := hw'.symm
        go_wp2_with fail
        refine region_later (by kernel_rfl) (by kernel_rfl) ?_
        repeat (go_big_quiet_step ((go_at_call 28; refine (AL.out _).mono ?_; rintro e w' ⟨rfl, rfl⟩; exact ⟨rfl, Later.on _ (Below.refl _ _)⟩)))
        refine wpQuiet_nil ?_
        intro w6 hw'
        obtain ⟨⟨y6, hb6⟩, hw''⟩ := hw'
        dsimp only at hw''
        subst hw''
        have HB := hid hb6
        clear hb6 hpw hpW
        go_wp2_with fail
        go_ret
        exact ⟨ret_int (by omega), HB.out⟩
      · obtain rfl : y = x + 1 := by omega
        have a1 : ¬ (x : Int) + 1 < ((x + 1 : Nat) : Int) := by omega
        have a2 : ¬ ((x + 1 : Nat) : Int) < (x : Int) + 1 := by omega
        have E2 : Hid (min (x + 1) (x + 1) = x + 1) := by show _ = _; omega
        rw [E2.out]
        clear hxy hyx
        go_enter Tryz.func43, Tryz.ntmps43
        go_wp2_with fail
        refine (IN.out _).mono ?_
        rintro e w' ⟨rfl, hw'⟩
        obtain rfl := hw'.symm
        go_wp2_with fail
        refine region_later (by kernel_rfl) (by kernel_rfl) ?_
        repeat (go_big_quiet_step ((go_at_call 28; refine (AL.out _).mono ?_; rintro e w' ⟨rfl, rfl⟩; exact ⟨rfl, Later.on _ (Below.refl _ _)⟩)))
        refine wpQuiet_nil ?_
        intro w6 hw'
        obtain ⟨⟨y6, hb6⟩, hw''⟩ := hw'
        dsimp only at hw''
        subst hw''
        have HB := hid hb6
        clear hb6 hpw hpW
        go_wp2_with fail
        go_ret
        exact ⟨ret_int (by omega), HB.out⟩
set_option maxRecDepth 20000 in
set_option maxHeartbeats 3200000 in
theorem Freed_ref (m : Nat) (v : Value) (l : List Nat) (w : World) (hm : m < 8) (hf : Fam m l) (_hb : Bas l) (h : Ints w v (N l)) :
    Calls Tryz.prog 14 #[.agg #[.int .i64 m, v]] w fun e w' => ∃ r, e = .returned (.agg #[.int .i64 ((m + 1 : Nat) : Int), r]) ∧ Own w.heap.size w' r (feL m l) ∧ Below w.heap.size w w' := by
  have HI := hid h
  obtain ⟨a, cap, hv, _, _⟩ := h.nats
  subst hv
  have HB0 := hid (boxM_below w m (.slice a l.length cap))
  have HRK := hid (Ranks_ref m _ l _ (by omega) (hf.lt256 (by omega)) (HI.out.below HB0.out))
  have HX : Hid (∀ w2, Below (boxM w m (.slice a l.length cap)).heap.size (boxM w m (.slice a l.length cap)) w2 → _) := fun w2 h => boxM_blocks h
  have HSZ := hid (boxM_size w m (.slice a l.length cap))
  obtain ⟨acc, HACC⟩ : ∃ acc : List Nat, Hid (feL m l = acc) := ⟨_, rfl⟩
  rw [HACC.out]
  obtain ⟨M, HM, hM1⟩ : ∃ M : Nat, Hid (m + 1 = M) ∧ (m : Int) + 1 = (M : Int) := ⟨m + 1, Eq.refl (m + 1), by omega⟩
  rw [HM.out]
  go_enter Tryz.func14, Tryz.ntmps14
  go_wp2_with fail
  refine HRK.out.mono ?_
  rintro e w1 ⟨r1, rfl, hr1, hb1⟩
  obtain ⟨hx0, hx2⟩ := HX.out w1 hb1
  have HR1 := hid hr1
  obtain ⟨rb, roff, rcap, rfl, _, _⟩ := hr1
  have HY0 := hid hx0
  have HY2 := hid hx2
  have HB1 := hid (HB0.out.trans (hb1.mono HB0.out.size))
  have hsz1 : w.heap.size + 1 + 1 ≤ w1.heap.size := by have := hb1.size; have := HSZ.out; omega
  obtain ⟨x00, _, _, _⟩ := two_cells hx0
  have z0 := fun o => cellA (W := w1) o x00
  clear hb1 hx0 hx2 x00
  go_wp2_with fail
  clear z0
  have bR := Boxed.new w1 22 (.slice (some ⟨rb, roff, none⟩) (2 ^ m) rcap)
  have hBK : Below w1.heap.size w1 (w1.alloc (.cells #[.slice (some ⟨rb, roff, none⟩) (2 ^ m) rcap] 22)) := (Below.refl _ _).alloc (Nat.le_refl _) _
  have hszK : (w1.alloc (.cells #[.slice (some ⟨rb, roff, none⟩) (2 ^ m) rcap] 22)).heap.size = w1.heap.size + 1 := by simp
  have HbR := hid bR
  have HBK := hid hBK
  clear bR hBK
  revert hszK HbR HBK
  generalize (w1.alloc (.cells #[.slice (some ⟨rb, roff, none⟩) (2 ^ m) rcap] 22)) = W2
  intro hszK HbR HBK
  have HW2 := hid (HB1.out.trans (HBK.out.mono HB1.out.size))
  have HZ0 : Hid (W2.heap[w.heap.size]? = some (.cells #[.int .i64 m, .slice a l.length cap] 24 (0, 0))) := (HBK.out.block _ (by omega)).trans HY0.out
  have HZ2 : Hid (W2.heap[w.heap.size + 1]? = some (.cells #[.int .i64 0, .slice none 0 0] 24 (0, 0))) := (HBK.out.block _ (by omega)).trans HY2.out
  obtain ⟨x0, _, _, _⟩ := two_cells HZ0.out
  have HRA := hid (HR1.out.below HBK.out)
  have ORK := hid (OfRank_any M 43 #[.pointer (some ⟨w.heap.size, 0, none⟩), .pointer (some ⟨w1.heap.size, 0, none⟩)] (freeR m (rk l)) W2 (by rw [← HM.out]; omega) (fun args w => enters_of Tryz.func43 (by kernel_rfl) rfl args w)
    (fun x hx w3 hb3 _ => by
      have c1 := (hb3.cell (p := ⟨w1.heap.size, 0, none⟩) (by show w1.heap.size < _; omega)).trans HbR.out.cell
      have c2 := (hb3.cell (p := ⟨w.heap.size, 0, none⟩) (by show w.heap.size < _; omega)).trans x0
      exact FreedQ_ok x w.heap.size w1.heap.size m _ (rk l) w3 hm (by rw [HM.out]; exact hx) (rk_small (by omega) hf) c2 c1 (HRA.out.below hb3)))
  rw [show basR M (freeR m (rk l)) = acc by rw [← HACC.out, ← HM.out]; rfl] at ORK
  refine ORK.out.mono ?_
  rintro e w4 ⟨r4, rfl, hr4, hb4⟩
  obtain ⟨ra, rc, hr⟩ := ownsRow_form' hr4
  subst hr
  have hxx := (hb4.block (w.heap.size + 1) (by omega)).trans HZ2.out
  obtain ⟨y2, y3, g2, g3⟩ := two_cells hxx
  have HC := hid (set_two (x := .int .i64 M) (y := .slice ra acc.length rc) hxx)
  have HB4 := hid (HW2.out.trans (hb4.mono HW2.out.size))
  have HD := hid (below_two (b := w.heap.size + 1) (x := .int .i64 M) (y := .slice ra acc.length rc) HB4.out (by omega))
  have HII := hid ((hr4.set2 (b := w.heap.size + 1) (x := .int .i64 M) (y := .slice ra acc.length rc) (by omega)).mono (by omega : w.heap.size ≤ _))
  clear hb4 hr4 hxx
  go_wp2_with fail
  obtain ⟨c0, c1⟩ := HC.out
  refine bodyPost_ret (v := .agg #[.int .i64 M, .slice ra _ rc]) ?_ rfl ⟨_, rfl, HII.out, HD.out⟩
  simp [results, Tryz.f14, go_sem, c0, c1]
end Go.Proofs.YthbldeloocmakabGreat
