/- The document's classes, components and free elements: rotaref.Classes, Components, Freed. -/
import Derived.Test.YthbldeloocmakabGreatRefMkAQ
import Derived.Test.YthbldeloocmakabGreatRefMin3W
import Derived.Deep.RegionHeld3
namespace Go.Proofs.YthbldeloocmakabGreat
open Go.RowKit

set_option maxRecDepth 20000 in
set_option maxHeartbeats 3200000 in
theorem Classes_ref (m : Nat) (v : Value) (l : List Nat) (w : World) (hm : m ≤ 8) (hf : Fam m l) (hb : Bas l) (h : Ints w v (N l)) :
    Calls Tryz.prog 10 #[.agg #[.int .i64 m, v]] w fun e w' => ∃ r, e = .returned r ∧ Own w.heap.size w' r (eqL m (pcl (rk l) m)) ∧ Below w.heap.size w w' := by
  have HI := hid h
  obtain ⟨a, cap, hv, _, _⟩ := h.nats
  subst hv
  have HB0 := hid (below_box w #[.int .i64 m, .slice a l.length cap])
  have HRK := hid (Ranks_ref m _ l _ hm (hf.lt256 hm) (HI.out.below HB0.out))
  obtain ⟨acc, HACC⟩ : ∃ acc : List Nat, Hid (eqL m (pcl (rk l) m) = acc) := ⟨_, rfl⟩
  rw [HACC.out]
  go_enter Tryz.func10, Tryz.ntmps10
  go_wp2_with fail
  refine HRK.out.mono ?_
  rintro e w1 ⟨r1, rfl, hr1, hb1⟩
  have x00 := (box_cells hb1).1
  have HR1 := hid hr1
  obtain ⟨rb, roff, rcap, rfl, _, _⟩ := hr1
  have HB1 := hid (HB0.out.trans (hb1.mono HB0.out.size))
  have hsz1 : w.heap.size + 1 ≤ w1.heap.size := by have := hb1.size; simpa using this
  have X00 := hid x00
  have z0 := fun o => cellA (W := w1) o x00
  clear hb1 x00
  go_wp2_with fail
  clear z0
  have bR := Boxed.new w1 22 (.slice (some ⟨rb, roff, none⟩) (2 ^ m) rcap)
  have hBK : Below w1.heap.size w1 (w1.alloc (.cells #[.slice (some ⟨rb, roff, none⟩) (2 ^ m) rcap] 22)) := (Below.refl _ _).alloc (Nat.le_refl _) _
  have hszK : (w1.alloc (.cells #[.slice (some ⟨rb, roff, none⟩) (2 ^ m) rcap] 22)).heap.size = w1.heap.size + 1 := by simp
  have HbR := hid bR
  have HBK := hid hBK
  clear bR hBK
  revert hszK HbR HBK
  generalize (w1.alloc (.cells #[.slice (some ⟨rb, roff, none⟩) (2 ^ m) rcap] 22)) = W2
  intro hszK HbR HBK
  have HW2 := hid (HB1.out.trans (HBK.out.mono HB1.out.size))
  have x0 := (HBK.out.cell (p := ⟨w.heap.size, 0, none⟩) (by show w.heap.size < _; omega)).trans X00.out
  have HRA := hid (HR1.out.below HBK.out)
  have TH := hid (Those_any m 36 #[.pointer (some ⟨w1.heap.size, 0, none⟩), .pointer (some ⟨w.heap.size, 0, none⟩)] (dclB (rk l) m) W2 hm (fun args w => enters_of Tryz.func36 (by kernel_rfl) rfl args w)
    (fun x hx w3 hb3 _ => by
      have c1 := (hb3.cell (p := ⟨w1.heap.size, 0, none⟩) (by show w1.heap.size < _; omega)).trans HbR.out.cell
      have c2 := (hb3.cell (p := ⟨w.heap.size, 0, none⟩) (by show w.heap.size < _; omega)).trans x0
      exact ClassesQ_ok x w1.heap.size w.heap.size m _ (rk l) w3 hm hx (rk_small hm hf) c1 c2 (HRA.out.below hb3)))
  rw [show (List.range (2 ^ m)).filter (dclB (rk l) m) = acc by rw [← HACC.out]; exact dcl_eq hm hb.rk] at TH
  refine TH.out.mono ?_
  rintro e w4 ⟨r4, rfl, hr4, hb4⟩
  obtain ⟨ra, rc, hr⟩ := ownsRow_form' hr4
  subst hr
  have HB4 := hid (HW2.out.trans (hb4.mono HW2.out.size))
  have HO4 := hid (hr4.mono HW2.out.size)
  clear hb4 hr4
  go_wp2_with fail
  go_ret
  exact ⟨_, rfl, HO4.out, HB4.out⟩
set_option maxRecDepth 20000 in
set_option maxHeartbeats 2000000 in
theorem ComponentsQ_ok (s bR bM n : Nat) (v : Value) (r : Nat → Nat) (w : World) (hn : n ≤ 8) (hs : s < 2 ^ n) (hr8 : ∀ i, r i ≤ 8)
    (hR : w.cell? ⟨bR, 0, none⟩ = some v) (hM : w.cell? ⟨bM, 0, none⟩ = some (.int .i64 n)) (hv : RkAt w v (2 ^ n) r) :
    Calls Tryz.prog 39 #[.int .i64 s, .pointer (some ⟨bR, 0, none⟩), .pointer (some ⟨bM, 0, none⟩)] w fun e w' => e = .returned (.bool (sepB r n s)) ∧ Below w.heap.size w w' := by
  obtain ⟨rb, roff, rcap, rfl, h1, h2⟩ := hv
  have s8 := lt256 hn hs
  have f8 := lt256 hn (full_lt n)
  have hR' : ∀ x : Later w, x.now.cell? ⟨bR, 0, none⟩ = some (.slice (some ⟨rb, roff, none⟩) (2 ^ n) rcap) := fun x => (x.kept.cell (p := ⟨bR, 0, none⟩) (World.block_lt_of_cell? w _ hR)).trans hR
  have hM' : ∀ x : Later w, x.now.cell? ⟨bM, 0, none⟩ = some (.int .i64 n) := fun x => (x.kept.cell (p := ⟨bM, 0, none⟩) (World.block_lt_of_cell? w _ hM)).trans hM
  have hc0 : ∀ x : Later w, x.now.cell? ⟨rb, roff + s, none⟩ = some (.int .i64 (r s : Nat)) := fun x => (x.kept.cell (p := ⟨rb, roff + s, none⟩) h1).trans (h2 _ hs)
  have hc1 : ∀ x : Later w, x.now.cell? ⟨rb, roff + (2 ^ n - 1), none⟩ = some (.int .i64 (r (2 ^ n - 1) : Nat)) := fun x => (x.kept.cell (p := ⟨rb, roff + (2 ^ n - 1), none⟩) h1).trans (h2 _ (full_lt n))
  have hc2 : ∀ x : Later w, x.now.cell? ⟨rb, roff + (2 ^ n - 1 - s), none⟩ = some (.int .i64 (r (2 ^ n - 1 - s) : Nat)) := fun x => (x.kept.cell (p := ⟨rb, roff + (2 ^ n - 1 - s), none⟩) h1).trans (h2 _ cpl_lt)
  have hand : bits .andNot .i64 ((2 ^ n - 1 : Nat) : Int) (s : Int) = ((2 ^ n - 1 - s : Nat) : Int) := by rw [← dif_cpl hs]; exact i64_andNot_nat _ s (by omega) (by omega)
  have AL := hid (fun w' => All_ref n w' hn)
  have q0 := hr8 s
  have q1 := hr8 (2 ^ n - 1)
  have q2 := hr8 (2 ^ n - 1 - s)
  have l1 := full_lt n
  have l2 := cpl_lt (n := n) (s := s)
  have DQ : Hid (sepB r n s = (decide (0 < s) && r s + r (2 ^ n - 1 - s) == r (2 ^ n - 1))) := rfl
  obtain ⟨Q, HQ⟩ : ∃ Q, Hid (sepB r n s = Q) := ⟨_, rfl⟩
  rw [HQ.out] at DQ ⊢
  clear h2 hr8 hR hM HQ
  generalize 2 ^ n - 1 - s = z at *
  generalize 2 ^ n - 1 = fm at *
  generalize 2 ^ n = T at *
  generalize r z = x at *
  generalize r fm = y at *
  generalize r s = u at *
  have i1 : (s : Int) < (T : Int) := Int.ofNat_lt.2 hs
  have i2 : (z : Int) < (T : Int) := Int.ofNat_lt.2 l2
  have i3 : (fm : Int) < (T : Int) := Int.ofNat_lt.2 l1
  by_cases hs0 : 0 < s
  · have hs0' : (0 : Int) < (s : Int) := by omega
    by_cases he : u + x = y
    · have he' : (u : Int) + x = (y : Int) := by omega
      have E : Hid (Q = true) := by show _ = _; rw [DQ.out, decide_eq_true hs0, beq_iff_eq.2 he]; rfl
      clear he DQ
      go_enter Tryz.func39, Tryz.ntmps39
      go_wp2_with fail
      refine region_later (by kernel_rfl) (by kernel_rfl) ?_
      repeat (go_big_quiet_step ((go_at_call 28; refine (AL.out _).mono ?_; rintro e w' ⟨rfl, rfl⟩; exact ⟨rfl, Later.on _ (Below.refl _ _)⟩)))
      refine wpQuiet_nil ?_
      intro w6 hw'
      obtain ⟨⟨y6, hb6⟩, hw''⟩ := hw'
      dsimp only at hw''
      subst hw''
      have HB := hid hb6
      clear hb6
      go_wp2_with fail
      go_ret
      exact ⟨ret_bool (by rw [E.out]; try simp), HB.out⟩
    · have he' : (((u : Int) + x) == (y : Int)) = false := by rw [beq_eq_false_iff_ne]; omega
      have he2 : ¬ (u : Int) + x = (y : Int) := by omega
      have E : Hid (Q = false) := by show _ = _; rw [DQ.out, beq_eq_false_iff_ne.2 he, Bool.and_false]
      clear he DQ
      go_enter Tryz.func39, Tryz.ntmps39
      go_wp2_with fail
      refine region_later (by kernel_rfl) (by kernel_rfl) ?_
      repeat (go_big_quiet_step ((go_at_call 28; refine (AL.out _).mono ?_; rintro e w' ⟨rfl, rfl⟩; exact ⟨rfl, Later.on _ (Below.refl _ _)⟩)))
      refine wpQuiet_nil ?_
      intro w6 hw'
      obtain ⟨⟨y6, hb6⟩, hw''⟩ := hw'
      dsimp only at hw''
      subst hw''
      have HB := hid hb6
      clear hb6
      go_wp2_with fail
      go_ret
      exact ⟨ret_bool (by rw [E.out]; try simp), HB.out⟩
  · have E : Hid (Q = false) := by show _ = _; rw [DQ.out, decide_eq_false hs0, Bool.false_and]
    obtain rfl : s = 0 := by omega
    clear DQ hs0
    go_enter Tryz.func39, Tryz.ntmps39
    go_wp2_with fail
    refine region_later (by kernel_rfl) (by kernel_rfl) ?_
    repeat (go_big_quiet_step ((go_at_call 28; refine (AL.out _).mono ?_; rintro e w' ⟨rfl, rfl⟩; exact ⟨rfl, Later.on _ (Below.refl _ _)⟩)))
    refine wpQuiet_nil ?_
    intro w6 hw'
    obtain ⟨⟨y6, hb6⟩, hw''⟩ := hw'
    dsimp only at hw''
    subst hw''
    have HB := hid hb6
    clear hb6
    go_wp2_with fail
    go_ret
    exact ⟨ret_bool (by rw [E.out]; try simp), HB.out⟩
set_option maxRecDepth 20000 in
set_option maxHeartbeats 3200000 in
theorem Components_ref (m : Nat) (v : Value) (l : List Nat) (w : World) (hm : m ≤ 8) (hf : Fam m l) (hb : Bas l) (h : Ints w v (N l)) :
    Calls Tryz.prog 11 #[.agg #[.int .i64 m, v]] w fun e w' => ∃ r, e = .returned r ∧ Own w.heap.size w' r (eqL m (cls (cirL m l) m)) ∧ Below w.heap.size w w' := by
  have HI := hid h
  obtain ⟨a, cap, hv, _, _⟩ := h.nats
  subst hv
  have HB0 := hid (below_box w #[.int .i64 m, .slice a l.length cap])
  have HRK := hid (Ranks_ref m _ l _ hm (hf.lt256 hm) (HI.out.below HB0.out))
  obtain ⟨acc, HACC⟩ : ∃ acc : List Nat, Hid (eqL m (cls (cirL m l) m) = acc) := ⟨_, rfl⟩
  rw [HACC.out]
  go_enter Tryz.func11, Tryz.ntmps11
  go_wp2_with fail
  refine HRK.out.mono ?_
  rintro e w1 ⟨r1, rfl, hr1, hb1⟩
  have x00 := (box_cells hb1).1
  have HR1 := hid hr1
  obtain ⟨rb, roff, rcap, rfl, _, _⟩ := hr1
  have HB1 := hid (HB0.out.trans (hb1.mono HB0.out.size))
  have hsz1 : w.heap.size + 1 ≤ w1.heap.size := by have := hb1.size; simpa using this
  have X00 := hid x00
  clear hb1 x00
  go_wp2_with fail
  have bR := Boxed.new w1 22 (.slice (some ⟨rb, roff, none⟩) (2 ^ m) rcap)
  have hBK : Below w1.heap.size w1 (w1.alloc (.cells #[.slice (some ⟨rb, roff, none⟩) (2 ^ m) rcap] 22)) := (Below.refl _ _).alloc (Nat.le_refl _) _
  have hszK : (w1.alloc (.cells #[.slice (some ⟨rb, roff, none⟩) (2 ^ m) rcap] 22)).heap.size = w1.heap.size + 1 := by simp
  have HbR := hid bR
  have HBK := hid hBK
  clear bR hBK
  revert hszK HbR HBK
  generalize (w1.alloc (.cells #[.slice (some ⟨rb, roff, none⟩) (2 ^ m) rcap] 22)) = W2
  intro hszK HbR HBK
  have HW2 := hid (HB1.out.trans (HBK.out.mono HB1.out.size))
  have x0 := (HBK.out.cell (p := ⟨w.heap.size, 0, none⟩) (by show w.heap.size < _; omega)).trans X00.out
  have X0 := hid x0
  have HRA := hid (HR1.out.below HBK.out)
  have TH := hid (fun w' (hb' : Below W2.heap.size W2 w') => Those_any m 39 #[.pointer (some ⟨w1.heap.size, 0, none⟩), .pointer (some ⟨w.heap.size, 0, none⟩)] (sepB (rk l) m) w' hm (fun args w => enters_of Tryz.func39 (by kernel_rfl) rfl args w)
    (fun x hx w3 hb3 _ => by
      have hbb := hb'.trans (hb3.mono hb'.size)
      have c1 := (hbb.cell (p := ⟨w1.heap.size, 0, none⟩) (by show w1.heap.size < _; omega)).trans HbR.out.cell
      have c2 := (hbb.cell (p := ⟨w.heap.size, 0, none⟩) (by show w.heap.size < _; omega)).trans X0.out
      exact ComponentsQ_ok x w1.heap.size w.heap.size m _ (rk l) w3 hm hx (rk_small hm hf) c1 c2 (HRA.out.below hbb)))
  have HLS : Hid (∀ r w', Own W2.heap.size w' r ((List.range (2 ^ m)).filter (sepB (rk l) m)) → Calls Tryz.prog 31 #[.int .i64 m, r] w' fun e w2 => ∃ r', e = .returned r' ∧ Own w'.heap.size w2 r' acc ∧ Below w'.heap.size w' w2) := fun r w' ho => by
    have h1 := Least_ref m r _ w' hm ((Fam.range m _).lt256 hm) (ho.ints (Nat.le_trans (fam_len hm (Fam.range m _)) (by decide)))
    rw [comp_eq hm hb, HACC.out] at h1
    exact h1
  generalize (List.range (2 ^ m)).filter (sepB (rk l) m) = sl at *
  have HBd : Hid (Below W2.heap.size W2 W2.drew) := (Below.refl _ _).drew
  have hwW : w.heap.size < W2.heap.size := by omega
  clear HRK HACC
  go_region_held3 (fun w' => w'.cell? ⟨w.heap.size, 0, none⟩ = some (.int .i64 m)) (go_keep)
   (first
    | (go_at_call 15; refine (TH.out _ HBd.out).mono ?_; rintro e w4 ⟨r4, rfl, hr4, hb4⟩; have H4 := hid (HBd.out.trans hb4); have L4 := hid (HLS.out _ _ hr4); obtain ⟨ra4, rc4, hrr⟩ := ownsRow_form' hr4; subst hrr; have y0 := (H4.out.cell (p := ⟨w.heap.size, 0, none⟩) hwW).trans X0.out; clear hb4 hr4)
    | (go_at_call 31; refine L4.out.mono ?_; rintro e w5 ⟨r5, rfl, hr5, hb5⟩; have H5 := hid (H4.out.trans (hb5.mono H4.out.size)); have O5 := hid (hr5.mono (Nat.le_trans HW2.out.size H4.out.size)); obtain ⟨ra5, rc5, hrr⟩ := ownsRow_form' hr5; subst hrr; have y1 := (H5.out.cell (p := ⟨w.heap.size, 0, none⟩) hwW).trans X0.out; clear hb5 hr5))
  all_goals have HBF := hid (HW2.out.trans (H5.out.mono HW2.out.size))
  all_goals go_wp2_with fail
  all_goals go_ret
  all_goals exact ⟨_, rfl, O5.out, HBF.out⟩
end Go.Proofs.YthbldeloocmakabGreat
