/- The walk of the law SetsPicks. -/
import Derived.Test.YtkebhhpfnalbfabDoorUni
import Derived.Deep.CutRange
namespace Go.Proofs.YtkebhhpfnalbfabDoor
open Go.RowKit

def setE (p q : Int) : Int := if setB 8 p = true ∧ setB 8 q = true then 0 else 1
theorem setB8 (p : Int) : setB 8 p = true ↔ 0 ≤ p ∧ p ≤ 255 := by
  unfold setB
  rw [decide_eq_true_iff, show (2 : Int) ^ (8 : Int).toNat = 256 from rfl]
  omega

theorem below_E (p q : Int) : (belowR p q).2 = if (setE p q == 0 && pop p.toNat != pop q.toNat) = true then 3 else setE p q := by
  by_cases h1 : 0 ≤ p ∧ p ≤ 255 ∧ 0 ≤ q ∧ q ≤ 255
  · have e : setE p q = 0 := by unfold setE; rw [if_pos ⟨(setB8 p).2 (by omega), (setB8 q).2 (by omega)⟩]
    rw [e]
    unfold belowR
    rw [if_pos h1]
    by_cases h2 : pop p.toNat = pop q.toNat
    · rw [if_pos h2]; simp [h2]
    · rw [if_neg h2]; simp [h2]
  · have e : setE p q = 1 := by
      unfold setE
      rw [if_neg]
      intro h
      have h3 := (setB8 p).1 h.1
      have h4 := (setB8 q).1 h.2
      omega
    rw [e]
    unfold belowR
    rw [if_neg h1]
    simp
theorem fam_E (n : Int) (zs : List Int) : (if famB n zs = true then (0 : Int) else 1) = famR n zs := by
  unfold famB
  rcases famR_01 n zs with h | h <;> rw [h] <;> rfl

set_option maxHeartbeats 6400000 in
set_option maxRecDepth 100000 in
theorem picks_law (n k : Int) (v : Value) (zs : List Int) (p q : Int) (w : World) (hw : Tabbed w) (h : Ints w v zs) :
    Calls Tryd.prog 3 #[.int .i64 n, .int .i64 k, v, .int .i64 p, .int .i64 q] w fun e w' => e = .returned (.bool true) ∧ Below w.heap.size w w' := by
  have hmf : ∀ (fn : Fn) (first cap : Array Value) (w : World), (Instr.makeFunc fn first cap).run Tryd.prog w = .ok (.func fn first cap) w := fun _ _ _ _ => rfl
  obtain ⟨a, cap, hv, -⟩ := id h
  have HI := hid h
  have HW := hid hw
  clear h hw
  subst hv
  obtain ⟨w0, hw0⟩ : ∃ w0, w.alloc (.cells #[.int .i64 k] 3) = w0 := ⟨_, rfl⟩
  have b0 : Below w.heap.size w w0 := by rw [← hw0]; exact (Below.refl _ _).alloc (Nat.le_refl _) _
  have s0 : w.heap.size < w0.heap.size := by rw [← hw0]; simp
  have C0 : Hid (w0.cell? ⟨w.heap.size, 0, none⟩ = some (.int .i64 k)) := by
    show w0.cell? ⟨w.heap.size, 0, none⟩ = some (.int .i64 k)
    rw [← hw0, World.cell?_alloc_at _ _ _ _ rfl]; rfl
  have c0 := C0.out
  go_enter Tryd.func3, Tryd.ntmps3
  go_wp2_with fail
  clear hw0 c0
  generalize hB : w.heap.size = B at *
  refine (Choose_any n k w0).mono ?_
  rintro e w1 ⟨r, rfl, t1, b1⟩
  obtain ⟨ra, rn, rc, hr⟩ := t1.form
  subst hr
  have T1 := hid t1
  have c1 : w1.cell? ⟨B, 0, none⟩ = some (.int .i64 k) := (b1.cell (p := ⟨B, 0, none⟩) s0).trans C0.out
  clear t1
  go_upto_region 2 with fail
  go_cut [13] from 37 to 52 (fun u wc => u = .int .i64 (chE n k) ∧ wc = w1)
  case first =>
    by_cases h1 : 0 ≤ n
    · by_cases h2 : n ≤ 8
      · by_cases h3 : 0 ≤ k
        · by_cases h4 : k ≤ n
          · have E : Hid (chE n k = 0) := by show chE n k = 0; unfold chE; rw [if_pos ⟨h1, h2, h3, h4⟩]
            go_wp2_with (go_at_call 5; refine (bad_yes _ _).mono ?_; rintro e w' ⟨rfl, rfl⟩)
            go_meet
            exact ⟨by rw [E.out], rfl⟩
          · have E : Hid (chE n k = 1) := by show chE n k = 1; unfold chE; rw [if_neg (by omega)]
            have h4' : decide (k ≤ n) = false := by simpa using h4
            go_wp2_with (go_at_call 5; refine (bad_no _ _).mono ?_; rintro e w' ⟨rfl, rfl⟩)
            go_meet
            exact ⟨by rw [E.out], rfl⟩
        · have E : Hid (chE n k = 1) := by show chE n k = 1; unfold chE; rw [if_neg (by omega)]
          have h4' : decide (0 ≤ k) = false := by simpa using h3
          go_wp2_with (go_at_call 5; refine (bad_no _ _).mono ?_; rintro e w' ⟨rfl, rfl⟩)
          go_meet
          exact ⟨by rw [E.out], rfl⟩
      · have E : Hid (chE n k = 1) := by show chE n k = 1; unfold chE; rw [if_neg (by omega)]
        have h4' : decide (n ≤ 8) = false := by simpa using h2
        go_wp2_with (go_at_call 5; refine (bad_no _ _).mono ?_; rintro e w' ⟨rfl, rfl⟩)
        go_meet
        exact ⟨by rw [E.out], rfl⟩
    · have E : Hid (chE n k = 1) := by show chE n k = 1; unfold chE; rw [if_neg (by omega)]
      have h4' : decide (0 ≤ n) = false := by simpa using h1
      go_wp2_with (go_at_call 5; refine (bad_no _ _).mono ?_; rintro e w' ⟨rfl, rfl⟩)
      go_meet
      exact ⟨by rw [E.out], rfl⟩
  case rest =>
  obtain ⟨rfl, rfl⟩ := hcut
  go_upto_if 54 with fail
  go_cut [14] from 53 to 57 (fun u w2 => Told w2 (.slice ra rn rc) (chE n k) (chs n.toNat k.toNat) ∧ Told w2 u (chE n k) (chs n.toNat k.toNat) ∧ Below w0.heap.size w0 w2)
  case first =>
    by_cases hE : chE n k = 0
    · have hE' : (chE n k == 0) = true := by rw [hE]; rfl
      obtain ⟨m, c, hm, hc, hm8, hcm⟩ : ∃ m c : Nat, n = m ∧ k = c ∧ m ≤ 8 ∧ c ≤ m := by
        unfold chE at hE
        split at hE
        · rename_i g; exact ⟨n.toNat, k.toNat, by omega, by omega, by omega, by omega⟩
        · simp at hE
      subst hm hc
      have HE := hid hE
      clear hE
      go_wp2_with fail
      refine (Those_any m 7 #[.pointer (some ⟨B, 0, none⟩)] (fun s => pop s == c) wc hm8 Tryd.call7 ?_).mono ?_
      · intro x hx w3 hb3 _
        refine Picks1_any x B c w3 ?_ ((hb3.cell (p := ⟨B, 0, none⟩) (by have := b1.size; show B < wc.heap.size; omega)).trans c1)
        have := (pow_wrap m hm8).2; omega
      · rintro e w3 ⟨r, rfl, ho, hb⟩
        have R1 : Hid (Told w3 r (chE m c) (chs m c)) := ⟨fun _ => ho.ints (range_len hm8 _), fun h => absurd HE.out h⟩
        have R2 := hid (b1.trans (hb.mono b1.size))
        have R3 := hid (T1.out.below hb)
        clear ho hb
        go_wp2_with fail
        go_meet
        exact ⟨R3.out, R1.out, R2.out⟩
    · have hE' : (chE n k == 0) = false := by rw [beq_eq_false_iff_ne]; exact hE
      have R1 : Hid (Told wc (.slice none 0 0) (chE n k) (chs n.toNat k.toNat)) := ⟨fun h => absurd h hE, fun _ => rfl⟩
      clear hE
      go_wp2_with fail
      go_meet
      exact ⟨T1.out, R1.out, b1⟩
  case rest =>
  obtain ⟨t1, t2, b2⟩ := hcut
  obtain ⟨xa, xn, xc, hx⟩ := t2.form
  subst hx
  have L1 := hid (list_any _ _ _ _ _ t1 t2)
  clear t1 t2 T1 c1 b1
  go_wp2_with fail
  refine L1.out.mono ?_
  rintro e w3 ⟨rfl, hb⟩
  have b3 := b2.trans (hb.mono b2.size)
  clear b2 hb L1
  go_wp2_with fail
  have bw : Below w.heap.size w w3 := by rw [hB]; exact b0.trans (b3.mono (by omega))
  refine (below_any p q w3 (HW.out.below bw)).mono ?_
  rintro e w4 ⟨rfl, rfl⟩
  clear bw
  go_upto_region 9 with fail
  go_cut [17] from 70 to 76 (fun u w2 => u = .int .i64 (setE p q) ∧ w2 = w4)
  case first =>
    rcases h1 : setB 8 p with _ | _
    · have I1 : Hid (∀ w, Calls Tryd.prog 11 #[.int .i64 8, .int .i64 p] w fun e w' => e = .returned (.bool false) ∧ w' = w) := fun w => by
        have := IsSet_any 8 p w
        rw [h1] at this; exact this
      have E : Hid (setE p q = 1) := by show setE p q = 1; unfold setE; rw [if_neg (by simp [h1])]
      clear h1
      go_wp2_with (first | (go_at_call 11; refine (I1.out _).mono ?_; rintro e w' ⟨rfl, rfl⟩) | (go_at_call 5; refine (bad_no _ _).mono ?_; rintro e w' ⟨rfl, rfl⟩))
      go_meet
      exact ⟨by rw [E.out], rfl⟩
    · rcases h2 : setB 8 q with _ | _
      · have I1 : Hid (∀ w, Calls Tryd.prog 11 #[.int .i64 8, .int .i64 p] w fun e w' => e = .returned (.bool true) ∧ w' = w) := fun w => by
          have := IsSet_any 8 p w
          rw [h1] at this; exact this
        have I2 : Hid (∀ w, Calls Tryd.prog 11 #[.int .i64 8, .int .i64 q] w fun e w' => e = .returned (.bool false) ∧ w' = w) := fun w => by
          have := IsSet_any 8 q w
          rw [h2] at this; exact this
        have E : Hid (setE p q = 1) := by show setE p q = 1; unfold setE; rw [if_neg (by simp [h2])]
        clear h1 h2
        go_wp2_with fail
        refine (I1.out _).mono ?_
        rintro e w' ⟨rfl, rfl⟩
        go_wp2_with fail
        refine (I2.out _).mono ?_
        rintro e w' ⟨rfl, rfl⟩
        go_wp2_with (go_at_call 5; refine (bad_no _ _).mono ?_; rintro e w' ⟨rfl, rfl⟩)
        go_meet
        exact ⟨by rw [E.out], rfl⟩
      · have I1 : Hid (∀ w, Calls Tryd.prog 11 #[.int .i64 8, .int .i64 p] w fun e w' => e = .returned (.bool true) ∧ w' = w) := fun w => by
          have := IsSet_any 8 p w
          rw [h1] at this; exact this
        have I2 : Hid (∀ w, Calls Tryd.prog 11 #[.int .i64 8, .int .i64 q] w fun e w' => e = .returned (.bool true) ∧ w' = w) := fun w => by
          have := IsSet_any 8 q w
          rw [h2] at this; exact this
        have E : Hid (setE p q = 0) := by show setE p q = 0; unfold setE; rw [if_pos ⟨h1, h2⟩]
        clear h1 h2
        go_wp2_with fail
        refine (I1.out _).mono ?_
        rintro e w' ⟨rfl, rfl⟩
        go_wp2_with fail
        refine (I2.out _).mono ?_
        rintro e w' ⟨rfl, rfl⟩
        go_wp2_with (go_at_call 5; refine (bad_yes _ _).mono ?_; rintro e w' ⟨rfl, rfl⟩)
        go_meet
        exact ⟨by rw [E.out], rfl⟩
  case rest =>
  obtain ⟨rfl, h4⟩ := hcut
  subst h4
  go_upto_region 10 with fail
  go_cut [85] from 77 to 85 (fun u w2 => u = .bool (setE p q == 0 && pop p.toNat != pop q.toNat) ∧ Below w0.heap.size w0 w2)
  case first =>
    by_cases hE : setE p q = 0
    · obtain ⟨x, y, hp, hq, hx, hy⟩ : ∃ x y : Nat, p = x ∧ q = y ∧ x < 256 ∧ y < 256 := by
        unfold setE at hE
        split at hE
        · rename_i g; rw [setB8, setB8] at g; exact ⟨p.toNat, q.toNat, by omega, by omega, by omega, by omega⟩
        · simp at hE
      subst hp hq
      have hE' : (setE x y == 0) = true := by rw [hE]; rfl
      have F : Hid ((setE x y == 0 && pop (x : Int).toNat != pop (y : Int).toNat) = ((pop x : Int) != (pop y : Int))) := by
        show _ = _
        rw [hE', Int.toNat_natCast, Int.toNat_natCast, Bool.true_and, Bool.eq_iff_iff, bne_iff_ne, bne_iff_ne]; omega
      clear hE
      go_wp2_with fail
      refine (Size_any x _ hx).mono ?_
      rintro e w5 ⟨rfl, hb5⟩
      go_wp2_with fail
      refine (Size_any y _ hy).mono ?_
      rintro e w6 ⟨rfl, hb6⟩
      have b6 := (b3.trans (hb5.mono b3.size)).trans (hb6.mono (Nat.le_trans b3.size hb5.size))
      clear hb5 hb6
      go_wp2_with fail
      go_meet
      exact ⟨by rw [F.out], b6⟩
    · have hE' : (setE p q == 0) = false := by rw [beq_eq_false_iff_ne]; exact hE
      clear hE
      go_wp2_with fail
      go_meet
      exact ⟨by rw [hE']; rfl, b3⟩
  case rest =>
  obtain ⟨rfl, b5⟩ := hcut
  have E := hid (below_E p q)
  generalize (setE p q == 0 && pop p.toNat != pop q.toNat) = bb at *
  clear b3
  go_upto_if 85 with fail
  go_cut [17] from 85 to 85 (fun u w2 => u = .int .i64 (belowR p q).2 ∧ Below w0.heap.size w0 w2)
  case first =>
    cases bb
    · go_wp2_with fail
      go_meet
      exact ⟨by rw [E.out]; rfl, b5⟩
    · go_wp2_with fail
      go_meet
      exact ⟨by rw [E.out]; rfl, b5⟩
  case rest =>
  clear b5 E
  obtain ⟨rfl, b5⟩ := hcut
  go_upto_region 12 with fail
  go_cut [15, 16, 17, 99] from 64 to 99 (fun _ _ _ u w2 => u = .bool false ∧ Below w0.heap.size w0 w2)
  case first =>
    by_cases hE : (belowR p q).2 = 0
    · obtain ⟨g1, g2, g3, g4, g5, g6⟩ := belowR_ok hE
      obtain ⟨x, hp⟩ := Int.eq_ofNat_of_zero_le g1
      obtain ⟨y, hq⟩ := Int.eq_ofNat_of_zero_le g3
      subst hp hq
      have G := hid (fun w => Gale_any x y w (by omega) (by omega) (by simpa using g5))
      simp only [Int.toNat_natCast] at g6
      rw [← g6] at G
      have hE' : ((belowR x y).2 == 0) = true := by rw [hE]; rfl
      have hE2 : ((belowR x y).2 != (belowR x y).2) = false := by simp
      have hE3 : ((belowR x y).1 != (belowR x y).1) = false := by simp
      clear hE g6 g5 g1 g2 g3 g4
      generalize (belowR x y).1 = ok at *
      generalize (belowR x y).2 = h at *
      go_wp2_with fail
      refine (G.out _).mono ?_
      rintro e w5 ⟨rfl, hb5⟩
      have b6 := b5.trans (hb5.mono b5.size)
      clear hb5
      go_wp2_with fail
      go_meet
      exact ⟨by simp, b6⟩
    · have hF := belowR_bad p q hE
      have hE' : ((belowR p q).2 == 0) = false := by rw [beq_eq_false_iff_ne]; exact hE
      have hE2 : ((belowR p q).2 != (belowR p q).2) = false := by simp
      rw [hF]
      clear hE hF
      generalize (belowR p q).2 = h at *
      go_wp2_with fail
      go_meet
      exact ⟨by simp, b5⟩
  case rest =>
  clear b5
  obtain ⟨rfl, b5⟩ := hcut
  have bw : Below w.heap.size w _ := (show Below w.heap.size w w0 by rw [hB]; exact b0).trans (b5.mono (by omega))
  have F := hid (fam_E n zs)
  go_wp2_with fail
  refine (IsFamily_any n _ zs _ (HI.out.below bw)).mono ?_
  rintro e w6 ⟨rfl, hb6⟩
  have b6 := b5.trans (hb6.mono b5.size)
  have bw6 := bw.trans (hb6.mono bw.size)
  clear b5 hb6 bw
  go_wp2_with fail
  refine (bad_any _ _ _).mono ?_
  rw [F.out]
  rintro e w7 ⟨rfl, rfl⟩
  go_upto_if 105 with fail
  go_cut [19, 20, 21, 22] from 102 to 117 (fun u1 u2 u3 u4 wx => Told wx u1 (famR n zs) (lst (natsOf zs)) ∧ Told wx u2 (famR n zs) (mst (natsOf zs)) ∧ Told wx u3 (famR n zs) (shd n.toNat (natsOf zs)) ∧ Told wx u4 (famR n zs) (blk n.toNat (natsOf zs)) ∧ Below w0.heap.size w0 wx)
  case first =>
    by_cases hE : famR n zs = 0
    · obtain ⟨m, l, hm1, hm, hz, hF⟩ := fam_of hE
      subst hm1
      have hE' : (famR m zs == 0) = true := by rw [hE]; rfl
      subst hz
      have HE := hid hE
      have HF := hid hF
      have I6 := hid (HI.out.below bw6)
      clear hE hF
      go_wp2_with fail
      refine (Least_ref m _ l _ hm (HF.out.lt256 hm) I6.out).mono ?_
      rw [least_eq HF.out]
      rintro e w8 ⟨r1, rfl, o1, hb⟩
      have t1 := o1.ints (filter_len I6.out _)
      have I8 := hid (I6.out.below hb)
      have b8 := b6.trans (hb.mono b6.size)
      have J1 := hid t1
      clear o1 t1 hb I6 b6 bw6
      go_wp2_with fail
      refine (Most_ref m _ l _ hm (HF.out.lt256 hm) I8.out).mono ?_
      rw [most_eq HF.out]
      rintro e w9 ⟨r2, rfl, o1, hb⟩
      have J2 := hid (o1.ints (filter_len I8.out _))
      have I9 := hid (I8.out.below hb)
      have J1' := hid (J1.out.below hb)
      have b9 := b8.trans (hb.mono b8.size)
      clear o1 hb I8 b8 J1
      go_wp2_with fail
      refine (Shadow_ref m _ l _ hm I9.out).mono ?_
      rw [shad_eq hm HF.out]
      rintro e w10 ⟨r3, rfl, o1, hb⟩
      have J3 := hid (o1.ints (range_len hm _))
      have I10 := hid (I9.out.below hb)
      have J1 := hid (J1'.out.below hb)
      have J2' := hid (J2.out.below hb)
      have b10 := b9.trans (hb.mono b9.size)
      clear o1 hb I9 b9 J1' J2
      go_wp2_with fail
      refine (Blocker_ref m _ l _ hm (HF.out.lt256 hm) I10.out).mono ?_
      rintro e w11 ⟨r4, rfl, o1, hb⟩
      have J4 := hid (o1.ints (range_len hm _))
      have J1' := hid (J1.out.below hb)
      have J2 := hid (J2'.out.below hb)
      have J3' := hid (J3.out.below hb)
      have b11 := b10.trans (hb.mono b10.size)
      clear o1 hb I10 b10 J1 J2' J3
      go_wp2_with fail
      go_meet
      rw [natsOf_N, Int.toNat_natCast]
      exact ⟨⟨fun _ => J1'.out, fun h => absurd HE.out h⟩, ⟨fun _ => J2.out, fun h => absurd HE.out h⟩, ⟨fun _ => J3'.out, fun h => absurd HE.out h⟩, ⟨fun _ => J4.out, fun h => absurd HE.out h⟩, b11⟩
    · have hE' : (famR n zs == 0) = false := by rw [beq_eq_false_iff_ne]; exact hE
      have HE := hid hE
      clear hE
      go_wp2_with fail
      go_meet
      exact ⟨⟨fun h => absurd h HE.out, fun _ => rfl⟩, ⟨fun h => absurd h HE.out, fun _ => rfl⟩, ⟨fun h => absurd h HE.out, fun _ => rfl⟩, ⟨fun h => absurd h HE.out, fun _ => rfl⟩, b6⟩
  case rest =>
  obtain ⟨t1, t2, t3, t4, b7⟩ := hcut
  obtain ⟨a1, n1, c1, e1⟩ := t1.form
  obtain ⟨a2, n2, c2, e2⟩ := t2.form
  obtain ⟨a3, n3, c3, e3⟩ := t3.form
  obtain ⟨a4, n4, c4, e4⟩ := t4.form
  subst e1 e2 e3 e4
  have BW : Hid (∀ w9, Below w0.heap.size w0 w9 → Below w.heap.size w w9) := fun w9 hb => (show Below w.heap.size w w0 by rw [hB]; exact b0).trans (hb.mono (by omega))
  have T1 := hid t1
  have T2 := hid t2
  have T3 := hid t3
  have T4 := hid t4
  clear t1 t2 t3 t4 b6 bw6
  go_wp2_with fail
  refine (Least_any n _ zs _ (HI.out.below (BW.out _ b7))).mono ?_
  rintro e w8 ⟨r1, rfl, o1, hb⟩
  obtain ⟨p1, q1, s1, hr⟩ := o1.form
  subst hr
  have U1 := hid o1
  have T1' := hid (T1.out.below hb)
  have T2' := hid (T2.out.below hb)
  have T3' := hid (T3.out.below hb)
  have T4' := hid (T4.out.below hb)
  have b8 := b7.trans (hb.mono b7.size)
  clear o1 hb T1 T2 T3 T4 b7
  go_wp2_with fail
  refine (Most_any n _ zs _ (HI.out.below (BW.out _ b8))).mono ?_
  rintro e w9 ⟨r2, rfl, o1, hb⟩
  obtain ⟨p2, q2, s2, hr⟩ := o1.form
  subst hr
  have U2 := hid o1
  have U1' := hid (U1.out.below hb)
  have T1 := hid (T1'.out.below hb)
  have T2 := hid (T2'.out.below hb)
  have T3 := hid (T3'.out.below hb)
  have T4 := hid (T4'.out.below hb)
  have b9 := b8.trans (hb.mono b8.size)
  clear o1 hb T1' T2' T3' T4' U1 b8
  go_wp2_with fail
  refine (Shadow_any n _ zs _ (HW.out.below (BW.out _ b9)) (HI.out.below (BW.out _ b9))).mono ?_
  rintro e w10 ⟨r3, rfl, o1, hb⟩
  obtain ⟨p3, q3, s3, hr⟩ := o1.form
  subst hr
  have U3 := hid o1
  have U1 := hid (U1'.out.below hb)
  have U2' := hid (U2.out.below hb)
  have T1' := hid (T1.out.below hb)
  have T2' := hid (T2.out.below hb)
  have T3' := hid (T3.out.below hb)
  have T4' := hid (T4.out.below hb)
  have b10 := b9.trans (hb.mono b9.size)
  clear o1 hb T1 T2 T3 T4 U1' U2 b9
  go_wp2_with fail
  refine (Blocker_any n _ zs _ (HW.out.below (BW.out _ b10)) (HI.out.below (BW.out _ b10))).mono ?_
  rintro e w11 ⟨r4, rfl, o1, hb⟩
  obtain ⟨p4, q4, s4, hr⟩ := o1.form
  subst hr
  have U4 := hid o1
  have U1' := hid (U1.out.below hb)
  have U2 := hid (U2'.out.below hb)
  have U3' := hid (U3.out.below hb)
  have T1 := hid (T1'.out.below hb)
  have T2 := hid (T2'.out.below hb)
  have T3 := hid (T3'.out.below hb)
  have T4 := hid (T4'.out.below hb)
  have b11 := b10.trans (hb.mono b10.size)
  clear o1 hb T1' T2' T3' T4' U1 U2' U3 b10
  go_wp2_with fail
  refine (list_any _ _ _ _ _ U1'.out T1.out).mono ?_
  rintro e w12 ⟨rfl, hb⟩
  have V2 := hid (U2.out.below hb)
  have V3 := hid (U3'.out.below hb)
  have V4 := hid (U4.out.below hb)
  have S2 := hid (T2.out.below hb)
  have S3 := hid (T3.out.below hb)
  have S4 := hid (T4.out.below hb)
  have b12 := b11.trans (hb.mono b11.size)
  clear hb U1' U2 U3' U4 T1 T2 T3 T4 b11
  go_wp2_with fail
  refine (list_any _ _ _ _ _ V2.out S2.out).mono ?_
  rintro e w13 ⟨rfl, hb⟩
  have V3' := hid (V3.out.below hb)
  have V4' := hid (V4.out.below hb)
  have S3' := hid (S3.out.below hb)
  have S4' := hid (S4.out.below hb)
  have b13 := b12.trans (hb.mono b12.size)
  clear hb V2 V3 V4 S2 S3 S4 b12
  go_wp2_with fail
  refine (list_any _ _ _ _ _ V3'.out S3'.out).mono ?_
  rintro e w14 ⟨rfl, hb⟩
  have V4 := hid (V4'.out.below hb)
  have S4 := hid (S4'.out.below hb)
  have b14 := b13.trans (hb.mono b13.size)
  clear hb V3' V4' S3' S4' b13
  go_wp2_with fail
  refine (list_any _ _ _ _ _ V4.out S4.out).mono ?_
  rintro e w15 ⟨rfl, hb⟩
  have b15 := b14.trans (hb.mono b14.size)
  clear hb V4 S4 b14
  go_wp2_with fail
  go_ret
  exact ⟨rfl, BW.out _ b15⟩
end Go.Proofs.YtkebhhpfnalbfabDoor
