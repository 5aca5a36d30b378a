/- The walk of the law MinorsParts. -/
import Derived.Test.YtanjikppbnppdaaPtsQ
import Derived.Test.YtanjikppbnppdaaOrdBQ
import Derived.Test.YtanjikppbnppdaaSortOwnQ
import Derived.Maps.AppendAt
namespace Go.Proofs.Ytanjikppbnppdaa
open Go.RowKit

theorem two_comp {L : List Nat} (h : Comps 4 twoL L) : L = [15] := (comps_eq (by decide) two_bas h).trans (by decide +kernel)
theorem box_back {w w1 : World} {B : Nat} {x y : Value} (hx : w.cell? ⟨B, 0, none⟩ = some x ∧ w.cell? ⟨B, 1, none⟩ = some y) (hb : Below w.heap.size w w1) (hB : B < w.heap.size) : w1.cell? ⟨B, 0, none⟩ = some x ∧ w1.cell? ⟨B, 1, none⟩ = some y :=
  ⟨(hb.cell (p := ⟨B, 0, none⟩) hB).trans hx.1, (hb.cell (p := ⟨B, 1, none⟩) hB).trans hx.2⟩
theorem All_parts (n : Nat) (w : World) (hn : n ≤ 8) :
    Calls Try.prog 8 #[.int .i64 n] w fun e w' => e = .returned (.int .i64 ((2 ^ n - 1 : Nat) : Int)) ∧ w' = w := by
  obtain ⟨T, HT, hT2, hT, hT0⟩ : ∃ T : Nat, Hid (T = 2 ^ n) ∧ T ≤ 256 ∧ wrap64 (2 ^ n) = (T : Int) ∧ 1 ≤ T := ⟨2 ^ n, rfl, (pow_wrap _ hn).2, (pow_wrap _ hn).1, Nat.one_le_two_pow⟩
  rw [← HT.out]
  have hti : (T : Int) - 1 = ((T - 1 : Nat) : Int) := by omega
  go_enter Try.func8, Try.ntmps8
  go_wp2
  go_ret
  exact ⟨rfl, rfl⟩
theorem add_small {m j : Nat} (hm : m ≤ 8) (hj : j ≤ 8) : wrap64 ((m : Int) + (j : Int)) = ((m + j : Nat) : Int) := by
  rw [← IntWalk.i64_left, show ((m : Int) + (j : Int)) = ((m + j : Nat) : Int) by omega]
  exact wrap_i64_nat _ (by omega)
theorem shl_small {m t : Nat} (hm : m ≤ 8) (ht : t < 256) : wrap64 ((t : Int) * 2 ^ m) = ((t * 2 ^ m : Nat) : Int) := by
  have h1 : t * 2 ^ m < 65536 := by
    have h2 : 2 ^ m ≤ 2 ^ 8 := Nat.pow_le_pow_right (by decide) hm
    have h3 : t * 2 ^ m ≤ t * 2 ^ 8 := Nat.mul_le_mul_left _ h2
    omega
  have e : (t : Int) * 2 ^ m = ((t * 2 ^ m : Nat) : Int) := by simp
  rw [e, ← IntWalk.i64_left]
  exact wrap_i64_nat _ (by omega)
theorem large_facts {m j : Nat} (h : ¬ m + j ≤ 8) : 8 < m + j ∧ (8 : Int) < ((m + j : Nat) : Int) ∧ (8 : Int) < (m : Int) + (j : Int) := ⟨by omega, by omega, by omega⟩
theorem own_keepP {X : Nat → Prop} {B : Nat} {a b : World} {v : Value} {l : List Nat} (h : Own B a v l) (hs : Save X a b) (hg : ∀ g, v.ownBlock = some g → ¬ X g) : Own B b v l := by
  rcases Go.Joins.ownsRow_forms h with ⟨rfl, h0⟩ | ⟨g, cap, rfl⟩
  · obtain rfl : l = [] := List.length_eq_zero_iff.1 h0
    exact Own.nil _ _
  · exact h.save hs (hg g rfl)
set_option maxRecDepth 20000 in
set_option maxHeartbeats 4000000 in
theorem parts_law (n k : Int) (v u : Value) (zs ys : List Int) (w : World) (h : Ints w v zs) (h' : Ints w u ys) :
    Calls Try.prog 3 #[.agg #[.int .i64 n, v], .agg #[.int .i64 k, u]] w fun e w' => e = .returned (.bool true) ∧ Below w.heap.size w w' := by
  have HI := hid h
  have HI' := hid h'
  obtain ⟨a, cap, rfl, _, _⟩ := h
  obtain ⟨a', cap', rfl, _, _⟩ := h'
  have T2 := hid (fun w v (h : Ints w v (N twoL)) => Components_ok 4 v twoL w (by omega) two_fam two_bas h)
  have HB0 := hid (box2_below w n (.slice a zs.length cap) k (.slice a' ys.length cap'))
  have HSZ := hid (box2_size w n (.slice a zs.length cap) k (.slice a' ys.length cap'))
  have HX : Hid (∀ w2, Below (box2 w n (.slice a zs.length cap) k (.slice a' ys.length cap')).heap.size (box2 w n (.slice a zs.length cap) k (.slice a' ys.length cap')) w2 → _) := fun w2 h => box2_blocks h
  go_enter Try.func3, Try.ntmps3
  go_wp2_with fail
  refine (two_any _).mono ?_
  rintro e w1 ⟨v2, rfl, hv2, hb1⟩
  obtain ⟨hx0, hx1⟩ := HX.out w1 hb1
  obtain ⟨p0, p1, _, _⟩ := two_cells hx0
  obtain ⟨q0, q1, _, _⟩ := two_cells hx1
  have B1 := hid (HB0.out.trans (hb1.mono HB0.out.size))
  have S1 : w.heap.size + 2 ≤ w1.heap.size := Nat.le_trans (Nat.le_of_eq HSZ.out.symm) hb1.size
  have XA1 := hid (And.intro p0 p1)
  have XB1 := hid (And.intro q0 q1)
  have C2 := hid (T2.out _ _ hv2)
  obtain ⟨a2, cap2, rfl, _, _⟩ := hv2
  clear hb1 HX HSZ hx0 hx1 p0 p1 q0 q1
  go_wp2_with fail
  refine C2.out.mono ?_
  rintro e w2 ⟨r2, L2, rfl, hc2, hr2, hb2⟩
  obtain rfl := two_comp hc2
  have XA2 := hid (box_back XA1.out hb2 (by omega))
  have XB2 := hid (box_back XB1.out hb2 (by omega))
  have B2 := hid (B1.out.trans (hb2.mono B1.out.size))
  have S2 : w.heap.size + 2 ≤ w2.heap.size := Nat.le_trans S1 hb2.size
  obtain ⟨fa, fcap, hr2'⟩ := ownsRow_form' hr2
  subst hr2'
  have I2 := hid (hr2.ints (by decide))
  clear hb2 T2 C2 XA1 XB1 hr2 hc2
  go_wp2_with fail
  have SM := hid (Same_any _ _ (N [15]) [15] _ (I2.out.below (below_alloc _ _)) (Ints.lit1 w2 15))
  rw [show decide (N [15] = [15]) = true from rfl] at SM
  refine SM.out.mono ?_
  rintro e w4 ⟨rfl, hb4⟩
  have hb4' : Below w2.heap.size w2 w4 := ((Below.refl _ _).alloc (Nat.le_refl _) _).trans (hb4.mono (by simp))
  have XA4 := hid (box_back XA2.out hb4' (by omega))
  have XB4 := hid (box_back XB2.out hb4' (by omega))
  have B4 := hid (B2.out.trans (hb4'.mono B2.out.size))
  have S4 : w.heap.size + 2 ≤ w4.heap.size := by have := hb4'.size; omega
  clear hb4 hb4' SM I2 XA2 XB2
  obtain ⟨x0, x1⟩ := XA4.out
  obtain ⟨y0, y1⟩ := XB4.out
  by_cases hc : chkR n zs = 0
  · obtain ⟨m, l, rfl, hm, rfl, hfam, hbas⟩ := chk_of hc
    clear hc
    have HM := hid (fun w' (hb : Below w.heap.size w w') => HI.out.below hb)
    rw [N_len] at *
    have CO := hid (Components_ok m _ l _ hm hfam hbas (HM.out _ B4.out))
    go_wp2_with fail
    refine CO.out.mono ?_
    rintro e w5 ⟨r5, L5, rfl, hcm, ho5, hb5⟩
    obtain ⟨a5, c5, hr5⟩ := ownsRow_form' ho5
    subst hr5
    have XA5 := hid (box_back XA4.out hb5 (by omega))
    have XB5 := hid (box_back XB4.out hb5 (by omega))
    have B5 := hid (B4.out.trans (hb5.mono B4.out.size))
    have S5 : w.heap.size + 2 ≤ w5.heap.size := Nat.le_trans S4 hb5.size
    have S45 := hb5.size
    have HO5 := hid ho5
    have HXL : Hid (∀ g, (Value.slice a5 L5.length c5).ownBlock = some g → g < w5.heap.size) := fun g hg => (World.ownsRow.lt ho5 g hg).2
    have HXG : Hid (∀ g, (Value.slice a5 L5.length c5).ownBlock = some g → w4.heap.size ≤ g) := fun g hg => (World.ownsRow.lt ho5 g hg).1
    clear hb5 x0 x1 y0 y1 XA4 XB4 CO ho5
    obtain ⟨x0, x1⟩ := XA5.out
    obtain ⟨y0, y1⟩ := XB5.out
    by_cases hc' : chkR k ys = 0
    · obtain ⟨j, l', rfl, hj, rfl, hfam', hbas'⟩ := chk_of hc'
      clear hc'
      have HM' := hid (fun w' (hb : Below w.heap.size w w') => HI'.out.below hb)
      rw [N_len] at *
      have CO' := hid (Components_ok j _ l' _ hj hfam' hbas' (HM'.out _ B5.out))
      go_wp2_with fail
      refine CO'.out.mono ?_
      rintro e w6 ⟨r6, L6, rfl, hcm', ho6, hb6⟩
      obtain ⟨a6, c6, hr6⟩ := ownsRow_form' ho6
      subst hr6
      have XA6 := hid (box_back XA5.out hb6 (by omega))
      have XB6 := hid (box_back XB5.out hb6 (by omega))
      have B6 := hid (B5.out.trans (hb6.mono B5.out.size))
      have S56 := hb6.size
      have HB56 := hid hb6
      have HO6 := hid ho6
      clear hb6 x0 x1 y0 y1 XA5 XB5 CO' ho6
      obtain ⟨x0, x1⟩ := XA6.out
      obtain ⟨y0, y1⟩ := XB6.out
      have EL5 := hid (comps_eq hm hbas hcm)
      have EL6 := hid (comps_eq hj hbas' hcm')
      have RO := hid (Ranks_ok m _ l _ hm hfam hbas (HM.out _ B6.out))
      go_wp2_with fail
      refine RO.out.mono ?_
      rintro e w7 ⟨r7, rfl, hr7, hb7⟩
      have XA7 := hid (box_back XA6.out hb7 (by omega))
      have XB7 := hid (box_back XB6.out hb7 (by omega))
      have B7 := hid (B6.out.trans (hb7.mono B6.out.size))
      have S67 := hb7.size
      have HB67 := hid hb7
      obtain ⟨rb, roff, rcap, rfl, hrb, hrc⟩ := hr7
      clear hb7 x0 x1 y0 y1 XA6 XB6 RO
      obtain ⟨x0, x1⟩ := XA7.out
      obtain ⟨y0, y1⟩ := XB7.out
      obtain ⟨T, HT⟩ : ∃ T, Hid (2 ^ m = T) := ⟨2 ^ m, Eq.refl (2 ^ m)⟩
      have hT256 : T ≤ 256 := by rw [← HT.out]; exact (pow_wrap m hm).2
      have HRC := hid hrc
      clear hrc
      have HST := hid (fun p (hp : p < L5.length) => pt_step hm hbas EL5.out hp)
      have HEN := hid (pt_end hm hbas EL5.out)
      have hl5 : L5.length ≤ 256 := by rw [EL5.out]; exact Nat.le_trans (pt_len _ _) (pow_wrap m hm).2
      have hl6 : L6.length ≤ 256 := by rw [EL6.out]; exact Nat.le_trans (pt_len _ _) (pow_wrap j hj).2
      have HO7 := hid ((HO5.out.below HB56.out).below HB67.out)
      have HCL := hid (fun h0 => (HO7.out.ints (by omega)).cellsX h0)
      rw [HT.out] at HRC HST HEN ⊢
      clear hcm hcm' HB56
      go_wp2_with fail
      go_loop [13, 14, 61] (fun s g i => ∃ p : Nat, p ≤ L5.length ∧ i = .int .i64 p ∧ s = .int .i64 (sumT (rk l) L5 p : Nat) ∧ g = .int .i64 (orT L5 p : Nat)) (fun _ _ i => L5.length - (intOf i).toNat)
      case atStart => exact ⟨0, Nat.zero_le _, rfl, rfl, rfl⟩
      case round =>
      obtain ⟨p, hp, rfl, rfl, rfl⟩ := hrel
      by_cases hlt : p < L5.length
      · have HLTp := hid hlt
        have hpi : (p : Int) < (L5.length : Int) := by omega
        obtain ⟨qb, qoff, rfl, hqb, hqc⟩ := HCL.out (by omega)
        have hck := hqc p hlt
        obtain ⟨h1, h2, h3, h4, h5, h6, h7⟩ := HST.out p hlt
        have H4 := hid h4
        have H5 := hid h5
        have hrk := HRC.out _ h1
        have hor : bits .or .i64 ((orT L5 p : Nat) : Int) ((L5.getD p 0 : Nat) : Int) = ((orT L5 p ||| L5.getD p 0 : Nat) : Int) := i64_or_nat _ _ (by omega) (by omega)
        have hand : bits .and .i64 ((orT L5 p : Nat) : Int) ((L5.getD p 0 : Nat) : Int) = 0 := by rw [i64_and_nat _ _ (by omega) (by omega), h3]; rfl
        have hci : ((L5.getD p 0 : Nat) : Int) < (T : Int) := by omega
        clear hqc h3 h4 h5 HCL
        generalize orT L5 p = g at *
        generalize sumT (rk l) L5 p = z at *
        generalize L5.getD p 0 = c at *
        generalize rk l c = rc at *
        go_wp2_with fail
        go_round
        case rel => exact ⟨p + 1, by have := HLTp.out; omega, by go_num, by rw [H5.out]; go_num, by rw [H4.out]⟩
        case measure => have := HLTp.out; simp [intOf]; omega
      · obtain rfl : p = L5.length := by omega
        obtain ⟨e1, e2⟩ := HEN.out
        rw [e1, e2]
        have AL := hid (fun w' => All_parts m w' hm)
        have hT0 : 1 ≤ T := by rw [← HT.out]; exact Nat.one_le_two_pow
        rw [HT.out] at AL
        have hrk := HRC.out (T - 1) (by omega)
        have hTi : ((T - 1 : Nat) : Int) < (T : Int) := by omega
        have SI := hid (fun w' (hb : Below w.heap.size w w') => Simple_parts m _ l w' hm hfam hbas (HM.out w' hb))
        clear HST HEN HCL e1 e2 HI HI'
        generalize rk l (T - 1) = rT at *
        generalize T - 1 = F at *
        go_wp2_with fail
        refine (AL.out _).mono ?_
        rintro e w' ⟨rfl, hw'⟩
        obtain rfl := hw'.symm
        go_wp2_with fail
        refine (SI.out _ B7.out).mono ?_
        rintro e w8 ⟨n2, acc, hn2, hfp, hbp, hsp, r8, rfl, ho8, hb8⟩
        obtain ⟨a8, c8, hr8⟩ := ownsRow_form' ho8
        subst hr8
        have XA8 := hid (box_back XA7.out hb8 (by omega))
        have XB8 := hid (box_back XB7.out hb8 (by omega))
        have B8 := hid (B7.out.trans (hb8.mono B7.out.size))
        have S78 := hb8.size
        have HO8 := hid (HO7.out.below hb8)
        have hlp : acc.length ≤ 256 := fam_len hn2 hfp
        have HP8 := hid (ho8.ints (by omega))
        have HY8 := hid ((HO6.out.below HB67.out).below hb8)
        clear hb8 ho8 x0 x1 y0 y1 hrk AL SI HRC HO7 XA7 XB7
        obtain ⟨x0, x1⟩ := XA8.out
        obtain ⟨y0, y1⟩ := XB8.out
        have hk8 := below_box w8 #[.int .i64 n2, .slice a8 acc.length c8]
        have P9 := hid (box_cells (w := w8) (n := n2) (u := .slice a8 acc.length c8) (Below.refl _ _))
        have S9 : (w8.alloc (.cells #[.int .i64 n2, .slice a8 acc.length c8] 24)).heap.size = w8.heap.size + 1 := by simp
        have XA9 := hid (box_back XA8.out hk8 (by omega))
        have XB9 := hid (box_back XB8.out hk8 (by omega))
        have B9 := hid (B8.out.trans (hk8.mono B8.out.size))
        have HO9 := hid (HO8.out.below hk8)
        have HP9 := hid (HP8.out.below hk8)
        have HY9 := hid (HY8.out.below hk8)
        have SA := hid (Simple_again n2 _ acc _ hn2 hfp hbp hsp HP9.out)
        obtain ⟨p0, p1⟩ := P9.out
        go_wp2_with fail
        refine SA.out.mono ?_
        clear hk8 SA XA8 XB8 B8 HO8 HP8 HY8 x0 x1 y0 y1 p0 p1
        generalize w8.alloc (.cells #[.int .i64 n2, .slice a8 acc.length c8] 24) = w9 at *
        rintro e w10 ⟨r10, rfl, ho10, hb10⟩
        obtain ⟨a10, c10, hr10⟩ := ownsRow_form' ho10
        subst hr10
        have XA10 := hid (box_back XA9.out hb10 (by omega))
        have XB10 := hid (box_back XB9.out hb10 (by omega))
        have P10 := hid (box_back P9.out hb10 (by omega))
        have B10 := hid (B9.out.trans (hb10.mono B9.out.size))
        have S910 := hb10.size
        have HO10 := hid (HO9.out.below hb10)
        have HP10 := hid (HP9.out.below hb10)
        have HQ10 := hid (ho10.ints (by omega))
        have HY10 := hid (HY9.out.below hb10)
        have hk10 := below_box w10 #[.int .i64 n2, .slice a10 acc.length c10]
        have Q11 := hid (box_cells (w := w10) (n := n2) (u := .slice a10 acc.length c10) (Below.refl _ _))
        have S11 : (w10.alloc (.cells #[.int .i64 n2, .slice a10 acc.length c10] 24)).heap.size = w10.heap.size + 1 := by simp
        have XA11 := hid (box_back XA10.out hk10 (by omega))
        have XB11 := hid (box_back XB10.out hk10 (by omega))
        have P11 := hid (box_back P10.out hk10 (by omega))
        have B11 := hid (B10.out.trans (hk10.mono B10.out.size))
        have HO11 := hid (HO10.out.below hk10)
        have HP11 := hid (HP10.out.below hk10)
        have HQ11 := hid (HQ10.out.below hk10)
        have HY11 := hid (HY10.out.below hk10)
        have CL := hid (Classes_ok n2 _ acc _ hn2 hfp hbp HP11.out)
        clear hb10 ho10 XA9 XB9 P9 B9 HO9 HP9 HY9
        obtain ⟨p0, p1⟩ := P11.out
        obtain ⟨q0, q1⟩ := Q11.out
        go_wp2_with fail
        refine CL.out.mono ?_
        clear hk10 CL XA10 XB10 B10 P10 HO10 HP10 HQ10 HY10 p0 p1 q0 q1
        generalize w10.alloc (.cells #[.int .i64 n2, .slice a10 acc.length c10] 24) = w11 at *
        rintro e w12 ⟨r12, L12, rfl, hcl12, ho12, hb12⟩
        obtain ⟨a12, c12, hr12⟩ := ownsRow_form' ho12
        subst hr12
        have hL12 : L12.length = n2 := (hsp _ hcl12).2
        have XA12 := hid (box_back XA11.out hb12 (by omega))
        have XB12 := hid (box_back XB11.out hb12 (by omega))
        have P12 := hid (box_back P11.out hb12 (by omega))
        have Q12 := hid (box_back Q11.out hb12 (by omega))
        have B12 := hid (B11.out.trans (hb12.mono B11.out.size))
        have S1112 := hb12.size
        have HO12 := hid (HO11.out.below hb12)
        have HY12 := hid (HY11.out.below hb12)
        have SM := hid (SameMatroid_any n2 n2 _ _ (N acc) (N acc) _ (HP11.out.below hb12) (HQ11.out.below hb12))
        rw [decide_eq_true (rfl : N acc = N acc), decide_eq_true (rfl : (n2 : Int) = n2)] at SM
        rw [hL12] at *
        clear hb12 ho12 hcl12 XA11 XB11 P11 Q11 B11 HO11 HP11 HQ11 HY11
        obtain ⟨p0, p1⟩ := P12.out
        obtain ⟨q0, q1⟩ := Q12.out
        obtain ⟨x0, x1⟩ := XA12.out
        obtain ⟨y0, y1⟩ := XB12.out
        go_wp2_with fail
        refine SM.out.mono ?_
        rintro e w13 ⟨rfl, hb13⟩
        have XA13 := hid (box_back XA12.out hb13 (by omega))
        have XB13 := hid (box_back XB12.out hb13 (by omega))
        have P13 := hid (box_back P12.out hb13 (by omega))
        have B13 := hid (B12.out.trans (hb13.mono B12.out.size))
        have S1213 := hb13.size
        have HO13 := hid (HO12.out.below hb13)
        have HY13 := hid (HY12.out.below hb13)
        clear hb13 XA12 XB12 P12 Q12 B12 HO12 HY12 p0 p1 q0 q1 x0 x1 y0 y1 SM
        obtain ⟨p0, p1⟩ := P13.out
        obtain ⟨x0, x1⟩ := XA13.out
        obtain ⟨y0, y1⟩ := XB13.out
        have hadd := add_small hm hj
        obtain ⟨M, HMM⟩ : ∃ M, Hid (m + j = M) := ⟨_, rfl⟩
        rw [HMM.out] at hadd
        clear hfp hbp hsp hn2 hlp HT hT256 hT0 hTi
        by_cases hmj : M ≤ 8
        · have hmj0 : m + j ≤ 8 := by rw [HMM.out]; exact hmj
          have SO := hid (Sum_ok m j _ _ l l' w13 hmj0 hfam hbas (HM.out _ B13.out) hfam' hbas' (HM'.out _ B13.out))
          have hfs := sum_fam m l j l'
          have hbs := sum_bas hmj0 hbas hbas'
          have HSC : Hid (∀ L : List Nat, L.Perm (L5 ++ L6.map (· * 2 ^ m)) → L.Pairwise (· ≤ ·) → ∀ L', Comps (m + j) (sumL m l j l') L' → L = L') := fun L h1 h2 L' h3 => by
            rw [EL5.out, EL6.out] at h1
            rw [comps_eq hmj0 hbs h3]
            exact sum_comps hmj0 hbas hbas' h1 h2
          have HSH : Hid (∀ t ∈ L6, wrap64 ((t : Int) * 2 ^ m) = ((t * 2 ^ m : Nat) : Int)) := fun t ht => by
            rw [EL6.out] at ht
            exact shl_small hm (lt256 hj (pt_lt ht))
          rw [HMM.out] at SO hfs HSC
          generalize sumL m l j l' = ac at *
          go_wp2_with fail
          refine SO.out.mono ?_
          rintro e w14 ⟨r14, rfl, ho14, hb14⟩
          obtain ⟨a14, c14, hr14⟩ := ownsRow_form' ho14
          subst hr14
          have XA14 := hid (box_back XA13.out hb14 (by omega))
          have B14 := hid (B13.out.trans (hb14.mono B13.out.size))
          have S1314 := hb14.size
          have HO14 := hid (HO13.out.below hb14)
          have HY14 := hid (HY13.out.below hb14)
          have hls : ac.length ≤ 256 := fam_len hmj hfs
          have HS14 := hid (ho14.ints (by omega))
          have hk14 := below_box w14 #[.int .i64 (M : Int), .slice a14 ac.length c14]
          have S15 : (w14.alloc (.cells #[.int .i64 (M : Int), .slice a14 ac.length c14] 24)).heap.size = w14.heap.size + 1 := by simp
          have Q15 := hid (box_cells (w := w14) (n := M) (u := .slice a14 ac.length c14) (Below.refl _ _))
          have XA15 := hid (box_back XA14.out hk14 (by omega))
          have B15 := hid (B14.out.trans (hk14.mono B14.out.size))
          have HO15 := hid (HO14.out.below hk14)
          have HY15 := hid (HY14.out.below hk14)
          have CS := hid (Components_ok M _ ac _ hmj hfs hbs (HS14.out.below hk14))
          clear hb14 ho14 hk14 p0 p1 x0 x1 y0 y1 XA13 XB13 P13 SO B13 HO13 HY13 XA14 B14 HO14 HY14 HS14 HM HM' hfs
          obtain ⟨q0, q1⟩ := Q15.out
          go_wp2_with fail
          refine CS.out.mono ?_
          clear CS Q15 q0 q1
          generalize w14.alloc (.cells #[.int .i64 (M : Int), .slice a14 ac.length c14] 24) = w15 at *
          rintro e w16 ⟨r16, Lz, rfl, hcz, ho16, hb16⟩
          obtain ⟨a16, c16, hr16⟩ := ownsRow_form' ho16
          subst hr16
          have XA16 := hid (box_back XA15.out hb16 (by omega))
          have B16 := hid (B15.out.trans (hb16.mono B15.out.size))
          have S1516 := hb16.size
          have HO16 := hid (HO15.out.below hb16)
          have HY16 := hid (HY15.out.below hb16)
          have HZ16 := hid ho16
          have hlz : Lz.length ≤ 256 := by rw [comps_eq hmj hbs hcz]; exact Nat.le_trans (pt_len _ _) (pow_wrap M hmj).2
          have HFIN : Hid (∀ L : List Nat, L.Perm (L5 ++ L6.map (· * 2 ^ m)) → L.Pairwise (· ≤ ·) → L = Lz) := fun L h1 h2 => HSC.out L h1 h2 Lz hcz
          clear hb16 ho16 hcz XA15 B15 HO15 HY15 HSC
          have HYG : Hid (∀ g, (Value.slice a6 L6.length c6).ownBlock = some g → w5.heap.size ≤ g ∧ g < w16.heap.size) := fun g hg => World.ownsRow.lt HY16.out g hg
          have HZG : Hid (∀ g, (Value.slice a16 Lz.length c16).ownBlock = some g → w15.heap.size ≤ g ∧ g < w16.heap.size) := fun g hg => World.ownsRow.lt HZ16.out g hg
          obtain ⟨i0, hi, hz0, hz1, hz2⟩ := info_parts Try.infoInt
          have hsum : L5.length + L6.length ≤ 512 := by omega
          have hB416 : w4.heap.size ≤ w16.heap.size := by omega
          have hB515 : w5.heap.size ≤ w15.heap.size := by omega
          obtain ⟨X0, HX0⟩ : ∃ X0, Hid ((Value.slice a5 L5.length c5).ownBlock = X0) := ⟨_, rfl⟩
          rw [HX0.out] at HXL HXG
          go_wp2_with fail
          go_loopw [7, 155] (fun u i wr => ∃ q : Nat, q ≤ L6.length ∧ i = .int .i64 q ∧ Own w4.heap.size wr u (L5 ++ (L6.take q).map (· * 2 ^ m)) ∧ Hid (Save (fun g => X0 = some g) w16 wr) ∧ Hid (u.ownBlock = X0 ∨ ∃ g, u.ownBlock = some g ∧ w16.heap.size ≤ g)) (fun _ i _ => L6.length - (intOf i).toNat)
          case atStart => exact ⟨0, Nat.zero_le _, rfl, by simpa using HO16.out, Save.refl _ _, .inl HX0.out⟩
          case round =>
            obtain ⟨q, hq, rfl, hown, HSV, HUB⟩ := hrel
            have hBw : Below w4.heap.size w16 wr := HSV.out.below (Below.refl _ _) hB416 (fun k hk => HXG.out k hk)
            have hsz : w16.heap.size ≤ wr.heap.size := HSV.out.size
            by_cases hlt : q < L6.length
            · have hlti : (q : Int) < (L6.length : Int) := by omega
              obtain ⟨yb, yo, rfl, hyc⟩ : ∃ yb yo, a6 = some ⟨yb, yo, none⟩ ∧ wr.cell? ⟨yb, yo + q, none⟩ = some (.int .i64 (L6.getD q 0 : Nat)) := by
                have hYo := own_keepP HY16.out HSV.out (fun g hg hx => by
                  have h1 := (HYG.out g hg).1
                  have h2 := HXL.out g hx
                  omega)
                obtain ⟨q1, q2, q3, _, q5⟩ := (hYo.ints (by omega)).nats
                obtain ⟨b0, off0, rfl, hbb, hcl⟩ := q5 (by omega)
                obtain ⟨rfl, rfl⟩ : a6 = some ⟨b0, off0, none⟩ ∧ c6 = q2 := by simpa using q3
                exact ⟨b0, off0, rfl, hcl q hlt⟩
              have x0 := (hBw.cell (p := ⟨w.heap.size, 0, none⟩) (by show w.heap.size < w4.heap.size; omega)).trans XA16.out.1
              have hmem : L6.getD q 0 ∈ L6 := by simp only [List.getD, List.getElem?_eq_getElem hlt, Option.getD_some]; exact List.getElem_mem _
              have hsh := HSH.out _ hmem
              have hm0 : (0 : Int) ≤ (m : Int) := by omega
              have hm64 : (m : Int) ≤ 64 := by omega
              have TK : Hid (L5 ++ (L6.take (q + 1)).map (· * 2 ^ m) = (L5 ++ (L6.take q).map (· * 2 ^ m)) ++ [L6.getD q 0 * 2 ^ m]) := by
                show _ = _
                rw [take_snoc hlt, List.map_append, ← List.append_assoc]
                rfl
              have hal : (L5 ++ (L6.take q).map (· * 2 ^ m)).length ≤ 512 := by
                rw [List.length_append, List.length_map, List.length_take]
                omega
              have HO := hid hown
              have hwr4 : w4.heap.size ≤ wr.heap.size := by omega
              have HBW := hid hBw
              clear hown hmem HSH HFIN XA16 hBw
              generalize L5 ++ (L6.take q).map (· * 2 ^ m) = acc at *
              generalize L6.getD q 0 * 2 ^ m = sh at *
              generalize L6.getD q 0 = t at *
              go_wp2_with (at_builtin; refine wpList_append_own_at _ rfl _ _ 22 rfl w4.heap.size 3 i0 (.int .i64 0) 1 8 Try.underlying22 hi hz0 hz1 hz2 rfl (by decide) _ _ _ rfl (HO.out.alloc _) ⟨wr.heap.size, 0, none⟩ 1 1 [.int .i64 (sh : Nat)] rfl rfl ?c1 ?c2 ?c3 ?c4 ?c5 ?_)
              case c1 => exact cell_one_new _ _ _
              case c2 => intro u hu; simp at hu; subst hu; rfl
              case c3 => unfold maxLen; omega
              case c4 => omega
              case c5 => simp; omega
              intro v' w5' hown' hgrow _ hat
              have R3 := hid (Own.snoc hown')
              have R4 : Hid (Save (fun g => X0 = some g) w16 w5') := (HSV.out.alloc _).andThen (Save.of_grown (X := fun g => some g = _) hgrow (fun k e => e.symm)) (fun g hg hx => by
                rcases HUB.out with e | ⟨g', e, hg'⟩
                · exact e.symm.trans hx.symm
                · have := Option.some.inj (hx.trans e)
                  omega)
              have R5 : Hid (v'.ownBlock = X0 ∨ ∃ g, v'.ownBlock = some g ∧ w16.heap.size ≤ g) := by
                rcases hat with e | e
                · exact HUB.out.imp (fun h => e.trans h) (fun ⟨g, h1, h2⟩ => ⟨g, e.trans h1, h2⟩)
                · exact .inr ⟨_, e, Nat.le_trans hsz (Nat.le_succ _)⟩
              clear hown' hgrow hat
              go_wp2_with fail
              go_roundw
              case rel => exact ⟨q + 1, by omega, by go_num, by rw [TK.out]; exact R3.out, R4.out, R5.out⟩
              case measure => simp [intOf]; omega
            · obtain rfl : q = L6.length := by omega
              rw [List.take_length] at hown
              have hal : (L5 ++ L6.map (· * 2 ^ m)).length ≤ 512 := by
                rw [List.length_append, List.length_map]
                omega
              have SO := hid (Sort_own hown (by omega))
              have HZ := hid (own_keepP HZ16.out HSV.out (fun g hg hx => by
                have h1 := (HZG.out g hg).1
                have h2 := HXL.out g hx
                omega))
              have HZN : Hid (∀ g, (Value.slice a16 Lz.length c16).ownBlock = some g → ¬ some g = Value.ownBlock _) := fun g hg hx => by
                have h1 := HZG.out g hg
                rcases HUB.out with e | ⟨g', e, hg'⟩
                · have h2 := HXL.out g (e.symm.trans hx.symm)
                  omega
                · have := Option.some.inj (hx.trans e)
                  omega
              obtain ⟨ua, uc, hu⟩ := ownsRow_form' hown
              subst hu
              have HBW := hid (B16.out.trans (hBw.mono (by omega : w.heap.size ≤ w4.heap.size)))
              have hw4 : w4.heap.size ≤ wr.heap.size := by omega
              have hww : w.heap.size ≤ w4.heap.size := by omega
              clear hown HSH XA16 HO16 HY16 HZ16 B16 HYG
              generalize L5 ++ L6.map (· * 2 ^ m) = acc at *
              go_wp2_with fail
              refine SO.out.mono ?_
              rintro e w17 ⟨rfl, L', hperm, hsort, ho17, hbel, hgr⟩
              obtain rfl := HFIN.out L' hperm hsort
              have hl17 : L'.length = acc.length := hperm.length_eq
              have HZ17 := own_keepP HZ.out (Save.of_grown (X := fun g => some g = _) hgr (fun k e => e.symm)) HZN.out
              have HB17 : Below w.heap.size w w17 := HBW.out.trans ((hbel wr (Below.refl _ _) hw4).mono hww)
              have SM := hid (Same_any _ _ (N L') (N L') w17 (ho17.ints (by omega)) (HZ17.ints (by omega)))
              rw [decide_eq_true (rfl : N L' = N L')] at SM
              have HBF := hid HB17
              clear hbel hgr ho17 HZ17 HB17 hperm hsort hl17
              go_wp2_with fail
              refine SM.out.mono ?_
              rintro e w18 ⟨rfl, hb18⟩
              have HBG := hid (HBF.out.trans (hb18.mono HBF.out.size))
              clear hb18
              go_wp2_with fail
              go_ret
              exact ⟨rfl, HBG.out⟩
        · have hgt : (8 : Int) < (M : Int) := by omega
          have SL := hid (Sum_large m j _ _ l l' w13 hm hj (by rw [HMM.out]; omega) hfam hbas (HM.out _ B13.out) hfam' hbas' (HM'.out _ B13.out))
          have HGT : Hid ((8 : Int) < (m : Int) + (j : Int)) := by
            show (8 : Int) < (m : Int) + (j : Int)
            have := HMM.out
            omega
          clear hmj
          go_wp2_with fail
          refine SL.out.mono ?_
          rintro e w14 ⟨rfl, hb14⟩
          have XA14 := hid (box_back XA13.out hb14 (by omega))
          have XB14 := hid (box_back XB13.out hb14 (by omega))
          have B14 := hid (B13.out.trans (hb14.mono B13.out.size))
          have S1314 := hb14.size
          have hk14 := below_box w14 #[.int .i64 0, .slice none 0 0]
          have XA15 := hid (box_back XA14.out hk14 (by omega))
          have XB15 := hid (box_back XB14.out hk14 (by omega))
          have B15 := hid (B14.out.trans (hk14.mono B14.out.size))
          clear hb14 hk14 p0 p1 x0 x1 y0 y1 XA13 XB13 P13 SL HM HM' HO13 HY13 B13 B14
          obtain ⟨x0, x1⟩ := XA15.out
          obtain ⟨y0, y1⟩ := XB15.out
          go_wp2_with fail
          go_ret
          exact ⟨ret_bool (decide_eq_true HGT.out), B15.out⟩
    · have CB := hid (Components_bad k _ ys _ (HI'.out.below B5.out) hc')
      generalize chkR k ys = q at *
      go_wp2_with fail
      refine CB.out.mono ?_
      rintro e w6 ⟨rfl, hb6⟩
      have B6 := hid (B5.out.trans (hb6.mono B5.out.size))
      clear hb6 CB
      go_wp2_with fail
      go_ret
      exact ⟨rfl, B6.out⟩
  · have CB := hid (Components_bad n _ zs _ (HI.out.below B4.out) hc)
    generalize chkR n zs = q at *
    go_wp2_with fail
    refine CB.out.mono ?_
    rintro e w5 ⟨rfl, hb5⟩
    have XB5 := hid (box_back XB4.out hb5 (by omega))
    have B5 := hid (B4.out.trans (hb5.mono B4.out.size))
    clear hb5 CB x0 x1 y0 y1
    obtain ⟨y0, y1⟩ := XB5.out
    by_cases hc' : chkR k ys = 0
    · obtain ⟨j, l', rfl, hj, rfl, hfam', hbas'⟩ := chk_of hc'
      have CO := hid (Components_ok j _ l' _ hj hfam' hbas' (HI'.out.below B5.out))
      rw [N_len] at *
      go_wp2_with fail
      refine CO.out.mono ?_
      rintro e w6 ⟨r6, L6, rfl, hcm, ho6, hb6⟩
      have B6 := hid (B5.out.trans (hb6.mono B5.out.size))
      obtain ⟨a6, c6, hr6⟩ := ownsRow_form' ho6
      subst hr6
      clear hb6 CO ho6 hcm
      go_wp2_with fail
      go_ret
      exact ⟨rfl, B6.out⟩
    · have CB := hid (Components_bad k _ ys _ (HI'.out.below B5.out) hc')
      generalize chkR k ys = q' at *
      go_wp2_with fail
      refine CB.out.mono ?_
      rintro e w6 ⟨rfl, hb6⟩
      have B6 := hid (B5.out.trans (hb6.mono B5.out.size))
      clear hb6 CB
      go_wp2_with fail
      go_ret
      exact ⟨rfl, B6.out⟩
theorem parts_lawR (n : Int) (v : Value) (zs : List Int) (k : Int) (u : Value) (ys : List Int) (w : World) (h : Ints w v zs) (h' : Ints w u ys) :
    Calls Try.prog 3 #[.agg #[.int .i64 n, v], .agg #[.int .i64 k, u]] w fun e w' => e = .returned (.bool true) ∧ Below w.heap.size w w' := parts_law n k v u zs ys w h h'
end Go.Proofs.Ytanjikppbnppdaa
