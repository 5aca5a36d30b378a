/- The walk of the law MinorsTutte. -/
import Derived.Test.YtkebhhpfnalbfadCompQ
import Derived.Test.YtkebhhpfnalbfadDelConQ
import Derived.Test.YtkebhhpfnalbfadSwapLawQ
namespace Go.Proofs.Ytkebhhpfnalbfad
open Go.RowKit

theorem two_con : pop (dif (2 ^ 4 - 1) 1) = 3 ∧ minL 4 twoL 1 1 = [1, 2, 4] := by decide +kernel
theorem back_box {w w1 : World} {B : Nat} {x y : Value} (hx : w.cell? ⟨B, 0, none⟩ = some x ∧ w.cell? ⟨B, 1, none⟩ = some y) (hb : Below w.heap.size w w1) (hB : B < w.heap.size) : w1.cell? ⟨B, 0, none⟩ = some x ∧ w1.cell? ⟨B, 1, none⟩ = some y :=
  ⟨(hb.cell (p := ⟨B, 0, none⟩) hB).trans hx.1, (hb.cell (p := ⟨B, 1, none⟩) hB).trans hx.2⟩
theorem kept_one {m i : Nat} (hm : m ≤ 8) (hi : i < m) : pop (dif (2 ^ m - 1) (2 ^ i)) = m - 1 := by
  have hlt : (2 : Nat) ^ i < 2 ^ m := Nat.pow_lt_pow_right (by omega) hi
  have h1 := kept_pop hm hlt
  have h3 : pop (2 ^ i) = 1 := by
    have := pop_ad 0 (by decide) i (by omega) (by simp)
    rw [Nat.zero_or] at this
    exact this.trans (by decide)
  omega
theorem comps_len {m : Nat} {l L' : List Nat} (h1 : 1 ≤ m) (hm : m ≤ 8) (hb : Bas l) (h : Comps m l L') : L'.length = 1 ↔ Con m (rk l) := by
  obtain ⟨L, hP, hperm, _⟩ := h
  rw [hperm.length_eq]
  exact con_len h1 hm hb hP
theorem tutte_len {m i : Nat} {l L1 L2 : List Nat} (hm : m ≤ 8) (h2 : 2 ≤ m) (hb : Bas l) (hc : Con m (rk l)) (hi : i < m) (k1 : Comps (m - 1) (minL m l (2 ^ i) 0) L1) (k2 : Comps (m - 1) (minL m l (2 ^ i) (2 ^ i)) L2) : L1.length = 1 ∨ L2.length = 1 := by
  rcases tutte hm h2 hb hi hc with h | h
  · exact .inl ((comps_len (by omega) (by omega) (min_bas hm hb _ _) k1).2 h)
  · exact .inr ((comps_len (by omega) (by omega) (min_bas hm hb _ _) k2).2 h)
theorem comps_short {m : Nat} {l L' : List Nat} (h : Comps m l L') (hm : m ≤ 8) : L'.length ≤ 256 := by
  obtain ⟨L, hP, hperm, _⟩ := h
  rw [hperm.length_eq]
  have key : ∀ {T : Nat → Nat → Bool} {F : Nat} {L : List Nat}, Prts T F L → F < 256 → L.length ≤ F := by
    intro T F L h
    induction h with
    | nil => intro _; simp
    | @cons rest L h0 _ ih =>
      intro hF
      have h1 := rest_less (T := T) hF (by omega)
      have h2 := ih (by omega)
      simp
      omega
  have := key hP (lt256 hm (full_lt m))
  have := (pow_wrap m hm).2
  omega

set_option maxRecDepth 20000 in
set_option maxHeartbeats 4000000 in
theorem tutte_law (n : Int) (v : Value) (zs : List Int) (w : World) (h : Ints w v zs) :
    Calls Try.prog 3 #[.agg #[.int .i64 n, v]] w fun e w' => e = .returned (.bool true) ∧ Below w.heap.size w w' := by
  have HI := hid h
  obtain ⟨a, cap, rfl, _, _⟩ := h
  have T2 := hid (fun w v (h : Ints w v (N twoL)) => Contract_ok 4 1 v twoL w (by omega) two_fam two_bas h (by decide))
  rw [two_con.1, two_con.2] at T2
  go_enter Try.func3, Try.ntmps3
  go_wp2_with fail
  refine (two_any _).mono ?_
  rintro e w1 ⟨v2, rfl, hv2, hb1⟩
  have X1 := hid (box_cells hb1)
  have B1 := hid ((below_box w #[.int .i64 n, .slice a zs.length cap]).trans (hb1.mono (below_box w #[.int .i64 n, .slice a zs.length cap]).size))
  have S1 : w.heap.size + 1 ≤ w1.heap.size := by have := hb1.size; simpa using this
  have C2 := hid (T2.out _ _ hv2)
  obtain ⟨a2, cap2, rfl, _, _⟩ := hv2
  clear hb1
  go_wp2_with fail
  refine C2.out.mono ?_
  rintro e w2 ⟨r2, rfl, hr2, hb2⟩
  have X2 := hid (back_box X1.out hb2 (by omega))
  have B2 := hid (B1.out.trans (hb2.mono B1.out.size))
  have S2 : w.heap.size + 1 ≤ w2.heap.size := Nat.le_trans S1 hb2.size
  obtain ⟨fa, fcap, hr2'⟩ := ownsRow_form' hr2
  subst hr2'
  have P2 := hid (box_cells (w := w2) (n := 3) (u := .slice fa [1, 2, 4].length fcap) (Below.refl _ _))
  have hk2 := below_box w2 #[.int .i64 3, .slice fa [1, 2, 4].length fcap]
  have S3 : (w2.alloc (.cells #[.int .i64 3, .slice fa [1, 2, 4].length fcap] 24)).heap.size = w2.heap.size + 1 := by simp
  have X3 := hid (back_box X2.out hk2 (by omega))
  have B3 := hid (B2.out.trans (hk2.mono B2.out.size))
  have I2 := hid ((hr2.ints (by decide)).below hk2)
  obtain ⟨p0, p1⟩ := P2.out
  clear hb2 T2 C2 X1 X2 hk2 hr2
  go_wp2_with fail
  have SM := hid (Same_any _ _ (N [1, 2, 4]) [1, 2, 4] _ (I2.out.below (below_alloc _ _)) (Ints.lit3 (w2.alloc (.cells #[.int .i64 3, .slice fa [1, 2, 4].length fcap] 24)) 1 2 4))
  rw [show decide (N [1, 2, 4] = [1, 2, 4]) = true from rfl, S3] at SM
  refine SM.out.mono ?_
  rintro e w4 ⟨rfl, hb4⟩
  have hb4' : Below (w2.alloc (.cells #[.int .i64 3, .slice fa [1, 2, 4].length fcap] 24)).heap.size (w2.alloc (.cells #[.int .i64 3, .slice fa [1, 2, 4].length fcap] 24)) w4 := ((Below.refl _ _).alloc (Nat.le_refl _) _).trans (hb4.mono (by simp))
  have X4 := hid (back_box X3.out hb4' (by omega))
  have B4 := hid (B3.out.trans (hb4'.mono B3.out.size))
  have S4 : w.heap.size + 1 ≤ w4.heap.size := by have := hb4'.size; omega
  clear hb4 hb4' SM p0 p1 P2 I2 X3
  obtain ⟨x0, x1⟩ := X4.out
  by_cases hc : chkR n zs = 0
  · obtain ⟨m, l, rfl, hm, rfl, hfam, hbas⟩ := chk_of hc
    clear hc
    have HM := hid (fun w' (hb : Below w.heap.size w w') => HI.out.below hb)
    rw [N_len] at *
    have CO := hid (Components_ok m _ l _ hm hfam hbas (HM.out _ B4.out))
    go_wp2_with fail
    refine CO.out.mono ?_
    rintro e w5 ⟨r5, L5, rfl, hcm, ho5, hb5⟩
    obtain ⟨a5, c5, hr5⟩ := ownsRow_form' ho5
    subst hr5
    have X5 := hid (back_box X4.out hb5 (by omega))
    have B5 := hid (B4.out.trans (hb5.mono B4.out.size))
    have S5 : w.heap.size + 1 ≤ w5.heap.size := Nat.le_trans S4 hb5.size
    clear hb5 x0 x1 X4 CO ho5
    obtain ⟨x0, x1⟩ := X5.out
    by_cases hL : L5.length = 1
    · have hL' : ((L5.length : Int) != 1) = false := by rw [hL]; rfl
      by_cases hm2 : m < 2
      · have hm2' : (m : Int) < 2 := by omega
        have hd : decide ((m : Int) < 2) = true := by simpa using hm2'
        go_wp2_with fail
        go_ret
        exact ⟨rfl, B5.out⟩
      · have hm2' : ¬ (m : Int) < 2 := by omega
        have hd : decide ((m : Int) < 2) = false := by simp; omega
        have hd2 : decide (m < 2) = false := by simp; omega
        have HCON := hid ((comps_len (by omega) hm hbas hcm).1 hL)
        have TL := hid (fun i L1 L2 (hi : i < m) k1 k2 => tutte_len (L1 := L1) (L2 := L2) hm (by omega) hbas HCON.out hi k1 k2)
        have DE := hid (fun w' i (hi : i < m) (hb : Below w.heap.size w w') => Delete_ok m (2 ^ i) _ l w' hm hfam hbas (HM.out w' hb) (Nat.pow_lt_pow_right (by omega) hi))
        have CN := hid (fun w' i (hi : i < m) (hb : Below w.heap.size w w') => Contract_ok m (2 ^ i) _ l w' hm hfam hbas (HM.out w' hb) (Nat.pow_lt_pow_right (by omega) hi))
        clear hcm
        go_wp2_with fail
        go_loopw [56] (fun i wr => ∃ k : Nat, k ≤ m ∧ i = .int .i64 k ∧ Hid (Below w5.heap.size w5 wr)) (fun i _ => m - (intOf i).toNat)
        case atStart => exact ⟨0, Nat.zero_le _, rfl, Below.refl _ _⟩
        case round =>
        obtain ⟨k, hk, rfl, HW⟩ := hrel
        have XR := hid (back_box X5.out HW.out (by omega))
        have BR := hid (B5.out.trans (HW.out.mono B5.out.size))
        have hsr := HW.out.size
        by_cases hlt : k < m
        · have hki : (k : Int) < (m : Int) := by omega
          have hpw : wrap64 (2 ^ k) = ((2 ^ k : Nat) : Int) := (pow_wrap k (by omega)).1
          have hpw2 : IntKind.i64.wrap (2 ^ k) = ((2 ^ k : Nat) : Int) := by
            have h9 := wrap_i64_nat (2 ^ k) (Nat.lt_of_le_of_lt (pow_wrap k (by omega)).2 (by decide))
            rw [show (((2 ^ k : Nat) : Int)) = (2 : Int) ^ k by simp] at h9 ⊢
            exact h9
          have D1 := hid (fun w' (hb : Below wr.heap.size wr w') => DE.out w' k hlt (BR.out.trans (hb.mono BR.out.size)))
          have D2 := hid (fun w' (hb : Below wr.heap.size wr w') => CN.out w' k hlt (BR.out.trans (hb.mono BR.out.size)))
          have KO := kept_one hm hlt
          have F1 := hid (min_fam m l (2 ^ k) 0)
          have F2 := hid (min_fam m l (2 ^ k) (2 ^ k))
          have A1 := hid (min_bas hm hbas (2 ^ k) 0)
          have A2 := hid (min_bas hm hbas (2 ^ k) (2 ^ k))
          rw [KO] at D1 D2 F1 F2
          have TK := hid (fun L1 L2 k1 k2 => TL.out k L1 L2 hlt k1 k2)
          have hm1 : m - 1 ≤ 8 := by omega
          have G1 := hid (Nat.le_trans (fam_len hm1 F1.out) (by decide : 256 ≤ 17592186044416))
          have G2 := hid (Nat.le_trans (fam_len hm1 F2.out) (by decide : 256 ≤ 17592186044416))
          clear KO
          generalize minL m l (2 ^ k) 0 = l1 at *
          generalize minL m l (2 ^ k) (2 ^ k) = l2 at *
          generalize 2 ^ k = T at *
          generalize m - 1 = n1 at *
          obtain ⟨x0, x1⟩ := XR.out
          go_wp2_with fail
          have ne11 : ¬ wr.heap.size = w.heap.size := by omega
          have ne21 : ¬ w.heap.size = wr.heap.size := by omega
          go_cut [8, 9] from 59 to 65 (fun x e W => e = .int .i64 0 ∧ ∃ bx ax cx, x = .pointer (some ⟨bx, 0, none⟩) ∧ Hid (HoldsM wr n1 l1 bx ax cx W))
          case first =>
            have z0 := fun o => cellA (W := wr) o x0
            have z1 := fun o => cellA (W := wr) o x1
            go_region_with ((go_at_call 12; refine (D1.out _ (by first | exact (Below.refl _ _).drew | exact ((Below.refl _ _).alloc (Nat.le_refl _) _).drew)).mono ?_; rintro e w8 ⟨r8, rfl, ho8, hb8⟩; obtain ⟨a8, cap8, hq8⟩ := ownsRow_form' ho8; subst hq8; have HO8 := hid ho8; have HB8 := hid hb8; have hW8 : Below wr.heap.size wr w8 := (by first | exact laterA hb8 | exact laterB hb8); obtain ⟨q0, q1⟩ := back_box XR.out hW8 (by omega); clear hW8; (first | (have hz8 : w8.heap[wr.heap.size]? = some (.cells #[.int .i64 0, .slice none 0 0] 24 (0, 0)) := zeroD hb8; obtain ⟨c80, c81, f80, f81⟩ := two_cells hz8; clear hz8) | skip); clear ho8 hb8))
            all_goals go_wp2_with fail
            all_goals go_meet
            all_goals first | exact ⟨rfl, _, _, _, rfl, keepA HO8.out HB8.out G1.out⟩ | exact ⟨rfl, _, _, _, rfl, keepB HO8.out HB8.out G1.out⟩
          case rest =>
          obtain ⟨rfl, b7, a7, cap7, rfl, H7⟩ := hcut
          obtain ⟨P7', M7', hb7, hl7⟩ := H7.out
          have XC := hid (back_box XR.out hb7 (by omega))
          have BC := hid (BR.out.trans (hb7.mono BR.out.size))
          have D3 := hid (fun w' (hb : Below wc.heap.size wc w') => D2.out w' (hb7.trans (hb.mono hb7.size)))
          have hy7 := hb7.size
          have HBC := hid (HW.out.trans (hb7.mono HW.out.size))
          have P7 := hid P7'
          have M7 := hid M7'
          clear H7 P7' M7' hb7 x0 x1 D1 D2
          obtain ⟨x0, x1⟩ := XC.out
          go_wp2_with fail
          have ne12 : ¬ wc.heap.size = w.heap.size := by omega
          have ne22 : ¬ w.heap.size = wc.heap.size := by omega
          go_cut [10, 11] from 66 to 72 (fun x e W => e = .int .i64 0 ∧ ∃ bx ax cx, x = .pointer (some ⟨bx, 0, none⟩) ∧ Hid (HoldsM wc n1 l2 bx ax cx W))
          case first =>
            have z0 := fun o => cellA (W := wc) o x0
            have z1 := fun o => cellA (W := wc) o x1
            go_region_with ((go_at_call 8; refine (D3.out _ (by first | exact (Below.refl _ _).drew | exact ((Below.refl _ _).alloc (Nat.le_refl _) _).drew)).mono ?_; rintro e w8 ⟨r8, rfl, ho8, hb8⟩; obtain ⟨a8, cap8, hq8⟩ := ownsRow_form' ho8; subst hq8; have HO8 := hid ho8; have HB8 := hid hb8; have hW8 : Below wc.heap.size wc w8 := (by first | exact laterA hb8 | exact laterB hb8); obtain ⟨q0, q1⟩ := back_box XC.out hW8 (by omega); clear hW8; (first | (have hz8 : w8.heap[wc.heap.size]? = some (.cells #[.int .i64 0, .slice none 0 0] 24 (0, 0)) := zeroD hb8; obtain ⟨c80, c81, f80, f81⟩ := two_cells hz8; clear hz8) | skip); clear ho8 hb8))
            all_goals go_wp2_with fail
            all_goals go_meet
            all_goals first | exact ⟨rfl, _, _, _, rfl, keepA HO8.out HB8.out G2.out⟩ | exact ⟨rfl, _, _, _, rfl, keepB HO8.out HB8.out G2.out⟩
          case rest =>
          rename_i wd
          obtain ⟨rfl, b8, a8, cap8, rfl, H8⟩ := hcut
          obtain ⟨P8', M8', hb8, hl8⟩ := H8.out
          have BD := hid (HBC.out.trans (hb8.mono HBC.out.size))
          replace P7 := hid (back_box P7.out hb8 hl7)
          replace M7 := hid (M7.out.below hb8)
          have hy8 := hb8.size
          have P8 := hid P8'
          have M8 := hid M8'
          clear H8 P8' M8' hb8 x0 x1 D3
          obtain ⟨y0, y1⟩ := P7.out
          have K1 := hid (Components_ok n1 _ l1 _ hm1 F1.out A1.out M7.out)
          go_wp2_with fail
          refine K1.out.mono ?_
          rintro e w9 ⟨r9, L9, rfl, hc9, ho9, hb9⟩
          obtain ⟨a9, c9, hr9⟩ := ownsRow_form' ho9
          subst hr9
          have B9 := hid (BD.out.trans (hb9.mono BD.out.size))
          replace P8 := hid (back_box P8.out hb9 hl8)
          replace M8 := hid (M8.out.below hb9)
          have HC9 := hid hc9
          clear hb9 ho9 hc9 y0 y1 K1
          obtain ⟨y0, y1⟩ := P8.out
          have K2 := hid (Components_ok n1 _ l2 _ hm1 F2.out A2.out M8.out)
          go_wp2_with fail
          refine K2.out.mono ?_
          rintro e w10 ⟨r10, L10, rfl, hc10, ho10, hb10⟩
          obtain ⟨a10, c10, hr10⟩ := ownsRow_form' ho10
          subst hr10
          have B10 := hid (B9.out.trans (hb10.mono B9.out.size))
          have TT := TK.out _ _ HC9.out hc10
          clear hb10 ho10 hc10 y0 y1 K2
          by_cases hL9 : L9.length = 1
          · have hl1 : ¬ (1 : Int) < (L9.length : Int) := by omega
            have hl2 : decide ((1 : Int) < (L9.length : Int)) = false := by simp; omega
            have hl3 : decide (1 < L9.length) = false := by simp; omega
            go_wp2_with fail
            go_roundw
            case rel => exact ⟨k + 1, by omega, by go_num, B10⟩
            case measure => simp [intOf]; omega
          · have hL10 : L10.length = 1 := TT.resolve_left hL9
            have hl1 : ¬ (1 : Int) < (L10.length : Int) := by omega
            have hl2 : decide ((1 : Int) < (L10.length : Int)) = false := by simp; omega
            have hl3 : decide (1 < L10.length) = false := by simp; omega
            by_cases hL9' : 1 < L9.length
            · have hk1 : (1 : Int) < (L9.length : Int) := by omega
              have hk2 : decide ((1 : Int) < (L9.length : Int)) = true := by simp; omega
              have hk3 : decide (1 < L9.length) = true := by simp; omega
              go_wp2_with fail
              go_roundw
              case rel => exact ⟨k + 1, by omega, by go_num, B10⟩
              case measure => simp [intOf]; omega
            · have hk1 : ¬ (1 : Int) < (L9.length : Int) := by omega
              have hk2 : decide ((1 : Int) < (L9.length : Int)) = false := by simp; omega
              have hk3 : decide (1 < L9.length) = false := by simp; omega
              go_wp2_with fail
              go_roundw
              case rel => exact ⟨k + 1, by omega, by go_num, B10⟩
              case measure => simp [intOf]; omega
        · have hki : ¬ (k : Int) < (m : Int) := by omega
          go_wp2_with fail
          go_ret
          exact ⟨rfl, BR.out⟩
    · have hL' : ((L5.length : Int) != 1) = true := by rw [bne_iff_ne]; omega
      go_wp2_with fail
      go_ret
      exact ⟨rfl, B5.out⟩
  · have CO := hid (Components_bad n _ zs _ (HI.out.below B4.out) hc)
    have hq : ((chkR n zs) != 0) = true := by rw [bne_iff_ne]; exact hc
    have hq2 : ((chkR n zs) == 0) = false := by rw [beq_eq_false_iff_ne]; exact hc
    generalize chkR n zs = q at *
    go_wp2_with fail
    refine CO.out.mono ?_
    rintro e w5 ⟨rfl, hb5⟩
    have B5 := hid (B4.out.trans (hb5.mono B4.out.size))
    clear hb5
    go_wp2_with fail
    go_ret
    exact ⟨rfl, B5.out⟩
end Go.Proofs.Ytkebhhpfnalbfad
