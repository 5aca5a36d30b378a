/- rotakeep.HallMarries. -/
import Derived.Test.YtkpfddipfoahlaaHaHQ
import Derived.Test.YtkpfddipfoahlaaPlainAll
import Derived.Test.YtkpfddipfoahlaaKTransQ
import Derived.Test.YtkpfddipfoahlaaRfSevQ
namespace Go.Proofs.Ytkpfddipfoahlaa
open Go.RowKit

theorem hm_lit : staF (rk [2 ^ 2 - 1]) 0 [3, 1] = some [1, 0] := by decide +kernel
set_option maxRecDepth 20000 in
set_option maxHeartbeats 8000000 in
theorem hmarries_law (n : Int) (u : Value) (ys : List Int) (w : World) (hu : Ints w u ys) (hcp : ∀ a L c, u = .slice a L c → L ≤ c) :
    Calls Try.prog 3 #[.int .i64 n, u] w fun e w' => e = .returned (.bool true) ∧ Below w.heap.size w w' := by
  have HU := hid hu
  obtain ⟨ua, uc, rfl, -, -⟩ := hu
  have hcap := hcp _ _ _ rfl
  clear hcp
  have HB1 : Hid (Below w.heap.size w (w.alloc (.cells #[.int .i64 3, .int .i64 1] 3))) := (Below.refl _ _).alloc (Nat.le_refl _) _
  have L1 := hid (HStand_ok 2 (some ⟨w.heap.size, 0, none⟩) 2 [3, 1] _ (by decide) (by decide) (by decide) (by decide) (ints_two w 3 1))
  rw [hm_lit] at L1
  go_enter Try.func3, Try.ntmps3
  go_wp2_with fail
  refine L1.out.mono ?_
  intro e w2 h2
  obtain ⟨v2, rfl, ho2, hb2⟩ := h2.yes
  have HB2 := hid (HB1.out.trans (hb2.mono HB1.out.size))
  have SM := hid (Same_any v2 _ (N [1, 0]) (N [1, 0]) _ ((ho2.ints (by decide)).below ((Below.refl _ _).alloc (Nat.le_refl _) (.cells #[.int .i64 1, .int .i64 0] 3))) (ints_two w2 1 0))
  rw [decide_eq_true rfl] at SM
  have HB2' := hid (HB2.out.alloc HB2.out.size (.cells #[.int .i64 1, .int .i64 0] 3))
  clear hb2 ho2 h2 L1
  go_wp2_with fail
  refine SM.out.mono ?_
  rintro e w3 ⟨rfl, hb3⟩
  have HB3 := hid (HB2'.out.trans (hb3.mono HB2'.out.size))
  clear hb3
  have HU3 := hid (HU.out.below HB3.out)
  by_cases hq : lisR n ys = 0
  · obtain ⟨m, q, rfl, hm, rfl, hk, hl⟩ := lis_good hq
    have hN : ∀ q : List Nat, (N q).length = q.length := fun q => by simp [N]
    rw [hN] at *
    have hr : RkOn m (rk [2 ^ m - 1]) := (full_bas m hm).2.rkOn m
    have hr2 : ∀ s, s < 2 ^ m → rk [2 ^ m - 1] s = pop s := fun s hs => full_rk hs
    have KS := hid (fun w hu => HStand_ok m ua uc q w hm hk hl hcap hu)
    have KB := hid (fun w hu => HBar_ok m (.slice ua q.length uc) q w hm hk hl hu)
    have KM := hid (fun w hu => Most_ok m (.slice ua q.length uc) q w hm hk hl hu)
    have KL := hid (fun w hu => Lines_ok m (.slice ua q.length uc) q w hm hk hl hu)
    have KT := hid (fun w hu => Trans_any m (.slice ua q.length uc) (N q) w hu)
    have SB := sta_bar hm hr hl hk
    have MB := bar_full hr2 hl hk
    have ST := hid (fun L h => stands_of hm hr hl h (L := L))
    have SN := hid (stands_nil q hr)
    have hT : 2 ^ m ≤ 256 := Nat.pow_le_pow_right (by decide) hm
    have HQL := hid hl
    have COV := hid (fun i hi => lin_cov (l := q) (i := i) hi)
    have hP : 2 ^ q.length ≤ 256 := Nat.pow_le_pow_right (by decide) (by omega : q.length ≤ 8)
    have LT := hid (linF_lt (fun x hx => lt256 hm (hl x hx)) (2 ^ q.length) hP)
    have HM : Hid (mostB q = pop (linF q (2 ^ q.length)).1 + pop (linF q (2 ^ q.length)).2) := rfl
    have hzs : (N q).map Int.toNat = q := N_back q
    have hbl : bigL m (fun s => hallTo q s s) = basR m (lowR (meets q)) := trans_basR hm q
    rw [hzs, Int.toNat_natCast, hbl, lis_ok hm hk hl] at KT
    obtain ⟨B, HBE⟩ : ∃ B, Hid (basR m (lowR (meets q)) = B) := ⟨_, Eq.refl _⟩
    have HBL : B.length ≤ 256 := by rw [← HBE.out]; exact fam_len hm (basR_fam m _)
    have HB0 : B ≠ [] := by rw [← HBE.out]; exact (trans_bas hm q).ne
    have HBM : ∀ b ∈ B, b < 256 ∧ pop b = mostB q := fun b hb => by
      rw [← HBE.out, mem_basR] at hb
      exact ⟨lt256 hm hb.1, by rw [koenig hk hl]; omega⟩
    rw [HBE.out] at KT
    clear hq hl hr hr2 hbl hzs HBE
    have K4 := KS.out w3 HU3.out
    have hP0 : 0 < 2 ^ q.length := Nat.two_pow_pos _
    obtain ⟨b0, brest, rfl⟩ : ∃ b0 br, B = b0 :: br := by
      cases B with
      | nil => exact absurd rfl HB0
      | cons b br => exact ⟨b, br, rfl⟩
    obtain ⟨hb0, hb1⟩ := HBM b0 (by simp)
    obtain ⟨l1, l2⟩ := LT.out
    have p1 := pop_le_8 _ l1
    have p2 := pop_le_8 _ l2
    have S1 := hid (fun w => Size_any _ w l1)
    have S2 := hid (fun w => Size_any _ w l2)
    have S3 := hid (fun w => Size_any _ w hb0)
    rw [hb1] at S3
    have hsum : ((pop (linF q (2 ^ q.length)).1 : Nat) : Int) + ((pop (linF q (2 ^ q.length)).2 : Nat) : Int) = ((mostB q : Nat) : Int) := by rw [HM.out]; omega
    clear HBM HB0 HM LT hP hP0
    generalize mostB q = M at *
    generalize (linF q (2 ^ q.length)).1 = rows at *
    generalize (linF q (2 ^ q.length)).2 = cols at *
    rcases hS : staF (rk [2 ^ m - 1]) 0 q with _ | L
    case' none =>
      have hB : ∃ kb, barF (rk [2 ^ m - 1]) 0 q = some kb := by
        have := SB.1 hS
        cases hb : barF (rk [2 ^ m - 1]) 0 q with
        | none => exact absurd hb this
        | some kb => exact ⟨kb, rfl⟩
      obtain ⟨kb, hB⟩ := hB
      have hM : ((M : Int) == (q.length : Int)) = false := by
        rw [beq_eq_false_iff_ne]
        intro e
        rw [MB.2 (by omega)] at hB
        cases hB
      rw [hS] at K4
      rw [hB] at KB
      have C4 := hid (K4.mono fun e w' h => h.no)
      have C5 : Hid (∀ w, Ints w (.slice ua q.length uc) (N q) → Calls Try.prog 6 #[.int .i64 m, .slice ua q.length uc] w fun e w' => e = .returned (.tuple #[.int .i64 kb, .int .i64 0]) ∧ Below w.heap.size w w') := KB.out
      have SL := SN
      generalize hL : ([] : List Nat) = L at C4 SL
    case' some =>
      have hB : barF (rk [2 ^ m - 1]) 0 q = none := Classical.byContradiction fun hc => by
        rw [SB.2 hc] at hS
        cases hS
      have hM : ((M : Int) == (q.length : Int)) = true := by
        rw [beq_iff_eq, MB.1 hB]
      rw [hS] at K4
      rw [hB] at KB
      have C4 := hid (K4.mono fun e w' h => h.yes)
      have C5 : Hid (∀ w, Ints w (.slice ua q.length uc) (N q) → Calls Try.prog 6 #[.int .i64 m, .slice ua q.length uc] w fun e w' => e = .returned (.tuple #[.int .i64 0, .int .i64 5]) ∧ Below w.heap.size w w') := KB.out
      have SL := hid (ST.out L hS)
      have hL := hS
    all_goals
      clear hS hB K4 KB SB ST SN hL MB KS hb1
      go_wp2_with fail
      refine C4.out.mono ?_
      rintro e w4 ⟨vL, rfl, ho4, hb4⟩
      have HB4 := hid (HB3.out.trans (hb4.mono HB3.out.size))
      have HL4 := hid (ho4.ints (by have := SL.out.len; omega))
      clear hb4 ho4
      obtain ⟨la, lc, rfl, -, -⟩ := HL4.out.nats
      go_wp2_with fail
      refine (C5.out w4 (HU.out.below HB4.out)).mono ?_
      rintro e w5 ⟨rfl, hb5⟩
      have HB5 := hid (HB4.out.trans (hb5.mono HB4.out.size))
      have HL5 := hid (HL4.out.below hb5)
      clear hb5
      go_wp2_with fail
      refine (KM.out w5 (HU.out.below HB5.out)).mono ?_
      rintro e w6 ⟨rfl, hb6⟩
      have HB6 := hid (HB5.out.trans (hb6.mono HB5.out.size))
      have HL6 := hid (HL5.out.below hb6)
      have HU6 := hid (HU.out.below HB6.out)
      clear hb6
      obtain ⟨_, _, el, _, hcl⟩ := HL6.out.nats
      obtain ⟨rfl, rfl⟩ : la = _ ∧ lc = _ := by simpa using el
      obtain ⟨_, _, eu, _, hcu⟩ := HU6.out.nats
      obtain ⟨rfl, rfl⟩ : ua = _ ∧ uc = _ := by simpa using eu
      clear el eu
      have HCL := hid hcl
      have HCU := hid hcu
      clear hcl hcu
      go_wp2_with fail
      clear hM
      have hql := fun k (hk : k < q.length) => HQL.out (q.getD k 0) (by rw [List.getD_eq_getElem?_getD, List.getElem?_eq_getElem hk]; exact List.getElem_mem _)
      have HQ1 := hid hql
      clear hql
      have U0 : Hid (usT 0 L 0 = 0) := rfl
      have US : Hid (∀ k, usT 0 L (k + 1) = usT 0 L k ||| 2 ^ L.getD k 0) := fun _ => rfl
      have INA := hid (fun s i w hs hi => In_any s i w hs hi)
      go_wp2_with fail
      go_loop [13, 14, 15, 82] (fun s _ _ i => ∃ k : Nat, k ≤ L.length ∧ i = .int .i64 k ∧ s = .int .i64 (usT 0 L k : Nat)) (fun _ _ _ i => L.length - (intOf i).toNat)
      case atStart => exact ⟨0, Nat.zero_le _, rfl, by rw [U0.out]; rfl⟩
      case round =>
        obtain ⟨k, hk2, rfl, rfl⟩ := hrel
        by_cases hlt : k < L.length
        · have hlq := SL.out.len
          obtain ⟨lb, lo, rfl, hlb, hlc⟩ := HCL.out (by omega)
          obtain ⟨ub, uo, rfl, hub, huc⟩ := HCU.out (by omega)
          have y1 := hlc k hlt
          have y2 := huc k (by omega)
          have g1 := SL.out.lt k hlt
          have g2 := SL.out.small k (by omega)
          have g3 := HQ1.out k (by omega)
          have I1 := hid (fun w => INA.out (q.getD k 0) (L.getD k 0) w (by omega) (by omega))
          have I2 := hid (fun w => INA.out (usT 0 L k) (L.getD k 0) w (by omega) (by omega))
          rw [SL.out.isin k hlt] at I1
          rw [SL.out.new k hlt] at I2
          have hp : 2 ^ L.getD k 0 ≤ 128 := Nat.pow_le_pow_right (by decide) (by omega : L.getD k 0 ≤ 7)
          have hor : bits .or .i64 (usT 0 L k : Nat) (2 ^ L.getD k 0 : Nat) = ((usT 0 L k ||| 2 ^ L.getD k 0 : Nat) : Int) := i64_or_nat _ _ (by omega) (by omega)
          have hw1 := (pow_wrap (L.getD k 0) (by omega)).1
          have hw2 : wrap64 (2 ^ min (L.getD k 0) 64) = ((2 ^ L.getD k 0 : Nat) : Int) := by rw [Nat.min_eq_left (by omega)]; exact hw1
          have STP := hid (US.out k)
          have hki : (k : Int) < (L.length : Int) := by omega
          have hkq : (k : Int) < (q.length : Int) := by omega
          clear hlc huc hp
          rw [← STP.out, show ((2 ^ L.getD k 0 : Nat) : Int) = (2 : Int) ^ L.getD k 0 by simp] at hor
          clear STP
          obtain ⟨s1, HS1⟩ : ∃ s1, Hid (usT 0 L (k + 1) = s1) := ⟨_, Eq.refl (usT 0 L (k + 1))⟩
          rw [HS1.out] at hor
          generalize usT 0 L k = s0 at *
          generalize L.getD k 0 = xk at *
          generalize q.getD k 0 = qk at *
          go_wp2_with fail
          refine (I1.out _).mono ?_
          rintro e w' ⟨rfl, hw'⟩
          obtain rfl := hw'.symm
          go_wp2_with fail
          refine (I2.out _).mono ?_
          rintro e w' ⟨rfl, hw'⟩
          obtain rfl := hw'.symm
          go_wp2_with fail
          go_round
          case rel => exact ⟨k + 1, by omega, by go_num, by rw [HS1.out]⟩
          case measure => simp [intOf]; omega
        · obtain rfl : k = L.length := by omega
          generalize usT 0 L L.length = sU at *
          go_wp2_with fail
          refine (KL.out w6 HU6.out).mono ?_
          rintro e w7 ⟨rfl, hb7⟩
          have HB7 := hid (HB6.out.trans (hb7.mono HB6.out.size))
          clear hb7
          go_wp2_with fail
          refine (S1.out _).mono ?_
          rintro e w8 ⟨rfl, hb8⟩
          have HB8 := hid (HB7.out.trans (hb8.mono HB7.out.size))
          clear hb8
          go_wp2_with fail
          refine (S2.out _).mono ?_
          rintro e w9 ⟨rfl, hb9⟩
          have HB9 := hid (HB8.out.trans (hb9.mono HB8.out.size))
          have HU9 := hid (HU.out.below HB9.out)
          clear hb9
          obtain ⟨_, _, eu, _, hcu⟩ := HU9.out.nats
          obtain ⟨rfl, rfl⟩ : ua = _ ∧ uc = _ := by simpa using eu
          clear eu
          have HCV := hid hcu
          clear hcu
          go_wp2_with fail
          go_loop [19, 20, 124] (fun _ _ i => ∃ k : Nat, k ≤ q.length ∧ i = .int .i64 k) (fun _ _ i => q.length - (intOf i).toNat)
          case atStart => exact ⟨0, Nat.zero_le _, rfl⟩
          case round =>
            obtain ⟨k, hk2, rfl⟩ := hrel
            by_cases hlt : k < q.length
            · obtain ⟨ub, uo, rfl, hub, huc⟩ := HCV.out (by omega)
              have y2 := huc k hlt
              have g3 := HQ1.out k hlt
              have I1 := hid (fun w => INA.out rows k w l1 (by omega))
              have CV := hid (COV.out k hlt)
              have WN := hid (fun w => Within_any (q.getD k 0) cols w (by omega) l2)
              have hki : (k : Int) < (q.length : Int) := by omega
              clear huc
              generalize q.getD k 0 = qk at *
              rcases hin : rows.testBit k with _ | _
              · rw [hin] at I1
                have hsub : subB qk cols = true := by
                  rcases CV.out with h | h
                  · rw [hin] at h; cases h
                  · exact h
                rw [hsub] at WN
                clear hin hsub
                go_wp2_with fail
                refine (I1.out _).mono ?_
                rintro e w' ⟨rfl, hw'⟩
                obtain rfl := hw'.symm
                go_wp2_with fail
                refine (WN.out _).mono ?_
                rintro e w' ⟨rfl, hw'⟩
                obtain rfl := hw'.symm
                go_wp2_with fail
                go_round
                case rel => exact ⟨k + 1, by omega, by go_num⟩
                case measure => simp [intOf]; omega
              · rw [hin] at I1
                clear hin
                go_wp2_with fail
                refine (I1.out _).mono ?_
                rintro e w' ⟨rfl, hw'⟩
                obtain rfl := hw'.symm
                go_wp2_with fail
                go_round
                case rel => exact ⟨k + 1, by omega, by go_num⟩
                case measure => simp [intOf]; omega
            · obtain rfl : k = q.length := by omega
              go_wp2_with fail
              refine (KT.out w9 HU9.out).mono ?_
              intro e w10 h10
              obtain ⟨r10, rfl, ho10, hb10⟩ := h10.1 rfl
              have HB10 := hid (HB9.out.trans (hb10.mono HB9.out.size))
              obtain ⟨fa, fc, hf⟩ := ownsRow_form' ho10
              have hcl := (ho10.ints (by omega)).nats
              subst hf
              obtain ⟨_, _, ef, _, hcf⟩ := hcl
              obtain ⟨rfl, rfl⟩ : fa = _ ∧ fc = _ := by simpa using ef
              obtain ⟨gb, go, rfl, hgb, hgc⟩ := hcf (by simp)
              have y0 := hgc 0 (by simp)
              have HB11 := hid (HB10.out.alloc HB10.out.size (.cells #[.int .i64 m, .slice (some ⟨gb, go, none⟩) (b0 :: brest).length fc] 34))
              have z0 := (((Below.refl w10.heap.size w10).alloc (Nat.le_refl _) (.cells #[.int .i64 m, .slice (some ⟨gb, go, none⟩) (b0 :: brest).length fc] 34)).cell (p := ⟨gb, go + 0, none⟩) hgb).trans y0
              clear hgc hcf ef hb10 ho10 h10
              rw [Nat.add_zero] at z0
              simp only [List.length_cons, List.getD_cons_zero] at *
              go_wp2_with fail
              refine (S3.out _).mono ?_
              rintro e w12 ⟨rfl, hb12⟩
              have HF := hid (HB11.out.trans (hb12.mono HB11.out.size))
              clear hb12
              go_wp2_with fail
              go_ret
              exact ⟨rfl, HF.out⟩
  · have R1 := hid (HStand_bad n _ ys w3 hq HU3.out)
    have R2 := hid (HBar_bad n _ ys w3 hq HU3.out)
    have R3 := hid (Most_bad n _ ys w3 HU3.out hq)
    generalize lisR n ys = Q at *
    have e0 : (Q != 0) = true := by rw [bne_iff_ne]; exact hq
    have HF := hid HB3.out
    go_wp2_with fail
    refine R1.out.mono ?_
    rintro e w' ⟨rfl, hw'⟩
    obtain rfl := hw'.symm
    go_wp2_with fail
    refine R2.out.mono ?_
    rintro e w' ⟨rfl, hw'⟩
    obtain rfl := hw'.symm
    go_wp2_with fail
    refine R3.out.mono ?_
    rintro e w' ⟨rfl, hw'⟩
    obtain rfl := hw'.symm
    go_wp2_with fail
    go_ret
    exact ⟨rfl, HF.out⟩
end Go.Proofs.Ytkpfddipfoahlaa
