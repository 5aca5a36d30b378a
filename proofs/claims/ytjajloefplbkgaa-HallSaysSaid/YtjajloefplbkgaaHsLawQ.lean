/- rotalaw.HallSays. -/
import Derived.Test.YtjajloefplbkgaaHaHQ
import Derived.Test.YtjajloefplbkgaaHaIQ
import Derived.Test.YtjajloefplbkgaaRfStbQ
import Derived.Test.YtjajloefplbkgaaRfMatQ
import Derived.Test.YtjajloefplbkgaaRefBigQ
namespace Go.Proofs.Ytjajloefplbkgaa
open Go.RowKit

/-- What the walk up holds: the first that was seen, or -1. -/
def UpB (p : Nat → Bool) (k : Nat) (z : Int) : Prop := (z = -1 ∧ ∀ j, j < k → p j = false) ∨ ∃ t : Nat, z = t ∧ t < k ∧ p t = true ∧ ∀ j, j < t → p j = false
theorem up_start (p : Nat → Bool) : UpB p 0 (-1) := Or.inl ⟨rfl, fun _ h => absurd h (Nat.not_lt_zero _)⟩
theorem up_had {p : Nat → Bool} {k : Nat} {z : Int} (h : UpB p k z) (hz : 0 ≤ z) : UpB p (k + 1) z := by
  rcases h with ⟨rfl, _⟩ | ⟨t, rfl, h1, h2, h3⟩
  · omega
  · exact Or.inr ⟨t, rfl, by omega, h2, h3⟩
theorem up_hit {p : Nat → Bool} {k : Nat} {z : Int} (h : UpB p k z) (hz : z < 0) (hp : p k = true) : UpB p (k + 1) k := by
  rcases h with ⟨rfl, h⟩ | ⟨t, rfl, h1, h2, h3⟩
  · exact Or.inr ⟨k, rfl, by omega, hp, h⟩
  · omega
theorem up_miss {p : Nat → Bool} {k : Nat} {z : Int} (h : UpB p k z) (hz : z < 0) (hp : p k = false) : UpB p (k + 1) z := by
  rcases h with ⟨rfl, h⟩ | ⟨t, rfl, h1, h2, h3⟩
  · refine Or.inl ⟨rfl, fun j hj => ?_⟩
    by_cases e : j = k
    · rw [e]; exact hp
    · exact h j (by omega)
  · omega
theorem up_le {p : Nat → Bool} {k : Nat} {z : Int} (h : UpB p k z) : -1 ≤ z ∧ z < k := by
  rcases h with ⟨rfl, _⟩ | ⟨t, rfl, h1, _⟩ <;> omega
theorem up_some {r : Nat → Nat} {q : List Nat} {kb : Nat} {z : Int} (h : barF r 0 q = some kb) (hd : UpB (barB r 0 q) (2 ^ q.length) z) : z = kb := by
  unfold barF at h
  rw [List.find?_range_eq_some] at h
  rcases hd with ⟨rfl, h2⟩ | ⟨t, rfl, h2, h3, h4⟩
  · have := h2 kb (List.mem_range.1 h.2.1)
    rw [h.1] at this
    cases this
  · have : t = kb := by
      rcases Nat.lt_trichotomy t kb with g | g | g
      · have := h.2.2 t g
        rw [h3] at this
        cases this
      · exact g
      · have := h4 kb g
        rw [h.1] at this
        cases this
    rw [this]
theorem up_none {r : Nat → Nat} {q : List Nat} {z : Int} (h : barF r 0 q = none) (hd : UpB (barB r 0 q) (2 ^ q.length) z) : z = -1 := by
  unfold barF at h
  rw [List.find?_eq_none] at h
  rcases hd with ⟨rfl, h2⟩ | ⟨t, rfl, h2, h3, h4⟩
  · rfl
  · exact absurd h3 (h t (List.mem_range.2 h2))
theorem bar_free {n : Nat} (hn : n ≤ 8) {q : List Nat} (hl : ∀ x ∈ q, x < 2 ^ n) (s : Nat) : barB (rk [2 ^ n - 1]) 0 q s = decide (pop (sevL q s) < pop s) := by
  unfold barB
  have h0 := ((full_bas n hn).2.rkOn n).zero
  rw [Nat.or_zero, h0, Nat.zero_add, full_rk (sev_lt hl s)]
theorem StdE.yes {w w' : World} {L : List Nat} {e : Ending} (h : StdE w (some L) e w') : ∃ v, e = .returned (.tuple #[v, .bool true]) ∧ Own w.heap.size w' v L ∧ Below w.heap.size w w' := by
  obtain ⟨v, e1, h3⟩ := h.1.1 L rfl
  exact ⟨v, e1, h3, h.2⟩
theorem StdE.no {w w' : World} {e : Ending} (h : StdE w none e w') : ∃ v, e = .returned (.tuple #[v, .bool false]) ∧ Own w.heap.size w' v [] ∧ Below w.heap.size w w' := ⟨_, h.1.2 rfl, Own.nil _ _, h.2⟩
theorem hs1_ok (s : Int) (w : World) : Calls Try.prog 11 #[.int .i64 s] w fun e w' => e = .returned (.bool true) ∧ Below w.heap.size w w' := by
  go_enter Try.func11, Try.ntmps11
  go_wp2_with fail
  go_ret
  exact ⟨rfl, Below.refl _ _⟩
set_option maxRecDepth 20000 in
set_option maxHeartbeats 8000000 in
theorem hsays_law (n : Int) (u : Value) (ys : List Int) (w : World) (hu : Ints w u ys) (hcp : ∀ a L c, u = .slice a L c → L ≤ c) :
    Calls Try.prog 3 #[.int .i64 n, u] w fun e w' => e = .returned (.bool true) ∧ Below w.heap.size w w' := by
  have HU := hid hu
  obtain ⟨ua, uc, rfl, -, -⟩ := hu
  have hcap := hcp _ _ _ rfl
  have LS := hid (fun w h => Lists_any n (.slice ua ys.length uc) ys w h)
  have CK := hid (fun w h => hcheck_any n (.slice ua ys.length uc) ys w h)
  clear hcp
  by_cases hq : lisR n ys = 0
  · obtain ⟨m, q, rfl, hm, rfl, hk, hl⟩ := lis_good hq
    have hN : ∀ q : List Nat, (N q).length = q.length := fun q => by simp [N]
    rw [hq] at LS CK
    rw [hN] at *
    have hr : RkOn m (rk [2 ^ m - 1]) := (full_bas m hm).2.rkOn m
    have hl8 : ∀ x ∈ q, x < 256 := fun x hx => lt256 hm (hl x hx)
    have KM := hid (Most_ok m (.slice ua q.length uc) q w hm hk hl HU.out)
    have KT := hid (fun w hu => HStand_ok m ua uc q w hm hk hl hcap hu)
    have KB := hid (fun w hu => HBar_ok m (.slice ua q.length uc) q w hm hk hl hu)
    have KL := hid (fun w hu => Lines_ok m (.slice ua q.length uc) q w hm hk hl hu)
    have KG := hid (fun w hu => Matching_any (.slice ua q.length uc) q w hk hl8 hu)
    have SV := hid (fun s w hs hi => Several_any s (.slice ua q.length uc) q w hs hk hl8 hi)
    have eg : Enters 11 := enters_of Try.func11 (by kernel_rfl) rfl
    have hrs := rfs_sta (g := fun _ => true) hm hr (fun s hs => by rw [full_rk hs]; simp) q 0 (Nat.two_pow_pos m) (rk_null hr) hl hk
    have KS := hid (fun w hi => Stand_any m (.slice ua q.length uc) q 11 #[] (fun _ => true) w hm hk hl hi eg (fun s _ W _ => hs1_ok s W))
    rw [hrs] at KS
    have SB := sta_bar hm hr hl hk
    have HP : 2 ^ q.length ≤ 256 := Nat.pow_le_pow_right (by decide) (by omega : q.length ≤ 8)
    have HP0 : 0 < 2 ^ q.length := Nat.two_pow_pos _
    have AL := hid (fun w => All_nat q.length w hk)
    have SVL : Hid (∀ s, sevL q s < 256) := sev_lt (n := 8) hl8
    have BAT := hid (fun s => bar_free hm hl s)
    have DNS := hid (fun kb z h => up_some (r := rk [2 ^ m - 1]) (q := q) (kb := kb) (z := z) h)
    have DNN := hid (fun z h => up_none (r := rk [2 ^ m - 1]) (q := q) (z := z) h)
    have HLN : Hid (∀ L, staF (rk [2 ^ m - 1]) 0 q = some L → L.length ≤ 8) := fun L h => by rw [(sta_spec hm q 0 L hl h).1]; exact hk
    have HLF : Hid (∀ k, k ≤ 256 → (linF q k).1 < 256 ∧ (linF q k).2 < 256) := linF_lt hl8
    have HST1 : Hid (∀ k, k < 2 ^ q.length → (linF q (k + 1)).1 = if pop k + pop (sevL q (2 ^ q.length - 1 - k)) < pop (linF q k).1 + pop (linF q k).2 then k else (linF q k).1) := fun k hk => by
      rw [linF, dif_cpl hk]
      split <;> rfl
    have HST2 : Hid (∀ k, k < 2 ^ q.length → (linF q (k + 1)).2 = if pop k + pop (sevL q (2 ^ q.length - 1 - k)) < pop (linF q k).1 + pop (linF q k).2 then sevL q (2 ^ q.length - 1 - k) else (linF q k).2) := fun k hk => by
      rw [linF, dif_cpl hk]
      split <;> rfl
    have HS0 : Hid (linF q 0 = (0, sevL q (2 ^ q.length - 1))) := rfl
    clear hq hl hrs eg hl8 hr hcap
    generalize barB (rk [2 ^ m - 1]) 0 q = bb at *
    generalize rk [2 ^ m - 1] = r at *
    generalize mostB q = M at *
    generalize linF q = lf at *
    generalize sevL q = f at *
    generalize 2 ^ q.length = P at *
    rcases hS : staF r 0 q with _ | L
    case' none =>
      have hB : ∃ kb, barF r 0 q = some kb := by
        have := SB.1 hS
        cases hb : barF r 0 q with
        | none => exact absurd hb this
        | some kb => exact ⟨kb, rfl⟩
      obtain ⟨kb, hB⟩ := hB
      have DN := hid (fun z h => DNS.out kb z hB h)
      rw [hS] at KT KS
      rw [hB] at KB
      have C4 := hid (fun w hu => (KT.out w hu).mono fun e w' h => h.no)
      have CS := hid (fun w hi => (KS.out w hi).mono fun e w' h => h.no)
      have C5 : Hid (∀ w, Ints w (.slice ua q.length uc) (N q) → Calls Try.prog 7 #[.int .i64 m, .slice ua q.length uc] w fun e w' => e = .returned (.tuple #[.int .i64 kb, .int .i64 0]) ∧ Below w.heap.size w w') := KB.out
    case' some =>
      have hB : barF r 0 q = none := Classical.byContradiction fun hc => by
        rw [SB.2 hc] at hS
        cases hS
      have DN := hid (fun z h => DNN.out z hB h)
      have hL8 := HLN.out L hS
      rw [hS] at KT KS
      rw [hB] at KB
      have C4 := hid (fun w hu => (KT.out w hu).mono fun e w' h => h.yes)
      have CS := hid (fun w hi => (KS.out w hi).mono fun e w' h => h.yes)
      have C5 : Hid (∀ w, Ints w (.slice ua q.length uc) (N q) → Calls Try.prog 7 #[.int .i64 m, .slice ua q.length uc] w fun e w' => e = .returned (.tuple #[.int .i64 0, .int .i64 5]) ∧ Below w.heap.size w w') := KB.out
    all_goals
      clear hS hB KB SB KT KS DNS DNN HLN
      go_enter Try.func3, Try.ntmps3
      go_wp2_with fail
      refine (LS.out _ HU.out).mono ?_
      rintro e w' ⟨rfl, hw'⟩
      obtain rfl := hw'.symm
      go_wp2_with fail
      refine KM.out.mono ?_
      rintro e w1 ⟨rfl, hb1⟩
      have HB1 := hid hb1
      clear hb1
      go_wp2_with fail
      refine (C4.out _ (HU.out.below HB1.out)).mono ?_
      rintro e w4 ⟨vL, rfl, ho4, hb4⟩
      have HB4 := hid (HB1.out.trans (hb4.mono HB1.out.size))
      obtain ⟨la, lc, hvL⟩ := ownsRow_form' ho4
      have HL4 := hid (ho4.ints (by first | omega | simp))
      subst hvL
      clear hb4 ho4
      go_wp2_with fail
      refine (C5.out w4 (HU.out.below HB4.out)).mono ?_
      rintro e w5 ⟨rfl, hb5⟩
      have HB5 := hid (HB4.out.trans (hb5.mono HB4.out.size))
      have HL5 := hid (HL4.out.below hb5)
      clear hb5
      go_wp2_with fail
      refine (KL.out w5 (HU.out.below HB5.out)).mono ?_
      rintro e w6 ⟨rfl, hb6⟩
      have HB6 := hid (HB5.out.trans (hb6.mono HB5.out.size))
      have HL6 := hid (HL5.out.below hb6)
      clear hb6
      go_wp2_with fail
      refine (CS.out w6 (HU.out.below HB6.out)).mono ?_
      rintro e w8 ⟨v8, rfl, ho8, hb8⟩
      have HB8 := hid (HB6.out.trans (hb8.mono HB6.out.size))
      have HL8 := hid (HL6.out.below hb8)
      have HW8 := hid (ho8.ints (by first | omega | simp))
      clear hb8 ho8
      go_wp2_with fail
      refine (AL.out _).mono ?_
      rintro e w' ⟨rfl, hw'⟩
      obtain rfl := hw'.symm
      go_wp2_with fail
      refine (SV.out (P - 1) _ (by omega) (HU.out.below HB8.out)).mono ?_
      rintro e w' ⟨rfl, hw'⟩
      obtain rfl := hw'.symm
      go_wp2_with fail
      go_loopw [17, 18, 19, 20, 21, 22] (fun zz uu vv ss _ _ wr => ∃ (k : Nat) (z : Int), k ≤ P ∧ ss = .int .i64 k ∧ zz = .int .i64 z ∧ uu = .int .i64 (lf k).1 ∧ vv = .int .i64 (lf k).2 ∧ Hid (UpB bb k z) ∧ Hid (Below w8.heap.size w8 wr)) (fun _ _ _ ss _ _ _ => P - (intOf ss).toNat)
      case atStart => exact ⟨0, -1, Nat.zero_le _, rfl, rfl, by rw [HS0.out]; rfl, by rw [HS0.out], up_start _, Below.refl _ _⟩
      case round =>
        obtain ⟨k, z, hkP, rfl, rfl, rfl, rfl, HD, HW⟩ := hrel
        have HUr := hid (HU.out.below (HB8.out.trans (HW.out.mono HB8.out.size)))
        go_wp2_with fail
        refine (AL.out _).mono ?_
        rintro e w' ⟨rfl, hw'⟩
        obtain rfl := hw'.symm
        by_cases hlt : k < P
        · have hki : (k : Int) ≤ ((P - 1 : Nat) : Int) := by omega
          have hmeas : P - (k + 1) < P - k := by omega
          have q3 := SVL.out k
          have q4 := SVL.out (P - 1 - k)
          obtain ⟨q5, q6⟩ := HLF.out k (by omega)
          have p1 := pop_le_8 k (by omega)
          have p2 := pop_le_8 _ q3
          have p4 := pop_le_8 _ q4
          have p5 := pop_le_8 _ q5
          have p6 := pop_le_8 _ q6
          have Sk := hid (fun w => Size_any k w (by omega))
          have St := hid (fun w => Size_any (f k) w q3)
          have So := hid (fun w => Size_any (f (P - 1 - k)) w q4)
          have Su := hid (fun w => Size_any (lf k).1 w q5)
          have Sv := hid (fun w => Size_any (lf k).2 w q6)
          have V1 := hid (fun w hi => SV.out k w (by omega) hi)
          have V2 := hid (fun w hi => SV.out (P - 1 - k) w (by omega) hi)
          have BJ := hid (BAT.out k)
          have ST1 := hid (HST1.out k hlt)
          have ST2 := hid (HST2.out k hlt)
          have hsb : ((P - 1 : Nat) : Int) - (k : Int) = ((P - 1 - k : Nat) : Int) := by omega
          have hup := up_le HD.out
          generalize f (P - 1 - k) = o at *
          generalize f k = t at *
          generalize P - 1 - k = kk at *
          generalize (lf k).1 = ru at *
          generalize (lf k).2 = rv at *
          have key : ∃ z' : Int, Hid (UpB bb (k + 1) z') ∧ ((0 ≤ z ∧ z' = z) ∨ (z < 0 ∧ pop t < pop k ∧ z' = k) ∨ (z < 0 ∧ ¬ pop t < pop k ∧ z' = z)) := by
            by_cases h0 : 0 ≤ z
            · exact ⟨z, up_had HD.out h0, Or.inl ⟨h0, rfl⟩⟩
            · by_cases hp : pop t < pop k
              · exact ⟨k, up_hit HD.out (by omega) (by rw [BJ.out]; exact decide_eq_true hp), Or.inr (Or.inl ⟨by omega, hp, rfl⟩)⟩
              · exact ⟨z, up_miss HD.out (by omega) (by rw [BJ.out]; exact decide_eq_false hp), Or.inr (Or.inr ⟨by omega, hp, rfl⟩)⟩
          obtain ⟨z', HZ', hcs⟩ := key
          go_wp2_with fail
          refine (V1.out _ HUr.out).mono ?_
          rintro e w' ⟨rfl, hw'⟩
          obtain rfl := hw'.symm
          rcases hcs with ⟨h0, rfl⟩ | ⟨h0, hp, rfl⟩ | ⟨h0, hp, rfl⟩
          case' inl =>
            have h0' : ¬ z' < 0 := by omega
            have HWa := HW
            go_wp2_with fail
          case' inr.inl =>
            have hpi : (pop t : Int) < (pop k : Int) := by omega
            go_wp2_with fail
            refine (St.out _).mono ?_
            rintro e wa ⟨rfl, hba⟩
            have HWb := hid (HW.out.trans (hba.mono HW.out.size))
            clear hba
            go_wp2_with fail
            refine (Sk.out _).mono ?_
            rintro e wb ⟨rfl, hba⟩
            have HWa := hid (HWb.out.trans (hba.mono HWb.out.size))
            clear hba
            go_wp2_with fail
          case' inr.inr =>
            have hpi : ¬ (pop t : Int) < (pop k : Int) := by omega
            go_wp2_with fail
            refine (St.out _).mono ?_
            rintro e wa ⟨rfl, hba⟩
            have HWb := hid (HW.out.trans (hba.mono HW.out.size))
            clear hba
            go_wp2_with fail
            refine (Sk.out _).mono ?_
            rintro e wb ⟨rfl, hba⟩
            have HWa := hid (HWb.out.trans (hba.mono HWb.out.size))
            clear hba
            go_wp2_with fail
          all_goals
            refine (AL.out _).mono ?_
            rintro e w' ⟨rfl, hw'⟩
            obtain rfl := hw'.symm
            have HUa := hid (HU.out.below (HB8.out.trans (HWa.out.mono HB8.out.size)))
            go_wp2_with fail
            refine (V2.out _ HUa.out).mono ?_
            rintro e w' ⟨rfl, hw'⟩
            obtain rfl := hw'.symm
            go_wp2_with fail
            refine (Sk.out _).mono ?_
            rintro e wc ⟨rfl, hbc⟩
            have HWc := hid (HWa.out.trans (hbc.mono HWa.out.size))
            clear hbc
            go_wp2_with fail
            refine (So.out _).mono ?_
            rintro e wd ⟨rfl, hbc⟩
            have HWd := hid (HWc.out.trans (hbc.mono HWc.out.size))
            clear hbc
            go_wp2_with fail
            refine (Su.out _).mono ?_
            rintro e we ⟨rfl, hbc⟩
            have HWe := hid (HWd.out.trans (hbc.mono HWd.out.size))
            clear hbc
            go_wp2_with fail
            refine (Sv.out _).mono ?_
            rintro e wf ⟨rfl, hbc⟩
            have HWf := hid (HWe.out.trans (hbc.mono HWe.out.size))
            clear hbc
            by_cases hless : pop k + pop o < pop ru + pop rv
            · have hli : (pop k : Int) + (pop o : Int) < (pop ru : Int) + (pop rv : Int) := by omega
              rw [if_pos hless] at ST1 ST2
              go_wp2_with fail
              go_roundw
              case rel => exact ⟨k + 1, _, hlt, by go_num, rfl, by rw [ST1.out], by rw [ST2.out], HZ', HWf⟩
              case measure => simpa [intOf] using hmeas
            · have hli : ¬ (pop k : Int) + (pop o : Int) < (pop ru : Int) + (pop rv : Int) := by omega
              rw [if_neg hless] at ST1 ST2
              go_wp2_with fail
              go_roundw
              case rel => exact ⟨k + 1, _, hlt, by go_num, rfl, by rw [ST1.out], by rw [ST2.out], HZ', HWf⟩
              case measure => simpa [intOf] using hmeas
        · obtain rfl : k = P := by omega
          have hki : ¬ (k : Int) ≤ ((k - 1 : Nat) : Int) := by omega
          have hz := DN.out z HD.out
          subst hz
          have HLr := hid (HL8.out.below HW.out)
          have HWr := hid (HW8.out.below HW.out)
          have HBr := hid (HB8.out.trans (HW.out.mono HB8.out.size))
          first
            | (have hkb : (0 : Int) ≤ (kb : Int) := by omega
               have hmx : max (kb : Int) 0 = (kb : Int) := by omega)
            | skip
          obtain ⟨ru, HRU⟩ : ∃ ru, Hid ((lf k).1 = ru) := ⟨_, Eq.refl _⟩
          obtain ⟨rv, HRV⟩ : ∃ rv, Hid ((lf k).2 = rv) := ⟨_, Eq.refl _⟩
          go_wp2_with fail
          refine (CK.out _ HUr.out).mono ?_
          rintro e w' ⟨rfl, hw'⟩
          obtain rfl := hw'.symm
          go_wp2_with fail
          refine (KG.out _ HUr.out).mono ?_
          rintro e w9 ⟨rfl, hb9⟩
          have HB9 := hid (HBr.out.trans (hb9.mono HBr.out.size))
          have HL9 := hid (HLr.out.below hb9)
          have HW9 := hid (HWr.out.below hb9)
          clear hb9
          go_wp2_with fail
          refine (one_same (M : Int) 0 _ (fun h => absurd rfl h)).mono ?_
          rintro e w' ⟨rfl, hw'⟩
          obtain rfl := hw'.symm
          go_wp2_with fail
          first
            | with_reducible refine (bad_t 5 _).mono ?_
            | with_reducible refine (bad_f 5 _).mono ?_
          rintro e w' ⟨rfl, hw'⟩
          obtain rfl := hw'.symm
          go_wp2_with fail
          first
            | with_reducible refine (list_yes _ _ L _ HL9.out HW9.out).mono ?_
            | with_reducible refine (list_no 5 la lc v8 _ (by decide)).mono ?_
          rintro e w10 ⟨rfl, hb10⟩
          have HF := hid (HB9.out.trans (hb10.mono HB9.out.size))
          clear hb10
          go_wp2_with fail
          first
            | with_reducible refine (bad_t 5 _).mono ?_
            | with_reducible refine (bad_f 5 _).mono ?_
          rintro e w' ⟨rfl, hw'⟩
          obtain rfl := hw'.symm
          go_wp2_with fail
          first
            | with_reducible refine (one_same (kb : Int) 0 _ (fun h => absurd rfl h)).mono ?_
            | with_reducible refine (one_same 0 5 _ (by decide)).mono ?_
          rintro e w' ⟨rfl, hw'⟩
          obtain rfl := hw'.symm
          go_wp2_with fail
          refine (one_same ((lf k).1 : Int) 0 _ (fun h => absurd rfl h)).mono ?_
          rintro e w' ⟨rfl, hw'⟩
          obtain rfl := hw'.symm
          go_wp2_with fail
          refine (one_same ((lf k).2 : Int) 0 _ (fun h => absurd rfl h)).mono ?_
          rintro e w' ⟨rfl, hw'⟩
          obtain rfl := hw'.symm
          go_wp2_with fail
          go_ret
          exact ⟨rfl, HF.out⟩
  · have R1 := hid (HStand_bad n _ ys w hq HU.out)
    have R2 := hid (HBar_bad n _ ys w hq HU.out)
    have R3 := hid (Most_bad n _ ys w HU.out hq)
    have R4 := hid (Lines_bad n _ ys w HU.out hq)
    generalize lisR n ys = Q at *
    have e0 : (Q != 0) = true := by rw [bne_iff_ne]; exact hq
    have e1 : (Q == Q) = true := by simp
    go_enter Try.func3, Try.ntmps3
    go_wp2_with fail
    refine (LS.out _ HU.out).mono ?_
    rintro e w' ⟨rfl, hw'⟩
    obtain rfl := hw'.symm
    go_wp2_with fail
    refine R3.out.mono ?_
    rintro e w' ⟨rfl, hw'⟩
    obtain rfl := hw'.symm
    go_wp2_with fail
    refine R1.out.mono ?_
    rintro e w' ⟨rfl, hw'⟩
    obtain rfl := hw'.symm
    go_wp2_with fail
    refine R2.out.mono ?_
    rintro e w' ⟨rfl, hw'⟩
    obtain rfl := hw'.symm
    go_wp2_with fail
    refine R4.out.mono ?_
    rintro e w' ⟨rfl, hw'⟩
    obtain rfl := hw'.symm
    go_wp2_with fail
    refine (CK.out _ HU.out).mono ?_
    rintro e w' ⟨rfl, hw'⟩
    obtain rfl := hw'.symm
    go_wp2_with fail
    go_ret
    exact ⟨rfl, Below.refl _ _⟩
end Go.Proofs.Ytjajloefplbkgaa
