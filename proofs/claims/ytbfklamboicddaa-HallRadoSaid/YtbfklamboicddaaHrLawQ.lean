/- rotalaw.HallRado. -/
import Derived.Test.YtbfklamboicddaaHaHQ
import Derived.Test.YtbfklamboicddaaHaIQ
import Derived.Test.YtbfklamboicddaaRfStbQ
import Derived.Test.YtbfklamboicddaaRfSevQ
import Derived.Test.YtbfklamboicddaaRefAxEQ
import Derived.Test.YtbfklamboicddaaRefBigQ
namespace Go.Proofs.Ytbfklamboicddaa
open Go.RowKit

/-- What the walk down holds: the least that was seen, or -1. -/
def DnB (p : Nat → Bool) (k P : Nat) (z : Int) : Prop := (z = -1 ∧ ∀ j, k ≤ j → j < P → p j = false) ∨ ∃ t : Nat, z = t ∧ k ≤ t ∧ t < P ∧ p t = true ∧ ∀ j, k ≤ j → j < t → p j = false
theorem dn_start (p : Nat → Bool) (P : Nat) : DnB p P P (-1) := Or.inl ⟨rfl, fun j h1 h2 => by omega⟩
theorem dn_hit {p : Nat → Bool} {k P : Nat} {z : Int} (_h : DnB p (k + 1) P z) (hk : k < P) (hp : p k = true) : DnB p k P k := Or.inr ⟨k, rfl, Nat.le_refl _, hk, hp, fun j h1 h2 => by omega⟩
theorem dn_miss {p : Nat → Bool} {k P : Nat} {z : Int} (h : DnB p (k + 1) P z) (hp : p k = false) : DnB p k P z := by
  have key : ∀ j, k ≤ j → j = k ∨ k + 1 ≤ j := fun j hj => by omega
  rcases h with ⟨e, h⟩ | ⟨t, e, h1, h2, h3, h4⟩
  · exact Or.inl ⟨e, fun j hj1 hj2 => by
      rcases key j hj1 with rfl | h5
      · exact hp
      · exact h j h5 hj2⟩
  · exact Or.inr ⟨t, e, by omega, h2, h3, fun j hj1 hj2 => by
      rcases key j hj1 with rfl | h5
      · exact hp
      · exact h4 j h5 hj2⟩
theorem dn_le {p : Nat → Bool} {k P : Nat} {z : Int} (h : DnB p k P z) : -1 ≤ z ∧ z < P := by
  rcases h with ⟨rfl, _⟩ | ⟨t, rfl, _, h2, _⟩ <;> omega
theorem dn_some {r : Nat → Nat} {q : List Nat} {kb : Nat} {z : Int} (h : barF r 0 q = some kb) (hd : DnB (barB r 0 q) 0 (2 ^ q.length) z) : z = kb := by
  unfold barF at h
  rw [List.find?_range_eq_some] at h
  rcases hd with ⟨rfl, h2⟩ | ⟨t, rfl, _, h2, h3, h4⟩
  · have := h2 kb (Nat.zero_le _) (List.mem_range.1 h.2.1)
    rw [h.1] at this
    cases this
  · have : t = kb := by
      rcases Nat.lt_trichotomy t kb with g | g | g
      · have := h.2.2 t g
        rw [h3] at this
        cases this
      · exact g
      · have := h4 kb (Nat.zero_le _) g
        rw [h.1] at this
        cases this
    rw [this]
theorem dn_none {r : Nat → Nat} {q : List Nat} {z : Int} (h : barF r 0 q = none) (hd : DnB (barB r 0 q) 0 (2 ^ q.length) z) : z = -1 := by
  unfold barF at h
  rw [List.find?_eq_none] at h
  rcases hd with ⟨rfl, h2⟩ | ⟨t, rfl, _, h2, h3, h4⟩
  · rfl
  · exact absurd h3 (h t (List.mem_range.2 h2))
theorem bar_at {n : Nat} {r : Nat → Nat} {q : List Nat} (hr : RkOn n r) (s : Nat) : barB r 0 q s = decide (r (sevL q s) < pop s) := by
  unfold barB
  have h0 := hr.zero
  rw [Nat.or_zero, h0, Nat.zero_add]
theorem StdE.yes {w w' : World} {L : List Nat} {e : Ending} (h : StdE w (some L) e w') : ∃ v, e = .returned (.tuple #[v, .bool true]) ∧ Own w.heap.size w' v L ∧ Below w.heap.size w w' := by
  obtain ⟨v, e1, h3⟩ := h.1.1 L rfl
  exact ⟨v, e1, h3, h.2⟩
theorem StdE.no {w w' : World} {e : Ending} (h : StdE w none e w') : ∃ v, e = .returned (.tuple #[v, .bool false]) ∧ Own w.heap.size w' v [] ∧ Below w.heap.size w w' := ⟨_, h.1.2 rfl, Own.nil _ _, h.2⟩
set_option maxRecDepth 20000 in
set_option maxHeartbeats 8000000 in
theorem hrado_law (n : Int) (v : Value) (zs : List Int) (u : Value) (ys : List Int) (w : World) (h : Ints w v zs) (hu : Ints w u ys) (hcp : ∀ a L c, u = .slice a L c → L ≤ c) :
    Calls Try.prog 3 #[.agg #[.int .i64 n, v], u] w fun e w' => e = .returned (.bool true) ∧ Below w.heap.size w w' := by
  have HB0 := hid (below_box w #[.int .i64 n, v])
  have HI := hid (h.below HB0.out)
  have HU := hid (hu.below HB0.out)
  obtain ⟨a, cap, rfl, -, -⟩ := h
  obtain ⟨ua, uc, rfl, -, -⟩ := hu
  have hcap := hcp _ _ _ rfl
  have MR := hid (Matroid_ref n _ zs _ HI.out)
  have LS := hid (fun w h => Lists_any n (.slice ua ys.length uc) ys w h)
  clear hcp
  by_cases hc : chkR n zs = 0
  · by_cases hq : lisR n ys = 0
    · have hE : radE n zs ys = 0 := by unfold radE; rw [if_pos hc]; exact hq
      obtain ⟨m, l, q, rfl, hm, rfl, hf, hb, rfl, hk, hl⟩ := rad_good hE
      have hN : ∀ q : List Nat, (N q).length = q.length := fun q => by simp [N]
      rw [hc] at MR
      rw [hq] at LS
      rw [hN l] at *
      rw [hN q] at *
      have hr := hb.rkOn m
      have hl8 : ∀ x ∈ q, x < 256 := fun x hx => lt256 hm (hl x hx)
      have KR := hid (fun w h hu => Rado_ok m (.slice a l.length cap) ua uc l q w hm hf hb hk hl hcap h hu)
      have KB := hid (fun w h hu => RadoBar_ok m (.slice a l.length cap) (.slice ua q.length uc) l q w hm hf hb hk hl h hu)
      have KK := hid (fun w h => Ranks_ref m (.slice a l.length cap) l w hm hb.lt h)
      have SV := hid (fun s w hs hi => Several_any s (.slice ua q.length uc) q w hs hk hl8 hi)
      have hT : 2 ^ m ≤ 256 := Nat.pow_le_pow_right (by decide) hm
      have h8 := hid (rk8 (m := m) hb)
      have hrs := rfs_sta (g := fun s => rk l s == pop s) hm hr (fun s _ => rfl) q 0 (Nat.two_pow_pos m) (rk_null hr) hl hk
      have eg : Enters 10 := enters_of Try.func10 (by kernel_rfl) rfl
      have KS := hid (fun (bR : Nat) (v : Value) (w : World) (hbR : bR < w.heap.size) (hcR : w.cell? ⟨bR, 0, none⟩ = some v) (hR : RkAt w v (2 ^ m) (rk l)) hi => Stand_any m (.slice ua q.length uc) q 10 #[.pointer (some ⟨bR, 0, none⟩)] (fun s => rk l s == pop s) w hm hk hl hi eg
        (fun s hs W hW => rado1_ok (2 ^ m) s bR v (rk l) W hs hT (h8.out s hs) ((hW.cell (p := ⟨bR, 0, none⟩) hbR).trans hcR) (Nat.lt_of_lt_of_le hbR hW.size) (hR.below hW)))
      rw [hrs] at KS
      have SB := sta_bar hm hr hl hk
      have HP : 2 ^ q.length ≤ 256 := Nat.pow_le_pow_right (by decide) (by omega : q.length ≤ 8)
      have HP0 : 0 < 2 ^ q.length := Nat.two_pow_pos _
      have AL := hid (fun w => All_nat q.length w hk)
      have SVL : Hid (∀ s, sevL q s < 2 ^ m) := sev_lt hl
      have BAT := hid (bar_at (q := q) hr)
      have DNS := hid (fun kb z h => dn_some (r := rk l) (q := q) (kb := kb) (z := z) h)
      have DNN := hid (fun z h => dn_none (r := rk l) (q := q) (z := z) h)
      have HLN : Hid (∀ L, staF (rk l) 0 q = some L → L.length ≤ 8) := fun L h => by rw [(sta_spec hm q 0 L hl h).1]; exact hk
      clear hq hc hf hb hl hE hrs eg hl8 hr hcap
      generalize barB (rk l) 0 q = bb at *
      generalize rk l = r at *
      generalize sevL q = f at *
      generalize 2 ^ q.length = P at *
      rcases hS : staF r 0 q with _ | L
      case' none =>
        have hB : ∃ kb, barF r 0 q = some kb := by
          have := SB.1 hS
          cases hb : barF r 0 q with
          | none => exact absurd hb this
          | some kb => exact ⟨kb, rfl⟩
        obtain ⟨kb, hB⟩ := hB
        have DN := hid (fun z h => DNS.out kb z hB h)
        rw [hS] at KR KS
        rw [hB] at KB
        have C4 := hid (fun w h hu => (KR.out w h hu).mono fun e w' h => h.no)
        have CS := hid (fun bR v w hbR hcR hR hi => (KS.out bR v w hbR hcR hR hi).mono fun e w' h => h.no)
        have C5 : Hid (∀ w, Ints w (.slice a l.length cap) (N l) → Ints w (.slice ua q.length uc) (N q) → Calls Try.prog 7 #[.agg #[.int .i64 m, .slice a l.length cap], .slice ua q.length uc] w fun e w' => e = .returned (.tuple #[.int .i64 kb, .int .i64 0]) ∧ Below w.heap.size w w') := KB.out
      case' some =>
        have hB : barF r 0 q = none := Classical.byContradiction fun hc => by
          rw [SB.2 hc] at hS
          cases hS
        have DN := hid (fun z h => DNN.out z hB h)
        have hL8 := HLN.out L hS
        rw [hS] at KR KS
        rw [hB] at KB
        have C4 := hid (fun w h hu => (KR.out w h hu).mono fun e w' h => h.yes)
        have CS := hid (fun bR v w hbR hcR hR hi => (KS.out bR v w hbR hcR hR hi).mono fun e w' h => h.yes)
        have C5 : Hid (∀ w, Ints w (.slice a l.length cap) (N l) → Ints w (.slice ua q.length uc) (N q) → Calls Try.prog 7 #[.agg #[.int .i64 m, .slice a l.length cap], .slice ua q.length uc] w fun e w' => e = .returned (.tuple #[.int .i64 0, .int .i64 5]) ∧ Below w.heap.size w w') := KB.out
      all_goals
        clear hS hB KB SB KR KS DNS DNN HLN
        go_enter Try.func3, Try.ntmps3
        go_wp2_with fail
        refine MR.out.mono ?_
        rintro e w1 ⟨rfl, hb1⟩
        have HB1 := hid hb1
        obtain ⟨x0, x1⟩ := box_cells hb1
        clear hb1
        go_wp2_with fail
        refine (LS.out _ (HU.out.below HB1.out)).mono ?_
        rintro e w' ⟨rfl, hw'⟩
        obtain rfl := hw'.symm
        go_wp2_with fail
        refine (C4.out _ (HI.out.below HB1.out) (HU.out.below HB1.out)).mono ?_
        rintro e w4 ⟨vL, rfl, ho4, hb4⟩
        have HB4 := hid (HB1.out.trans (hb4.mono HB1.out.size))
        obtain ⟨la, lc, hvL⟩ := ownsRow_form' ho4
        have HL4 := hid (ho4.ints (by first | omega | simp))
        subst hvL
        clear hb4 ho4 x0 x1
        obtain ⟨x0, x1⟩ := box_cells HB4.out
        go_wp2_with fail
        refine (C5.out w4 (HI.out.below HB4.out) (HU.out.below HB4.out)).mono ?_
        rintro e w5 ⟨rfl, hb5⟩
        have HB5 := hid (HB4.out.trans (hb5.mono HB4.out.size))
        have HL5 := hid (HL4.out.below hb5)
        clear hb5 x0 x1
        obtain ⟨x0, x1⟩ := box_cells HB5.out
        go_wp2_with fail
        refine (KK.out w5 (HI.out.below HB5.out)).mono ?_
        rintro e w6 ⟨r6, rfl, hr6, hb6⟩
        have HB6 := hid (HB5.out.trans (hb6.mono HB5.out.size))
        have hal := (Below.refl w6.heap.size w6).alloc (Nat.le_refl _) (.cells #[r6] 22)
        have HB7 := hid (HB6.out.alloc HB6.out.size (.cells #[r6] 22))
        have HL7 := hid ((HL5.out.below hb6).below hal)
        have HR7 := hid (hr6.below hal)
        have bx := Boxed.new w6 22 r6
        have S7 := hid (CS.out w6.heap.size r6 _ (by simp) bx.cell HR7.out (HU.out.below HB7.out))
        have BX := hid bx
        obtain ⟨x0', x1'⟩ := box_cells HB7.out
        obtain ⟨rb, roff, rcap, rfl, -, -⟩ := hr6
        have hmf : ∀ (fn : Fn) (first cap : Array Value) (w : World), (Instr.makeFunc fn first cap).run Try.prog w = .ok (.func fn first cap) w := fun _ _ _ _ => rfl
        clear hb6 x0 x1 hal bx
        go_wp2_with fail
        refine S7.out.mono ?_
        rintro e w8 ⟨v8, rfl, ho8, hb8⟩
        have HB8 := hid (HB7.out.trans (hb8.mono HB7.out.size))
        have HL8 := hid (HL7.out.below hb8)
        have HW8 := hid (ho8.ints (by first | omega | simp))
        have HR8 := hid (HR7.out.below hb8)
        have BX8 : Hid (Boxed w8 w6.heap.size 22 (.slice (some ⟨rb, roff, none⟩) (2 ^ m) rcap)) := (hb8.block _ (by simp)).trans BX.out
        clear hb8 ho8 x0' x1'
        go_wp2_with fail
        refine (AL.out _).mono ?_
        rintro e w' ⟨rfl, hw'⟩
        obtain rfl := hw'.symm
        go_wp2_with fail
        go_loopw [13, 14] (fun zz ss wr => ∃ (k : Nat) (z : Int), k ≤ P ∧ ss = .int .i64 ((k : Int) - 1) ∧ zz = .int .i64 z ∧ Hid (DnB bb k P z) ∧ Hid (Below w8.heap.size w8 wr)) (fun _ ss _ => (intOf ss + 1).toNat)
        case atStart => exact ⟨P, -1, Nat.le_refl _, by go_num, rfl, dn_start _ _, Below.refl _ _⟩
        case round =>
          obtain ⟨k, z, hkP, rfl, rfl, HD, HW⟩ := hrel
          cases k with
          | zero =>
            have h1 : (((0 : Nat) : Int) - 1 ≥ 0) = False := by simp
            have hz := DN.out z HD.out
            subst hz
            have HLr := hid (HL8.out.below HW.out)
            have HWr := hid (HW8.out.below HW.out)
            have HBr := hid (HB8.out.trans (HW.out.mono HB8.out.size))
            first
              | (have hkb : (0 : Int) ≤ (kb : Int) := by omega
                 have hmx : max (kb : Int) 0 = (kb : Int) := by omega)
              | skip
            go_wp2_with fail
            first
              | with_reducible refine (bad_t 5 _).mono ?_
              | with_reducible refine (bad_f 5 _).mono ?_
            rintro e w' ⟨rfl, hw'⟩
            obtain rfl := hw'.symm
            go_wp2_with fail
            first
              | with_reducible refine (list_yes _ _ L _ HLr.out HWr.out).mono ?_
              | with_reducible refine (list_no 5 la lc v8 _ (by decide)).mono ?_
            rintro e w9 ⟨rfl, hb9⟩
            have HF := hid (HB0.out.trans ((HBr.out.trans (hb9.mono HBr.out.size)).mono HB0.out.size))
            clear hb9
            go_wp2_with fail
            first
              | with_reducible refine (bad_t 5 _).mono ?_
              | with_reducible refine (bad_f 5 _).mono ?_
            rintro e w' ⟨rfl, hw'⟩
            obtain rfl := hw'.symm
            go_wp2_with fail
            first
              | with_reducible refine (one_same (kb : Int) 0 _ (fun h => absurd rfl h)).mono ?_
              | with_reducible refine (one_same 0 5 _ (by decide)).mono ?_
            rintro e w' ⟨rfl, hw'⟩
            obtain rfl := hw'.symm
            go_wp2_with fail
            go_ret
            exact ⟨rfl, HF.out⟩
          | succ j =>
            rw [show ((j + 1 : Nat) : Int) - 1 = (j : Int) by omega]
            have hj0 : (0 : Int) ≤ (j : Int) := by omega
            have hmeas : ((j : Int) - 1 + 1).toNat < ((j : Int) + 1).toNat := by omega
            have q1 := SVL.out j
            have q2 := h8.out _ q1
            have p1 := pop_le_8 j (by omega)
            have cR := rk_later HR8.out HW.out q1
            have cB : ∀ x : Later wr, x.now.cell? ⟨w6.heap.size, 0, none⟩ = some (.slice (some ⟨rb, roff, none⟩) (2 ^ m) rcap) := fun x => (x.kept.cell (p := ⟨w6.heap.size, 0, none⟩) (Nat.lt_of_lt_of_le BX8.out.lt HW.out.size)).trans ((HW.out.cell (p := ⟨w6.heap.size, 0, none⟩) BX8.out.lt).trans BX8.out.cell)
            have HUr := hid (HU.out.below (HB8.out.trans (HW.out.mono HB8.out.size)))
            have SK := hid (fun x : Later wr => SV.out j x.now (by omega) (HUr.out.below x.kept))
            have S1 := hid (fun w => Size_any j w (by omega))
            have BJ := hid (BAT.out j)
            generalize f j = y at *
            generalize r y = ry at *
            by_cases hless : ry < pop j
            · have hli : (ry : Int) < (pop j : Int) := by omega
              have HJ : Hid (bb j = true) := by show _ = _; rw [BJ.out]; exact decide_eq_true hless
              go_wp2_with fail
              refine region_later (by kernel_rfl) (by kernel_rfl) ?_
              repeat (go_big_quiet_step ((first
                | (go_at_call 11; (with_reducible refine (S1.out _).mono ?_); rintro e w' ⟨rfl, hb9⟩; exact ⟨rfl, Later.on _ hb9⟩)
                | (go_at_call 13; (with_reducible refine (SK.out _).mono ?_); rintro e w' ⟨rfl, rfl⟩; exact ⟨rfl, Later.on _ (Below.refl _ _)⟩))))
              refine wpQuiet_nil ?_
              intro w9' hw'
              obtain ⟨⟨w9, hb9⟩, hw''⟩ := hw'
              dsimp only at hw''
              subst hw''
              have HB9 := hid (HW.out.trans (hb9.mono HW.out.size))
              have HD2 := hid (dn_hit HD.out (by omega) HJ.out)
              clear hb9 cR cB
              go_wp2_with fail
              go_roundw
              case rel => exact ⟨j, j, by omega, by go_num, rfl, HD2.out, HB9⟩
              case measure => exact hmeas
            · have hli : ¬ (ry : Int) < (pop j : Int) := by omega
              have HJ : Hid (bb j = false) := by show _ = _; rw [BJ.out]; exact decide_eq_false hless
              go_wp2_with fail
              refine region_later (by kernel_rfl) (by kernel_rfl) ?_
              repeat (go_big_quiet_step ((first
                | (go_at_call 11; (with_reducible refine (S1.out _).mono ?_); rintro e w' ⟨rfl, hb9⟩; exact ⟨rfl, Later.on _ hb9⟩)
                | (go_at_call 13; (with_reducible refine (SK.out _).mono ?_); rintro e w' ⟨rfl, rfl⟩; exact ⟨rfl, Later.on _ (Below.refl _ _)⟩))))
              refine wpQuiet_nil ?_
              intro w9' hw'
              obtain ⟨⟨w9, hb9⟩, hw''⟩ := hw'
              dsimp only at hw''
              subst hw''
              have HB9 := hid (HW.out.trans (hb9.mono HW.out.size))
              have HD2 := hid (dn_miss HD.out HJ.out)
              clear hb9 cR cB
              go_wp2_with fail
              go_roundw
              case rel => exact ⟨j, z, by omega, by go_num, rfl, HD2.out, HB9⟩
              case measure => exact hmeas
    · have hE : radE n zs ys = lisR n ys := by unfold radE; rw [if_pos hc]
      have R1 := hid (fun w hi hu => Rado_bad n (.slice a zs.length cap) (.slice ua ys.length uc) zs ys w (by rw [hE]; exact hq) hi hu)
      have R2 := hid (fun w hi hu => RadoBar_bad n (.slice a zs.length cap) (.slice ua ys.length uc) zs ys w (by rw [hE]; exact hq) hi hu)
      rw [hE] at R1 R2
      rw [hc] at MR
      generalize lisR n ys = Q at *
      have e0 : (Q != 0) = true := by rw [bne_iff_ne]; exact hq
      clear hE hc
      go_enter Try.func3, Try.ntmps3
      go_wp2_with fail
      refine MR.out.mono ?_
      rintro e w1 ⟨rfl, hb1⟩
      have HB1 := hid hb1
      obtain ⟨x0, x1⟩ := box_cells hb1
      clear hb1
      go_wp2_with fail
      refine (LS.out _ (HU.out.below HB1.out)).mono ?_
      rintro e w' ⟨rfl, hw'⟩
      obtain rfl := hw'.symm
      go_wp2_with fail
      refine (R1.out _ (HI.out.below HB1.out) (HU.out.below HB1.out)).mono ?_
      rintro e w4 ⟨rfl, hb4⟩
      have HB4 := hid (HB1.out.trans (hb4.mono HB1.out.size))
      clear hb4 x0 x1
      obtain ⟨x0, x1⟩ := box_cells HB4.out
      go_wp2_with fail
      refine (R2.out w4 (HI.out.below HB4.out) (HU.out.below HB4.out)).mono ?_
      rintro e w5 ⟨rfl, hb5⟩
      have HF := hid (HB0.out.trans ((HB4.out.trans (hb5.mono HB4.out.size)).mono HB0.out.size))
      clear hb5 x0 x1
      go_wp2_with fail
      go_ret
      exact ⟨rfl, HF.out⟩
  · have hE : radE n zs ys = chkR n zs := by unfold radE; rw [if_neg hc]
    have R1 := hid (fun w hi hu => Rado_bad n (.slice a zs.length cap) (.slice ua ys.length uc) zs ys w (by rw [hE]; exact hc) hi hu)
    have R2 := hid (fun w hi hu => RadoBar_bad n (.slice a zs.length cap) (.slice ua ys.length uc) zs ys w (by rw [hE]; exact hc) hi hu)
    rw [hE] at R1 R2
    generalize chkR n zs = Q at *
    have e0 : (Q != 0) = true := by rw [bne_iff_ne]; exact hc
    have e1 : (Q == 0) = false := by rw [beq_eq_false_iff_ne]; exact hc
    clear hE
    go_enter Try.func3, Try.ntmps3
    go_wp2_with fail
    refine MR.out.mono ?_
    rintro e w1 ⟨rfl, hb1⟩
    have HB1 := hid hb1
    obtain ⟨x0, x1⟩ := box_cells hb1
    clear hb1
    go_wp2_with fail
    refine (R1.out _ (HI.out.below HB1.out) (HU.out.below HB1.out)).mono ?_
    rintro e w4 ⟨rfl, hb4⟩
    have HB4 := hid (HB1.out.trans (hb4.mono HB1.out.size))
    clear hb4 x0 x1
    obtain ⟨x0, x1⟩ := box_cells HB4.out
    go_wp2_with fail
    refine (R2.out w4 (HI.out.below HB4.out) (HU.out.below HB4.out)).mono ?_
    rintro e w5 ⟨rfl, hb5⟩
    have HF := hid (HB0.out.trans ((HB4.out.trans (hb5.mono HB4.out.size)).mono HB0.out.size))
    clear hb5 x0 x1
    go_wp2_with fail
    go_ret
    exact ⟨rfl, HF.out⟩
end Go.Proofs.Ytbfklamboicddaa
