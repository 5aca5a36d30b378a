/- rotakeep.HallFree. -/
import Derived.Test.YthkdcjoecpemdaaHaGQ
import Derived.Test.YthkdcjoecpemdaaPlainAll
import Derived.Test.YthkdcjoecpemdaaUnifQ
import Derived.Test.YthkdcjoecpemdaaRefQ
namespace Go.Proofs.Ythkdcjoecpemdaa
open Go.RowKit

theorem rad_not5 (n : Int) (zs ys : List Int) : radE n zs ys ≠ 5 := by
  unfold radE chkR lisR
  repeat' split
  all_goals omega
theorem hf_lit : staF (rk twoL) 0 [1, 3] = some [0, 1] := by decide +kernel
theorem ints_two (w : World) (a b : Nat) : Ints (w.alloc (.cells #[.int .i64 a, .int .i64 b] 3)) (.slice (some ⟨w.heap.size, 0, none⟩) 2 2) (N [a, b]) := by
  refine ⟨_, 2, rfl, by simp [N], fun _ => ⟨_, 0, rfl, by simp, fun i hi => ?_⟩⟩
  rw [World.cell?_alloc_at _ _ _ _ rfl]
  have hi2 : i < 2 := hi
  match i, hi2 with
  | 0, _ => rfl
  | 1, _ => rfl
theorem uni_full {n : Nat} (hn : n ≤ 8) : uniL n n = [2 ^ n - 1] := by
  have : ∀ n, n ≤ 8 → uniL n n = [2 ^ n - 1] := by decide +kernel
  exact this n hn
/-- What is taken, and what stands, of a list that was found. -/
structure Stands (m : Nat) (r : Nat → Nat) (q L : List Nat) : Prop where
  len : L.length ≤ q.length
  lt : ∀ k, k < L.length → L.getD k 0 < m
  isin : ∀ k, k < L.length → (q.getD k 0).testBit (L.getD k 0) = true
  new : ∀ k, k < L.length → (usT 0 L k).testBit (L.getD k 0) = false
  small : ∀ k, k ≤ L.length → usT 0 L k < 2 ^ m
  free : r (usT 0 L L.length) = pop (usT 0 L L.length)
theorem stands_of {m : Nat} {r : Nat → Nat} {q L : List Nat} (hm : m ≤ 8) (hr : RkOn m r) (hq : ∀ x ∈ q, x < 2 ^ m) (h : staF r 0 q = some L) : Stands m r q L := by
  obtain ⟨h1, h2⟩ := sta_spec hm q 0 L hq h
  refine ⟨by omega, fun k hk => (h2 k (by omega)).1, fun k hk => (h2 k (by omega)).2.1, fun k hk => (h2 k (by omega)).2.2.1, fun k hk => us_lt (Nat.two_pow_pos m) k fun j hj => (h2 j (by omega)).1, ?_⟩
  rcases hL : L.length with _ | k
  · exact rk_null hr
  · exact (h2 k (by omega)).2.2.2
theorem stands_nil {m : Nat} {r : Nat → Nat} (q : List Nat) (hr : RkOn m r) : Stands m r q [] := ⟨Nat.zero_le _, fun k hk => absurd hk (Nat.not_lt_zero _), fun k hk => absurd hk (Nat.not_lt_zero _), fun k hk => absurd hk (Nat.not_lt_zero _), fun k hk => by
  have : k = 0 := Nat.le_zero.1 hk
  subst this
  exact Nat.two_pow_pos m, rk_null hr⟩
theorem StaE.yes {w w' : World} {L : List Nat} {e : Ending} (h : StaE w (some L) e w') : ∃ v, e = .returned (.tuple #[v, .int .i64 0]) ∧ Own w.heap.size w' v L ∧ Below w.heap.size w w' := by
  obtain ⟨⟨h1, _⟩, h2⟩ := h
  obtain ⟨v, e1, h3⟩ := h1 L rfl
  exact ⟨v, e1, h3, h2⟩
theorem StaE.no {w w' : World} {e : Ending} (h : StaE w none e w') : ∃ v, e = .returned (.tuple #[v, .int .i64 5]) ∧ Own w.heap.size w' v [] ∧ Below w.heap.size w w' := by
  obtain ⟨⟨_, h1⟩, h2⟩ := h
  exact ⟨_, h1 rfl, Own.nil _ _, h2⟩
set_option maxRecDepth 20000 in
set_option maxHeartbeats 8000000 in
theorem hfree_law (n : Int) (v : Value) (zs : List Int) (u : Value) (ys : List Int) (w : World) (h : Ints w v zs) (hu : Ints w u ys) (hcp : ∀ a L c, u = .slice a L c → L ≤ c) :
    Calls Try.prog 3 #[.agg #[.int .i64 n, v], u] w fun e w' => e = .returned (.bool true) ∧ Below w.heap.size w w' := by
  have HB0 := hid (below_box w #[.int .i64 n, v])
  have HI := hid (h.below HB0.out)
  have HU := hid (hu.below HB0.out)
  obtain ⟨a, cap, rfl, -, -⟩ := h
  obtain ⟨ua, uc, rfl, -, -⟩ := hu
  have hcap := hcp _ _ _ rfl
  clear hcp
  go_enter Try.func3, Try.ntmps3
  go_wp2_with fail
  refine (two_any _).mono ?_
  rintro e w1 ⟨v4, rfl, hv4, hb1⟩
  have HB1 := hid ((hb1.mono (Nat.le_refl _)).alloc hb1.size (.cells #[.int .i64 1, .int .i64 3] 3))
  have L1 := hid (Rado_ok 4 v4 (some ⟨w1.heap.size, 0, none⟩) 2 twoL [1, 3] _ (by decide) two_fam two_bas (by decide) (by decide) (by decide) (hv4.below ((Below.refl _ _).alloc (Nat.le_refl _) (.cells #[.int .i64 1, .int .i64 3] 3))) (ints_two w1 1 3))
  rw [hf_lit] at L1
  clear hb1 hv4
  go_wp2_with fail
  refine L1.out.mono ?_
  intro e w2 h2
  obtain ⟨⟨h4, -⟩, hb2⟩ := h2
  obtain ⟨v2, rfl, ho2⟩ := h4 _ rfl
  have HB2 := hid (HB1.out.trans (hb2.mono HB1.out.size))
  have SM := hid (Same_any v2 _ (N [0, 1]) (N [0, 1]) _ ((ho2.ints (by decide)).below ((Below.refl _ _).alloc (Nat.le_refl _) (.cells #[.int .i64 0, .int .i64 1] 3))) (ints_two w2 0 1))
  rw [decide_eq_true rfl] at SM
  have HB2' := hid (HB2.out.alloc HB2.out.size (.cells #[.int .i64 0, .int .i64 1] 3))
  clear hb2 ho2 h4 L1
  go_wp2_with fail
  refine SM.out.mono ?_
  rintro e w3 ⟨rfl, hb3⟩
  have HB3 := hid (HB2'.out.trans (hb3.mono HB2'.out.size))
  clear hb3
  obtain ⟨x0, x1⟩ := box_cells HB3.out
  have HI3 := hid (HI.out.below HB3.out)
  have HU3 := hid (HU.out.below HB3.out)
  by_cases hq : radE n zs ys = 0
  · obtain ⟨m, l, q, rfl, hm, rfl, hf, hb, rfl, hk, hl⟩ := rad_good hq
    have hN : ∀ q : List Nat, (N q).length = q.length := fun q => by simp [N]
    rw [hN l] at *
    rw [hN q] at *
    have hr := hb.rkOn m
    have KR := hid (fun w h hu => Rado_ok m (.slice a l.length cap) ua uc l q w hm hf hb hk hl hcap h hu)
    have KB := hid (fun w h hu => RadoBar_ok m (.slice a l.length cap) (.slice ua q.length uc) l q w hm hf hb hk hl h hu)
    have KK := hid (fun w h => Ranks_ok m (.slice a l.length cap) l w hm hf hb h)
    have KU := hid (fun w => Uniform_ok m m w hm (Nat.le_refl _))
    rw [uni_full hm] at KU
    have KF := hid (fun v w h hu => Rado_ok m v ua uc [2 ^ m - 1] q w hm (full_bas m hm).1 (full_bas m hm).2 hk hl hcap h hu)
    have KS := hid (fun w hu => HStand_ok m ua uc q w hm hk hl hcap hu)
    have SB := sta_bar hm hr hl hk
    have ST := hid (fun L h => stands_of hm hr hl h (L := L))
    have SN := hid (stands_nil q hr)
    have hT : 2 ^ m ≤ 256 := Nat.pow_le_pow_right (by decide) hm
    have HQL := hid hl
    have HS2 : Hid (∀ L, staF (rk [2 ^ m - 1]) 0 q = some L → L.length ≤ 8) := fun L h => by rw [(sta_spec hm q 0 L hl h).1]; exact hk
    have h8 := hid (rk8 (m := m) hb)
    clear hq hf hb hl
    generalize staF (rk [2 ^ m - 1]) 0 q = S2 at *
    generalize rk l = r at *
    have K4 := KR.out w3 HI3.out HU3.out
    rcases hS : staF r 0 q with _ | L
    case' none =>
      have hB : ∃ kb, barF r 0 q = some kb := by
        have := SB.1 hS
        cases hb : barF r 0 q with
        | none => exact absurd hb this
        | some kb => exact ⟨kb, rfl⟩
      obtain ⟨kb, hB⟩ := hB
      rw [hS] at K4
      rw [hB] at KB
      have C4 := hid (K4.mono fun e w' h => h.no)
      have C5 : Hid (∀ w, Ints w (.slice a l.length cap) (N l) → Ints w (.slice ua q.length uc) (N q) → Calls Try.prog 7 #[.agg #[.int .i64 m, .slice a l.length cap], .slice ua q.length uc] w fun e w' => e = .returned (.tuple #[.int .i64 kb, .int .i64 0]) ∧ Below w.heap.size w w') := KB.out
      have SL := SN
      generalize hL : ([] : List Nat) = L at C4 SL
    case' some =>
      have hB : barF r 0 q = none := Classical.byContradiction fun hc => by
        rw [SB.2 hc] at hS
        cases hS
      rw [hS] at K4
      rw [hB] at KB
      have C4 := hid (K4.mono fun e w' h => h.yes)
      have C5 : Hid (∀ w, Ints w (.slice a l.length cap) (N l) → Ints w (.slice ua q.length uc) (N q) → Calls Try.prog 7 #[.agg #[.int .i64 m, .slice a l.length cap], .slice ua q.length uc] w fun e w' => e = .returned (.tuple #[.int .i64 0, .int .i64 5]) ∧ Below w.heap.size w w') := KB.out
      have SL := hid (ST.out L hS)
      have hL := hS
    all_goals
      clear hS hB K4 KB SB ST SN KR hL
      go_wp2_with fail
      refine C4.out.mono ?_
      rintro e w4 ⟨vL, rfl, ho4, hb4⟩
      have HB4 := hid (HB3.out.trans (hb4.mono HB3.out.size))
      have HL4 := hid (ho4.ints (by have := SL.out.len; omega))
      clear hb4 ho4 x0 x1
      obtain ⟨x0, x1⟩ := box_cells HB4.out
      obtain ⟨la, lc, rfl, -, -⟩ := HL4.out.nats
      go_wp2_with fail
      refine (C5.out w4 (HI.out.below HB4.out) (HU.out.below HB4.out)).mono ?_
      rintro e w5 ⟨rfl, hb5⟩
      have HB5 := hid (HB4.out.trans (hb5.mono HB4.out.size))
      have HL5 := hid (HL4.out.below hb5)
      clear hb5 x0 x1
      obtain ⟨x0, x1⟩ := box_cells HB5.out
      go_wp2_with fail
      refine (KK.out w5 (HI.out.below HB5.out)).mono ?_
      rintro e w6 ⟨r6, rfl, hr6, hb6⟩
      have HB6 := hid (HB5.out.trans (hb6.mono HB5.out.size))
      have HL6 := hid (HL5.out.below hb6)
      have HU6 := hid (HU.out.below HB6.out)
      have HR6 := hid hr6
      clear hb6 hr6 x0 x1
      obtain ⟨rb, roff, rcap, rfl, -, -⟩ := HR6.out
      obtain ⟨_, _, el, _, hcl⟩ := HL6.out.nats
      obtain ⟨rfl, rfl⟩ : la = _ ∧ lc = _ := by simpa using el
      obtain ⟨_, _, eu, _, hcu⟩ := HU6.out.nats
      obtain ⟨rfl, rfl⟩ : ua = _ ∧ uc = _ := by simpa using eu
      clear el eu
      have HCL := hid hcl
      have HCU := hid hcu
      clear hcl hcu
      have hql := fun k (hk : k < q.length) => HQL.out (q.getD k 0) (by rw [List.getD_eq_getElem?_getD, List.getElem?_eq_getElem hk]; exact List.getElem_mem _)
      have HQ1 := hid hql
      clear hql
      have U0 : Hid (usT 0 L 0 = 0) := rfl
      have US : Hid (∀ k, usT 0 L (k + 1) = usT 0 L k ||| 2 ^ L.getD k 0) := fun _ => rfl
      have INA := hid (fun s i w hs hi => In_any s i w hs hi)
      go_wp2_with fail
      go_loop [13, 14, 15, 76] (fun s _ _ i => ∃ k : Nat, k ≤ L.length ∧ i = .int .i64 k ∧ s = .int .i64 (usT 0 L k : Nat)) (fun _ _ _ i => L.length - (intOf i).toNat)
      case atStart => exact ⟨0, Nat.zero_le _, rfl, by rw [U0.out]; rfl⟩
      case round =>
        obtain ⟨k, hk2, rfl, rfl⟩ := hrel
        by_cases hlt : k < L.length
        · have hlq := SL.out.len
          obtain ⟨lb, lo, rfl, hlb, hlc⟩ := HCL.out (by omega)
          obtain ⟨ub, uo, rfl, hub, huc⟩ := HCU.out (by omega)
          have y1 := hlc k hlt
          have y2 := huc k (by omega)
          have g1 := SL.out.lt k hlt
          have g2 := SL.out.small k (by omega)
          have g3 := HQ1.out k (by omega)
          have I1 := hid (fun w => INA.out (q.getD k 0) (L.getD k 0) w (by omega) (by omega))
          have I2 := hid (fun w => INA.out (usT 0 L k) (L.getD k 0) w (by omega) (by omega))
          rw [SL.out.isin k hlt] at I1
          rw [SL.out.new k hlt] at I2
          have hp : 2 ^ L.getD k 0 ≤ 128 := Nat.pow_le_pow_right (by decide) (by omega : L.getD k 0 ≤ 7)
          have hor : bits .or .i64 (usT 0 L k : Nat) (2 ^ L.getD k 0 : Nat) = ((usT 0 L k ||| 2 ^ L.getD k 0 : Nat) : Int) := i64_or_nat _ _ (by omega) (by omega)
          have hw1 := (pow_wrap (L.getD k 0) (by omega)).1
          have hw2 : wrap64 (2 ^ min (L.getD k 0) 64) = ((2 ^ L.getD k 0 : Nat) : Int) := by rw [Nat.min_eq_left (by omega)]; exact hw1
          have STP := hid (US.out k)
          have hki : (k : Int) < (L.length : Int) := by omega
          have hkq : (k : Int) < (q.length : Int) := by omega
          clear hlc huc hp
          rw [← STP.out, show ((2 ^ L.getD k 0 : Nat) : Int) = (2 : Int) ^ L.getD k 0 by simp] at hor
          clear STP
          obtain ⟨s1, HS1⟩ : ∃ s1, Hid (usT 0 L (k + 1) = s1) := ⟨_, Eq.refl (usT 0 L (k + 1))⟩
          rw [HS1.out] at hor
          generalize usT 0 L k = s0 at *
          generalize L.getD k 0 = xk at *
          generalize q.getD k 0 = qk at *
          go_wp2_with fail
          refine (I1.out _).mono ?_
          rintro e w' ⟨rfl, hw'⟩
          obtain rfl := hw'.symm
          go_wp2_with fail
          refine (I2.out _).mono ?_
          rintro e w' ⟨rfl, hw'⟩
          obtain rfl := hw'.symm
          go_wp2_with fail
          go_round
          case rel => exact ⟨k + 1, by omega, by go_num, by rw [HS1.out]⟩
          case measure => simp [intOf]; omega
        · obtain rfl : k = L.length := by omega
          have g2 := SL.out.small L.length (Nat.le_refl _)
          have g3 := SL.out.free
          have g4 := h8.out (usT 0 L L.length) g2
          have cR : ∀ x : Later w6, x.now.cell? ⟨rb, roff + usT 0 L L.length, none⟩ = some (.int .i64 (r (usT 0 L L.length) : Nat)) := rk_later HR6.out (Below.refl _ _) g2
          rw [g3] at cR g4
          have S1 := hid (fun w => Size_any (usT 0 L L.length) w (by omega))
          generalize usT 0 L L.length = s at *
          generalize 2 ^ m = T at *
          go_wp2_with fail
          refine region_later (by kernel_rfl) (by kernel_rfl) ?_
          repeat (go_big_quiet_step ((go_at_call 10; (with_reducible refine (S1.out _).mono ?_); rintro e w' ⟨rfl, hb9⟩; exact ⟨rfl, Later.on _ hb9⟩)))
          refine wpQuiet_nil ?_
          intro w7' hw'
          obtain ⟨⟨w7, hb7⟩, hw''⟩ := hw'
          dsimp only at hw''
          subst hw''
          have HB7 := hid (HB6.out.trans (hb7.mono HB6.out.size))
          clear hb7 cR
          obtain ⟨x0, x1⟩ := box_cells HB7.out
          go_wp2_with fail
          refine (KU.out _).mono ?_
          rintro e w8 ⟨r8, rfl, ho8, hb8⟩
          obtain ⟨fa, fc, hf8⟩ := ownsRow_form' ho8
          change r8 = .slice fa 1 fc at hf8
          subst hf8
          have HB8 := hid (HB7.out.trans (hb8.mono HB7.out.size))
          have HB9 := hid (HB8.out.alloc HB8.out.size (.cells #[.int .i64 m, .slice fa 1 fc] 24))
          have I9 := hid ((ho8.ints (by simp)).below ((Below.refl _ _).alloc (Nat.le_refl _) (.cells #[.int .i64 m, .slice fa 1 fc] 24)))
          have R9 := hid (KF.out (.slice fa 1 fc) _ I9.out (HU.out.below HB9.out))
          obtain ⟨z0, z1⟩ := box_cells (w := w8) (n := (m : Int)) (u := .slice fa 1 fc) (Below.refl _ _)
          obtain ⟨t0, t1⟩ := box_cells HB9.out
          clear hb8 ho8 x0 x1
          rcases S2 with _ | L2
          case' none =>
            have D9 := hid (R9.out.mono fun e w' h => h.no)
            have DS := hid (fun w hu => (KS.out w hu).mono fun e w' h => h.no)
            have H2 : Hid (([] : List Nat).length ≤ 8) := Nat.zero_le _
            generalize hL2 : ([] : List Nat) = L2 at D9 DS H2
          case' some =>
            have D9 := hid (R9.out.mono fun e w' h => h.yes)
            have DS := hid (fun w hu => (KS.out w hu).mono fun e w' h => h.yes)
            have H2 := hid (HS2.out L2 rfl)
            have hL2 := Eq.refl L2
          all_goals
            clear hL2 R9 KS HS2
            have h2 := H2.out
            go_wp2_with fail
            refine D9.out.mono ?_
            rintro e w10 ⟨vX, rfl, hoX, hb10⟩
            have HB10 := hid (HB9.out.trans (hb10.mono HB9.out.size))
            have IX := hid (hoX.ints (by omega))
            clear hb10 hoX z0 z1 t0 t1
            obtain ⟨t0, t1⟩ := box_cells HB10.out
            go_wp2_with fail
            refine (DS.out _ (HU.out.below HB10.out)).mono ?_
            rintro e w11 ⟨vY, rfl, hoY, hb11⟩
            have HB11 := hid (HB10.out.trans (hb11.mono HB10.out.size))
            have IY := hid (hoY.ints (by omega))
            have SF := hid (Same_any vX vY (N L2) (N L2) _ (IX.out.below hb11) IY.out)
            rw [decide_eq_true rfl] at SF
            clear hb11 hoY t0 t1
            go_wp2_with fail
            refine SF.out.mono ?_
            rintro e w12 ⟨rfl, hb12⟩
            have HF := hid (HB0.out.trans ((HB11.out.trans (hb12.mono HB11.out.size)).mono HB0.out.size))
            clear hb12
            go_wp2_with fail
            go_ret
            exact ⟨rfl, HF.out⟩
  · have R1 := hid (Rado_bad n _ _ zs ys w3 hq HI3.out HU3.out)
    have R2 := hid (fun w hi hu => RadoBar_bad n (.slice a zs.length cap) (.slice ua ys.length uc) zs ys w hq hi hu)
    have h5 := rad_not5 n zs ys
    generalize radE n zs ys = Q at *
    have e0 : (Q != 0) = true := by rw [bne_iff_ne]; exact hq
    have e5 : (Q != 5) = true := by rw [bne_iff_ne]; exact h5
    go_wp2_with fail
    refine R1.out.mono ?_
    rintro e w4 ⟨rfl, hb4⟩
    have HB4 := hid (HB3.out.trans (hb4.mono HB3.out.size))
    clear hb4 x0 x1
    obtain ⟨x0, x1⟩ := box_cells HB4.out
    go_wp2_with fail
    refine (R2.out w4 (HI.out.below HB4.out) (HU.out.below HB4.out)).mono ?_
    rintro e w5 ⟨rfl, hb5⟩
    have HB5 := hid (HB4.out.trans (hb5.mono HB4.out.size))
    have HF := hid (HB0.out.trans (HB5.out.mono HB0.out.size))
    clear hb5 x0 x1
    go_wp2_with fail
    go_ret
    exact ⟨rfl, HF.out⟩
end Go.Proofs.Ythkdcjoecpemdaa
