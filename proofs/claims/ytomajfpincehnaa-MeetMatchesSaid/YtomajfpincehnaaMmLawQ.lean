/- rotakeep.MeetMatches. -/
import Derived.Test.YtomajfpincehnaaMtmBQ
import Derived.Test.YtomajfpincehnaaMtBQ
import Derived.Test.YtomajfpincehnaaHaBQ
import Derived.Test.YtomajfpincehnaaRefQ
namespace Go.Proofs.Ytomajfpincehnaa
open Go.RowKit

theorem mm_one : Fam 1 [1] ∧ Bas [1] := ⟨⟨by decide, by decide⟩, (bas_iff (by decide)).2 ⟨by decide, by decide +kernel, by decide +kernel⟩⟩
theorem mm_lit : comS 1 (rk [1]) (rk [1]) = 1 := by decide +kernel
theorem own1 (w : World) (b : Nat) : Own w.heap.size (w.alloc (.cells #[.int .i64 b] 3)) (.slice (some ⟨w.heap.size, 0, none⟩) 1 1) [b] :=
  World.ownsRow_lit w #[.int .i64 b] 1 (Nat.le_refl _) (by unfold maxLen; omega) rfl
theorem mm_good {n : Int} {F : List (Int × Int)} (h : graphR n F = 0) : ∃ m : Nat, n = m ∧ 1 ≤ m ∧ m ≤ 7 ∧ F.length ≤ 8 ∧ ∀ i, i < F.length → ∃ a b : Nat, a < m ∧ b < m ∧ (F.getD i (0, 0)).1 = a ∧ (F.getD i (0, 0)).2 = b := by
  unfold graphR at h
  by_cases c : 1 ≤ n ∧ n ≤ 7 ∧ F.length ≤ 8 ∧ F.all (edgeB n) = true
  · obtain ⟨m, rfl⟩ := Int.eq_ofNat_of_zero_le (show 0 ≤ n by omega)
    refine ⟨m, rfl, by omega, by omega, c.2.2.1, fun i hi => ?_⟩
    obtain ⟨h1, h2, h3, h4⟩ := edge_in c.2.2.2 hi
    exact ⟨(F.getD i (0, 0)).1.toNat, (F.getD i (0, 0)).2.toNat, by omega, by omega, by omega, by omega⟩
  · rw [if_neg c] at h
    cases h
set_option maxRecDepth 20000 in
set_option maxHeartbeats 8000000 in
theorem mmatches_law (n : Int) (v : Value) (F : List (Int × Int)) (w : World) (h : EdgesI w v F) :
    Calls Try.prog 3 #[.agg #[.int .i64 n, v]] w fun e w' => e = .returned (.bool true) ∧ Below w.heap.size w w' := by
  have HB0 := hid (below_boxGr w #[.int .i64 n, v])
  have hbx := World.alloc_heap_new w (.cells #[.int .i64 n, v] 24)
  have HE0 := hid (h.below HB0.out)
  obtain ⟨a, cap, rfl, -, -⟩ := h
  obtain ⟨w0, hw0⟩ : ∃ w0, w.alloc (.cells #[.int .i64 n, .slice a F.length cap] 24) = w0 := ⟨_, rfl⟩
  rw [hw0] at HB0 HE0 hbx
  have HX := hid hbx
  have hs0 : w0.heap.size = w.heap.size + 1 := by rw [← hw0]; exact World.size_alloc _ _
  have HBa : Hid (Below w0.heap.size w0 ((w0.alloc (.cells #[.int .i64 1] 3)).alloc (.cells #[.int .i64 1] 3))) := ((Below.refl _ _).alloc (Nat.le_refl _) _).alloc (by simp) _
  have hi1 := (own1 w0 1).ints (by decide)
  have hi2 := (own1 (w0.alloc (.cells #[.int .i64 1] 3)) 1).ints (by decide)
  rw [World.size_alloc] at hi2
  have CM := hid (Common_ok 1 _ _ [1] [1] _ (by decide) mm_one.1 mm_one.2 (hi1.below ((Below.refl _ _).alloc (Nat.le_refl _) (.cells #[.int .i64 1] 3))) mm_one.1 mm_one.2 hi2)
  rw [mm_lit] at CM
  obtain ⟨bb, hbb⟩ : ∃ bb, barS 1 (rk [1]) (rk [1]) = bb := ⟨_, rfl⟩
  rw [hbb] at CM
  have hss : w0.heap.size = w.heap.size + 1 := hs0
  simp only [hss] at CM
  have CG := hid (fun w h => CheckGraph_any n (.slice a F.length cap) F w h)
  clear hbb hbx hi1 hi2
  by_cases hq : graphR n F = 0
  · obtain ⟨m, rfl, hm1, hm7, he, hed⟩ := mm_good hq
    rw [hq] at CG
    obtain ⟨f, hf⟩ : ∃ f : Nat → Nat, f = fun i => (F.getD i (0, 0)).1.toNat := ⟨_, rfl⟩
    obtain ⟨g, hg⟩ : ∃ g : Nat → Nat, g = fun i => (F.getD i (0, 0)).2.toNat := ⟨_, rfl⟩
    have hfa : ∀ i, i < F.length → (F.getD i (0, 0)).1 = ((f i : Nat) : Int) ∧ f i < m := fun i hi => by
      obtain ⟨a, b, h1, h2, h3, h4⟩ := hed i hi
      rw [hf]
      show _ = (((F.getD i (0, 0)).1.toNat : Nat) : Int) ∧ (F.getD i (0, 0)).1.toNat < m
      rw [h3, Int.toNat_natCast]
      exact ⟨rfl, h1⟩
    have hga : ∀ i, i < F.length → (F.getD i (0, 0)).2 = ((g i : Nat) : Int) ∧ g i < m := fun i hi => by
      obtain ⟨a, b, h1, h2, h3, h4⟩ := hed i hi
      rw [hg]
      show _ = (((F.getD i (0, 0)).2.toNat : Nat) : Int) ∧ (F.getD i (0, 0)).2.toNat < m
      rw [h4, Int.toNat_natCast]
      exact ⟨rfl, h2⟩
    have eg2 : Enters 9 := enters_of Try.func9 (by kernel_rfl) rfl
    have eg3 : Enters 10 := enters_of Try.func10 (by kernel_rfl) rfl
    have SA := hid (fun bN w hE x0 x1 x2 hbG hbN => side_ok 9 f w0.heap.size.pred bN m a cap F w (by omega) he (fun i hi => (hfa i hi).2) hE x0 x1 x2 hbG hbN eg2 (fun i hi W => by rw [← (hfa i hi).1]; exact mtm2_ok _ _ W))
    have SB := hid (fun bN w hE x0 x1 x2 hbG hbN => side_ok 10 g w0.heap.size.pred bN m a cap F w (by omega) he (fun i hi => (hga i hi).2) hE x0 x1 x2 hbG hbN eg3 (fun i hi W => by rw [← (hga i hi).1]; exact mtm3_ok _ _ W))
    have hpr : w0.heap.size.pred = w.heap.size := by rw [hs0]; rfl
    rw [hpr] at SA SB
    have HMM := hid (fun r q hr hq h1 h2 => matches_is (e := F.length) (N := m) (f := f) (g := g) (r := r) (q := q) he (by omega) (fun i hi => (hga i hi).2) hr hq h1 h2)
    have HFA := hid hfa
    have HGA := hid hga
    have NBL := hid (nb_len f g F.length)
    have NBT := hid (nb_lt (f := f) (fun i hi => (hga i hi).2) m)
    have N0 : Hid (∀ v, nbrT f g v 0 = 0) := fun _ => rfl
    have NS : Hid (∀ v k, nbrT f g v (k + 1) = if f k = v then nbrT f g v k ||| 2 ^ g k else nbrT f g v k) := fun _ _ => rfl
    have NLT : Hid (∀ v k, k ≤ F.length → nbrT f g v k < 256) := fun v k hk => lt256 (show m ≤ 8 by omega) (nbr_lt fun i hi => (hga i (by omega)).2)
    have L0 : Hid (nbL f g F.length 0 = []) := rfl
    have LSS : Hid (∀ v, nbL f g F.length (v + 1) = nbL f g F.length v ++ [nbrT f g v F.length]) := fun _ => rfl
    have hmf : ∀ (fn : Fn) (first cap : Array Value) (w : World), (Instr.makeFunc fn first cap).run Try.prog w = .ok (.func fn first cap) w := fun _ _ _ _ => rfl
    clear hf hg hfa hga hed eg2 eg3 hpr hq
    go_enter Try.func3, Try.ntmps3
    go_wp2_with fail
    refine CM.out.mono ?_
    rintro e w1 ⟨rfl, hb1⟩
    have HB1 := hid (HBa.out.trans (hb1.mono HBa.out.size))
    have hx1 := (HB1.out.block w.heap.size (by omega)).trans HX.out
    have x0 : w1.cell? ⟨w.heap.size, 0, none⟩ = some (.int .i64 m) := by simp [World.cell?, hx1]
    have x1 : w1.cell? ⟨w.heap.size, 1, none⟩ = some (.slice a F.length cap) := by simp [World.cell?, hx1]
    clear hb1 hx1
    go_wp2_with fail
    with_reducible refine (CG.out w1 (HE0.out.below HB1.out)).mono ?_
    rintro e w2 ⟨rfl, hb2⟩
    have HB2 := hid (HB1.out.trans (hb2.mono HB1.out.size))
    have hx1 := (HB2.out.block w.heap.size (by omega)).trans HX.out
    have x0' : w2.cell? ⟨w.heap.size, 0, none⟩ = some (.int .i64 m) := by simp [World.cell?, hx1]
    have x1' : w2.cell? ⟨w.heap.size, 1, none⟩ = some (.slice a F.length cap) := by simp [World.cell?, hx1]
    clear hb2 hx1 x0 x1
    go_wp2_with fail
    have HB3 := hid (HB2.out.alloc HB2.out.size (.cells #[.int .i64 F.length] 3))
    have hal := (Below.refl w2.heap.size w2).alloc (Nat.le_refl _) (.cells #[.int .i64 F.length] 3)
    have bn3 := Boxed.new w2 3 (.int .i64 F.length)
    have hz3 : (w2.alloc (.cells #[.int .i64 F.length] 3)).heap.size = w2.heap.size + 1 := World.size_alloc _ _
    have hzz := HB2.out.size
    have S3 := hid (SA.out w2.heap.size _ (HE0.out.below HB3.out) ((hal.cell (p := ⟨w.heap.size, 0, none⟩) (by show w.heap.size < _; omega)).trans x0') ((hal.cell (p := ⟨w.heap.size, 1, none⟩) (by show w.heap.size < _; omega)).trans x1') bn3.cell (by omega) (by omega))
    have BN3 := hid bn3
    clear hal bn3 x0' x1'
    with_reducible refine S3.out.mono ?_
    rintro e w4 ⟨L1, SD1, r4, rfl, ho4, hb4⟩
    have HB4 := hid (HB3.out.trans (hb4.mono HB3.out.size))
    have A1 := hid (basR_fam F.length (lamF L1 (List.replicate L1.length 1) L1.length))
    have A2 := hid (lam_bas he L1 (List.replicate L1.length 1))
    have A3 : Hid (∀ X, X < 2 ^ F.length → rk (basR F.length (lamF L1 (List.replicate L1.length 1) L1.length)) X = cntP (fun v => meetB (clsT f v F.length) X) m) := fun X hX => by
      rw [RkOn.rk_eq he (lamF_rkOn L1 _ L1.length) hX]
      exact SD1.rank X hX
    have IA := hid (ho4.ints (Nat.le_trans (fam_len he A1.out) (by decide)))
    generalize basR F.length (lamF L1 (List.replicate L1.length 1) L1.length) = BA at *
    obtain ⟨ra, rc, hr4⟩ := ownsRow_form' ho4
    subst hr4
    have hal := (Below.refl w4.heap.size w4).alloc (Nat.le_refl _) (.cells #[.int .i64 F.length, .slice ra BA.length rc] 30)
    have HB5 := hid (HB4.out.alloc HB4.out.size (.cells #[.int .i64 F.length, .slice ra BA.length rc] 30))
    have IA5 := hid (IA.out.below hal)
    have hz5 : (w4.alloc (.cells #[.int .i64 F.length, .slice ra BA.length rc] 30)).heap.size = w4.heap.size + 1 := World.size_alloc _ _
    have hz4 := hb4.size
    have bn5 : Boxed (w4.alloc (.cells #[.int .i64 F.length, .slice ra BA.length rc] 30)) w2.heap.size 3 (.int .i64 F.length) := (hal.block _ (by omega)).trans ((hb4.block _ (by omega)).trans BN3.out)
    have bx5 := World.alloc_heap_new w4 (.cells #[.int .i64 F.length, .slice ra BA.length rc] 30)
    have hx5 := (HB5.out.block w.heap.size (by omega)).trans HX.out
    have S5 := hid (SB.out w2.heap.size _ (HE0.out.below HB5.out) (by simp [World.cell?, hx5]) (by simp [World.cell?, hx5]) bn5.cell (by omega) (by omega))
    have BX5 := hid bx5
    clear hal bn5 bx5 hx5 ho4 hb4
    go_wp2_with fail
    with_reducible refine S5.out.mono ?_
    rintro e w6 ⟨L2, SD2, r6, rfl, ho6, hb6⟩
    have HB6 := hid (HB5.out.trans (hb6.mono HB5.out.size))
    have B1 := hid (basR_fam F.length (lamF L2 (List.replicate L2.length 1) L2.length))
    have B2 := hid (lam_bas he L2 (List.replicate L2.length 1))
    have B3 : Hid (∀ X, X < 2 ^ F.length → rk (basR F.length (lamF L2 (List.replicate L2.length 1) L2.length)) X = cntP (fun v => meetB (clsT g v F.length) X) m) := fun X hX => by
      rw [RkOn.rk_eq he (lamF_rkOn L2 _ L2.length) hX]
      exact SD2.rank X hX
    have IB := hid (ho6.ints (Nat.le_trans (fam_len he B1.out) (by decide)))
    generalize basR F.length (lamF L2 (List.replicate L2.length 1) L2.length) = BB at *
    obtain ⟨rb, rd, hr6⟩ := ownsRow_form' ho6
    subst hr6
    have hal := (Below.refl w6.heap.size w6).alloc (Nat.le_refl _) (.cells #[.int .i64 F.length, .slice rb BB.length rd] 30)
    have HB7 := hid (HB6.out.alloc HB6.out.size (.cells #[.int .i64 F.length, .slice rb BB.length rd] 30))
    have IB7 := hid (IB.out.below hal)
    have IA7 := hid ((IA5.out.below hb6).below hal)
    have hz6 := hb6.size
    have ba7 := (hal.block w4.heap.size (by omega)).trans ((hb6.block w4.heap.size (by omega)).trans BX5.out)
    have bb7 := World.alloc_heap_new w6 (.cells #[.int .i64 F.length, .slice rb BB.length rd] 30)
    have u0 : (w6.alloc (.cells #[.int .i64 F.length, .slice rb BB.length rd] 30)).cell? ⟨w4.heap.size, 0, none⟩ = some (.int .i64 F.length) := by simp [World.cell?, ba7]
    have u1 : (w6.alloc (.cells #[.int .i64 F.length, .slice rb BB.length rd] 30)).cell? ⟨w4.heap.size, 1, none⟩ = some (.slice ra BA.length rc) := by simp [World.cell?, ba7]
    obtain ⟨u2, u3, _, _⟩ := two_cells bb7
    have C7 := hid (Common_ok F.length _ _ BA BB _ he A1.out A2.out IA7.out B1.out B2.out IB7.out)
    have hMM := HMM.out (rk BA) (rk BB) (A2.out.rkOn F.length) (B2.out.rkOn F.length) A3.out B3.out
    obtain ⟨hcs, _⟩ := com_spec (A2.out.rkOn F.length) (B2.out.rkOn F.length)
    have hcs2 : comS F.length (rk BA) (rk BB) < 256 := lt256 he hcs
    have SZ := hid (fun w => Size_any _ w hcs2)
    rw [hMM] at SZ
    have KM := hid (fun v w h => Most_ok m v (nbL f g F.length m) w (by omega) (by rw [NBL.out]; omega) NBT.out h)
    generalize barS F.length (rk BA) (rk BB) = br at *
    generalize comS F.length (rk BA) (rk BB) = cs at *
    generalize mostB (nbL f g F.length m) = M at *
    clear hal ba7 bb7 ho6 hb6 hMM hcs HMM SA SB
    go_wp2_with fail
    with_reducible refine C7.out.mono ?_
    rintro e w8 ⟨rfl, hb8⟩
    have HB8 := hid (HB7.out.trans (hb8.mono HB7.out.size))
    have hx8 := (HB8.out.block w.heap.size (by omega)).trans HX.out
    have x0 : w8.cell? ⟨w.heap.size, 0, none⟩ = some (.int .i64 m) := by simp [World.cell?, hx8]
    clear hb8 hx8 u0 u1 u2 u3
    go_wp2_with fail
    go_loopw [15, 16, 17, 19, 63] (fun l _ _ _ ii wr => ∃ v : Nat, v ≤ m ∧ ii = .int .i64 v ∧ Hid (Own w8.heap.size wr l (nbL f g F.length v)) ∧ Hid (Below w8.heap.size w8 wr)) (fun _ _ _ _ ii _ => m - (intOf ii).toNat)
    case atStart => exact ⟨0, Nat.zero_le _, rfl, by show Own _ _ _ _; rw [L0.out]; exact Own.nil _ _, Below.refl _ _⟩
    case round =>
      obtain ⟨v, hv, rfl, HO, HW⟩ := hrel
      have HBr := hid (HB8.out.trans (HW.out.mono HB8.out.size))
      have hxr := (HBr.out.block w.heap.size (by omega)).trans HX.out
      have y0 : wr.cell? ⟨w.heap.size, 0, none⟩ = some (.int .i64 m) := by simp [World.cell?, hxr]
      have y1 : wr.cell? ⟨w.heap.size, 1, none⟩ = some (.slice a F.length cap) := by simp [World.cell?, hxr]
      by_cases hlt : v < m
      · have hvi : (v : Int) < (m : Int) := by omega
        have hmeas : m - (v + 1) < m - v := by omega
        have LSv := hid (LSS.out v)
        clear hxr
        go_wp2_with fail
        go_loopw [17, 19, 69] (fun s _ ii wx => ∃ i : Nat, i ≤ F.length ∧ ii = .int .i64 i ∧ s = .int .i64 (nbrT f g v i : Nat) ∧ Hid (Below wr.heap.size wr wx)) (fun _ _ ii _ => F.length - (intOf ii).toNat)
        case atStart => exact ⟨0, Nat.zero_le _, rfl, by rw [N0.out]; rfl, Below.refl _ _⟩
        case round =>
          obtain ⟨i, hi, rfl, rfl, HY⟩ := hrel
          by_cases hil : i < F.length
          · have hii : (i : Int) < (F.length : Int) := by omega
            have hmi : F.length - (i + 1) < F.length - i := by omega
            obtain ⟨_, _, ee, _, hcE⟩ := HE0.out
            obtain ⟨rfl, rfl⟩ : a = _ ∧ cap = _ := by simpa using ee
            obtain ⟨b, off, rfl, hb, hcell⟩ := hcE (by omega)
            have HBx := hid (HBr.out.trans (HY.out.mono HBr.out.size))
            have cA := (HBx.out.cell (p := ⟨b, off + i * 2, none⟩) hb).trans (hcell i hil).1
            have cB := (HBx.out.cell (p := ⟨b, off + i * 2 + 1, none⟩) hb).trans (hcell i hil).2
            obtain ⟨ef, hfm⟩ := HFA.out i hil
            obtain ⟨egq, hgm⟩ := HGA.out i hil
            rw [ef] at cA
            rw [egq] at cB
            have NSi := hid (NS.out v i)
            have q1 := NLT.out v i (by omega)
            have hp : 2 ^ g i ≤ 128 := Nat.pow_le_pow_right (by decide) (by omega : g i ≤ 7)
            have hw1 := (pow_wrap (g i) (by omega)).1
            have hor : bits .or .i64 (nbrT f g v i : Nat) ((2 : Int) ^ g i) = ((nbrT f g v i ||| 2 ^ g i : Nat) : Int) := by
              rw [show (2 : Int) ^ g i = ((2 ^ g i : Nat) : Int) by simp]
              exact i64_or_nat _ _ (Nat.lt_of_lt_of_le q1 (by decide)) (Nat.lt_of_le_of_lt hp (by decide))
            have HY2 := hid (HY.out.alloc HY.out.size (.cells #[.int .i64 (f i : Nat), .int .i64 (g i : Nat)] 34))
            clear hcell hcE ee ef egq y0 y1
            generalize nbrT f g v i = s0 at *
            generalize g i = gi at *
            generalize f i = fi at *
            by_cases hfv : fi = v
            · have hfb : ((fi : Int) == (v : Int)) = true := by rw [beq_iff_eq, hfv]
              rw [if_pos hfv] at NSi
              clear hfv
              go_wp2_with fail
              go_roundw
              case rel => exact ⟨i + 1, hil, by go_num, by rw [NSi.out], HY2⟩
              case measure => simpa [intOf] using hmi
            · have hfb : ((fi : Int) == (v : Int)) = false := by rw [beq_eq_false_iff_ne]; omega
              rw [if_neg hfv] at NSi
              clear hfv
              go_wp2_with fail
              go_roundw
              case rel => exact ⟨i + 1, hil, by go_num, by rw [NSi.out], HY2⟩
              case measure => simpa [intOf] using hmi
          · obtain rfl : i = F.length := by omega
            have HO2 := hid (HO.out.below HY.out)
            have HW2 := hid (HW.out.trans (HY.out.mono HW.out.size))
            have hs9 := HW2.out.size
            have hlen : (nbL f g F.length v).length ≤ 256 := by rw [nb_len]; omega
            generalize nbL f g F.length v = Lv at *
            generalize nbrT f g v F.length = x at *
            have T1 := hid (HO2.out.below ((Below.refl _ _).alloc (Nat.le_refl _) (.cells #[.int .i64 (x : Nat)] 3)))
            have hc1 : (wr.alloc (.cells #[.int .i64 (x : Nat)] 3)).cell? ⟨wr.heap.size, 0, none⟩ = some (.int .i64 (x : Nat)) := (Boxed.new wr 3 _).cell
            go_wp2_with (at_builtin; refine wpList_snocH rfl (.tmp 83) (.tmp 85) rfl rfl rfl T1.out hc1 hlen (by rw [World.size_alloc]; omega) ?_)
            intro v' w' h1 h2
            have R2 := hid (HO2.out.grown HW2.out hs9 h2)
            have R1 := hid h1
            clear h1 h2 hc1
            go_wp2_with fail
            go_roundw
            case rel => exact ⟨v + 1, hlt, by go_num, by rw [LSv.out]; exact R1.out, R2⟩
            case measure => simpa [intOf] using hmeas
      · obtain rfl : v = m := by omega
        have IL := hid (HO.out.ints (by rw [NBL.out]; omega))
        clear hxr
        go_wp2_with fail
        with_reducible refine (KM.out _ wr IL.out).mono ?_
        rintro e w9 ⟨rfl, hb9⟩
        have HB9 := hid (HBr.out.trans (hb9.mono HBr.out.size))
        clear hb9
        go_wp2_with fail
        with_reducible refine (SZ.out _).mono ?_
        rintro e w10 ⟨rfl, hb10⟩
        have HF := hid (HB0.out.trans ((HB9.out.trans (hb10.mono HB9.out.size)).mono HB0.out.size))
        clear hb10
        go_wp2_with fail
        go_ret
        exact ⟨rfl, HF.out⟩
  · generalize graphR n F = Q at *
    have e0 : (Q != 0) = true := by rw [bne_iff_ne]; exact hq
    go_enter Try.func3, Try.ntmps3
    go_wp2_with fail
    refine CM.out.mono ?_
    rintro e w1 ⟨rfl, hb1⟩
    have HB1 := hid (HBa.out.trans (hb1.mono HBa.out.size))
    have hx1 := (HB1.out.block w.heap.size (by omega)).trans HX.out
    have x0 : w1.cell? ⟨w.heap.size, 0, none⟩ = some (.int .i64 n) := by simp [World.cell?, hx1]
    have x1 : w1.cell? ⟨w.heap.size, 1, none⟩ = some (.slice a F.length cap) := by simp [World.cell?, hx1]
    clear hb1 hx1
    go_wp2_with fail
    with_reducible refine (CG.out w1 (HE0.out.below HB1.out)).mono ?_
    rintro e w2 ⟨rfl, hb2⟩
    have HF := hid (HB0.out.trans ((HB1.out.trans (hb2.mono HB1.out.size)).mono HB0.out.size))
    clear hb2
    go_wp2_with fail
    go_ret
    exact ⟨rfl, HF.out⟩
end Go.Proofs.Ytomajfpincehnaa
