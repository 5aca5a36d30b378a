/- rotalaw.LinksGammoid. -/
import Derived.Test.YtokdldnbanpgbaaRfGamQ
import Derived.Test.YtokdldnbanpgbaaLkSQ
import Derived.Test.YtokdldnbanpgbaaLkEQ
import Derived.Test.YtokdldnbanpgbaaKsAQ
import Derived.Test.YtokdldnbanpgbaaGoodQ
namespace Go.Proofs.Ytokdldnbanpgbaa
open Go.RowKit

theorem badL (b : Bool) (w : World) : Calls Try.prog 4 #[.bool b, .int .i64 1] w fun r w' => r = .returned (.int .i64 (if b = true then 0 else 1)) ∧ w' = w := by
  cases b
  · go_enter Try.func4, Try.ntmps4
    go_wp2_with fail
    go_ret
    exact ⟨rfl, rfl⟩
  · go_enter Try.func4, Try.ntmps4
    go_wp2_with fail
    go_ret
    exact ⟨rfl, rfl⟩
theorem setB_is (n s : Int) : setB n s = (setR n s == 0) := by
  unfold setB setR
  split <;> simp_all
theorem lnkE_is (n s t : Int) (F : List (Int × Int)) : lnkE n F s t = if (okG n F && (setB n s && setB n t)) = true then 0 else 1 := by
  unfold lnkE okG
  rw [setB_is, setB_is]
  have h1 : graphR n F = 0 ∨ graphR n F = 1 := by unfold graphR; split <;> simp
  have h2 : setR n s = 0 ∨ setR n s = 1 := by unfold setR; split <;> simp
  have h3 : setR n t = 0 ∨ setR n t = 1 := by unfold setR; split <;> simp
  rcases h1 with h1 | h1 <;> rcases h2 with h2 | h2 <;> rcases h3 with h3 | h3 <;> rw [h1, h2, h3] <;> rfl
theorem set_zero {n : Int} {F : List (Int × Int)} (h : okG n F = true) : setB n 0 = true := by
  unfold okG graphR at h
  split at h
  · rename_i hg
    rw [setB_is]
    obtain ⟨m, rfl⟩ := Int.eq_ofNat_of_zero_le (by omega : 0 ≤ n)
    have := setR_nat (m := m) (x := 0) (by omega) (Nat.two_pow_pos m)
    rw [beq_iff_eq]
    exact this
  · simp at h
theorem lnkE_zero (n t : Int) (F : List (Int × Int)) : lnkE n F 0 t = if (okG n F && setB n t) = true then 0 else 1 := by
  rw [lnkE_is]
  cases h : okG n F
  · rfl
  · rw [set_zero h]; rfl
/-- Behind the first j edges: v and where they lead from it. -/
theorem nx_or {E : List (Nat × Nat)} {j v : Nat} : 2 ^ v ||| nxF E (j + 1) v = if ea E j = v then (2 ^ v ||| nxF E j v) ||| 2 ^ eb E j else 2 ^ v ||| nxF E j v := by
  rw [nxF]
  split
  · rw [Nat.or_assoc]
  · rfl
set_option maxRecDepth 20000 in
set_option maxHeartbeats 8000000 in
theorem lgam_law (n : Int) (v : Value) (F : List (Int × Int)) (t : Int) (w : World) (h : EdgesI w v F) :
    Calls Try.prog 3 #[.agg #[.int .i64 n, v], .int .i64 t] w fun e w' => e = .returned (.bool true) ∧ Below w.heap.size w w' := by
  obtain ⟨i0, hi, hz0, hz1, hz2⟩ := info_parts Try.infoInt
  have HI := hid h
  obtain ⟨a, cap, rfl, -, -⟩ := h
  obtain ⟨w0, hw0⟩ : ∃ w0, w.alloc (.cells #[.int .i64 n, .slice a F.length cap] 24) = w0 := ⟨_, rfl⟩
  have B0 : Hid (Below w.heap.size w w0) := by rw [← hw0]; exact (Below.refl _ _).alloc (Nat.le_refl _) _
  have X0 : Hid (w0.heap[w.heap.size]? = some (.cells #[.int .i64 n, .slice a F.length cap] 24 (0, 0))) := by rw [← hw0]; exact World.alloc_heap_new w _
  have I0 := hid (HI.out.below B0.out)
  have hlt0 := (Array.getElem?_eq_some_iff.1 X0.out).1
  have IG := hid (IsGraph_any n _ F w0 I0.out)
  have IS := hid (fun w => IsSet_any n t w)
  have BT := hid (fun w => badL true w)
  have BF := hid (fun w => badL false w)
  rw [if_pos rfl] at BT
  rw [if_neg (by simp)] at BF
  obtain ⟨x0, x1, -, -⟩ := two_cells X0.out
  have IS2 : Hid (∀ W, Calls Try.prog 6 #[.int .i64 n, .int .i64 t] W fun e w' => e = .returned (.bool (setB n t)) ∧ w' = W) := fun W => IS.out W
  have LZ := hid (lnkE_zero n t F)
  go_enter Try.func3, Try.ntmps3
  go_upto_region 1 with fail
  go_cut [5] from 16 to 24 (fun x W => x = .int .i64 (lnkE n F 0 t) ∧ Hid (Below w0.heap.size w0 W))
  case first =>
    rcases hb : okG n F with _ | _
    · have LQ : Hid (lnkE n F 0 t = 1) := by show _ = _; rw [LZ.out, hb]; rfl
      rw [hb] at IG
      clear hb
      go_wp2_with fail
      refine IG.out.mono ?_
      rintro e w1 ⟨rfl, hb1⟩
      have K1 := hid hb1
      clear hb1
      go_wp2_with fail
      refine (BF.out _).mono ?_
      rintro e w2 ⟨rfl, rfl⟩
      go_wp2_with fail
      go_meet
      exact ⟨by rw [LQ.out], K1.out⟩
    · rw [hb] at IG LZ
      clear hb
      rcases hb : setB n t with _ | _
      · have LQ : Hid (lnkE n F 0 t = 1) := by show _ = _; rw [LZ.out, hb]; rfl
        rw [hb] at IS2
        clear hb
        go_wp2_with fail
        refine IG.out.mono ?_
        rintro e w1 ⟨rfl, hb1⟩
        have K1 := hid hb1
        obtain ⟨y0, y1, -, -⟩ := two_cells ((hb1.block _ hlt0).trans X0.out)
        clear hb1
        go_wp2_with fail
        refine (IS2.out _).mono ?_
        rintro e w2 ⟨rfl, rfl⟩
        go_wp2_with fail
        refine (BF.out _).mono ?_
        rintro e w2 ⟨rfl, rfl⟩
        go_wp2_with fail
        go_meet
        exact ⟨by rw [LQ.out], K1.out⟩
      · have LQ : Hid (lnkE n F 0 t = 0) := by show _ = _; rw [LZ.out, hb]; rfl
        rw [hb] at IS2
        clear hb
        go_wp2_with fail
        refine IG.out.mono ?_
        rintro e w1 ⟨rfl, hb1⟩
        have K1 := hid hb1
        obtain ⟨y0, y1, -, -⟩ := two_cells ((hb1.block _ hlt0).trans X0.out)
        clear hb1
        go_wp2_with fail
        refine (IS2.out _).mono ?_
        rintro e w2 ⟨rfl, rfl⟩
        go_wp2_with fail
        refine (BT.out _).mono ?_
        rintro e w2 ⟨rfl, rfl⟩
        go_wp2_with fail
        go_meet
        exact ⟨by rw [LQ.out], K1.out⟩
  case rest =>
  obtain ⟨rfl, HBC⟩ := hcut
  have X1 := hid ((HBC.out.block _ hlt0).trans X0.out)
  have B1 := hid (B0.out.trans (HBC.out.mono B0.out.size))
  have hlt1 := Nat.lt_of_lt_of_le hlt0 HBC.out.size
  clear IG IS IS2 BT BF x0 x1 X0 B0 I0 HBC hlt0
  have H2 : Hid (Below wc.heap.size wc (wc.alloc (.cells #[.int .i64 0, .slice none 0 0] 31))) := (Below.refl _ _).alloc (Nat.le_refl _) _
  have Z2 : Hid ((wc.alloc (.cells #[.int .i64 0, .slice none 0 0] 31)).heap[wc.heap.size]? = some (.cells #[.int .i64 0, .slice none 0 0] 31 (0, 0))) := World.alloc_heap_new wc _
  obtain ⟨W2, hW2⟩ : ∃ W2, wc.alloc (.cells #[.int .i64 0, .slice none 0 0] 31) = W2 := ⟨_, rfl⟩
  rw [hW2] at H2 Z2
  have X2 := hid ((H2.out.block _ hlt1).trans X1.out)
  have B2 := hid (B1.out.trans (H2.out.mono B1.out.size))
  have hlt2 := (Array.getElem?_eq_some_iff.1 Z2.out).1
  obtain ⟨y0, y1, -, -⟩ := two_cells X2.out
  obtain ⟨y2, y3, yf2, yf3⟩ := two_cells Z2.out
  clear H2 B1 X1
  by_cases hg : lnkE n F 0 t = 0
  rotate_left
  · have G2 := hid (LGam_bad n t _ F W2 hg (HI.out.below B2.out))
    have SB : Hid (∀ w, EdgesI w (.slice a F.length cap) F → Calls Try.prog 10 #[.agg #[.int .i64 n, .slice a F.length cap], .int .i64 t] w fun e w' => e = .returned (.tuple #[.slice none 0 0, .int .i64 (lnkE n F 0 t)]) ∧ Below w.heap.size w w') := fun w h => LSets_bad n t _ F w hg h
    generalize lnkE n F 0 t = Q at *
    have hq : (Q == 0) = false := by simpa using hg
    have hq2 : (Q != 0) = true := by simpa using hg
    have TB := hid (fun w => told_bad0 Q w hg)
    have LB := hid (fun w => list_bad w (.slice none 0 0) Q rfl hq2 (.slice none 0 0))
    go_wp2_with fail
    try rw [hW2]
    refine G2.out.mono ?_
    rintro e w5 ⟨rfl, hb5⟩
    have B5 := hid (B2.out.trans (hb5.mono B2.out.size))
    have Z5 := hid ((hb5.block _ hlt2).trans Z2.out)
    have X5 := hid ((hb5.block _ (Nat.lt_of_lt_of_le hlt1 (by have := hlt2; omega))).trans X2.out)
    have K6 : Hid (Below w5.heap.size w5 (w5.alloc (.cells #[.int .i64 0, .slice none 0 0] 31))) := (Below.refl _ _).alloc (Nat.le_refl _) _
    have M6 : Hid ((w5.alloc (.cells #[.int .i64 0, .slice none 0 0] 31)).heap[w5.heap.size]? = some (.cells #[.int .i64 0, .slice none 0 0] 31 (0, 0))) := World.alloc_heap_new w5 _
    have Z6 := hid ((K6.out.block _ (Array.getElem?_eq_some_iff.1 Z5.out).1).trans Z5.out)
    have X6 := hid ((K6.out.block _ (Array.getElem?_eq_some_iff.1 X5.out).1).trans X5.out)
    have B6 := hid (B5.out.trans (K6.out.mono B5.out.size))
    clear hb5 y0 y1 y2 y3 G2 X5 Z5 K6
    obtain ⟨y0, y1, -, -⟩ := two_cells X6.out
    have S6 := hid (SB.out _ (HI.out.below B6.out))
    go_wp2_with fail
    generalize w5.alloc (.cells #[.int .i64 0, .slice none 0 0] 31) = W6 at *
    refine S6.out.mono ?_
    rintro e w7 ⟨rfl, hb7⟩
    have B7 := hid (B6.out.trans (hb7.mono B6.out.size))
    obtain ⟨z0, z1, -, -⟩ := two_cells ((hb7.block _ (Array.getElem?_eq_some_iff.1 Z6.out).1).trans Z6.out)
    obtain ⟨z2, z3, -, -⟩ := two_cells ((hb7.block _ (Array.getElem?_eq_some_iff.1 M6.out).1).trans M6.out)
    clear hb7 y0 y1
    go_wp2_with fail
    refine (TB.out _).mono ?_
    rintro e w8 ⟨rfl, hb8⟩
    have B8 := hid (B7.out.trans (hb8.mono B7.out.size))
    clear hb8
    go_wp2_with fail
    refine (LB.out _).mono ?_
    rintro e w9 ⟨rfl, rfl⟩
    go_wp2_with fail
    go_ret
    exact ⟨rfl, B8.out⟩
  · rw [hg]
    obtain ⟨m, _, b, rfl, -, rfl, h1, h7, h8, hall, -, hb, hE⟩ := lnk_good hg
    have h256 : 2 ^ m ≤ 128 := Nat.pow_le_pow_right (by decide) h7
    have RG := hid (RGam_ok m b _ (natE F) W2 (by omega) hb hE ((HI.out.below B2.out).nat h8 hall))
    have GG : Hid (∀ W, EdgesI W (.slice a F.length cap) F → Calls Try.prog 9 #[.agg #[.int .i64 m, .slice a F.length cap], .int .i64 b] W (GivesO W m (lnkL (nxE F) m b))) := fun W hW => LGam_ok m b _ F W hg hW
    have SS : Hid (∀ W, EdgesI W (.slice a F.length cap) F → Calls Try.prog 10 #[.agg #[.int .i64 m, .slice a F.length cap], .int .i64 b] W fun e w' => ∃ r, e = .returned (.tuple #[r, .int .i64 0]) ∧ Own W.heap.size w' r (setsF (nxE F) b m) ∧ Below W.heap.size W w') := fun W hW => LSets_ok m b _ F W hg hW
    have HL8 : Hid ((lnkL (nxE F) m b).length ≤ 17592186044416) := by
      show _ ≤ _
      unfold lnkL
      have := List.length_filter_le (fun x => pop x == pop b && lnkR (nxE F) m (2 ^ m - 1) b x == pop x) (List.range (2 ^ m))
      rw [List.length_range] at this
      omega
    have HALL := hid hall
    have H8 := hid h8
    have HE := hid hE
    have NL := hid (natE_len F)
    have IN := hid (fun i w hi => In_any b i w (by omega) hi)
    have HLT : Hid (∀ j v, j ≤ F.length → nxF (natE F) j v < 128) := fun j v hj => Nat.lt_of_lt_of_le (nx_lt (fun j hj => (hE j hj).2) v j (by rw [natE_len]; exact hj)) h256
    have NX0 : Hid (∀ v, nxF (natE F) F.length v = nxE F v) := fun v => by unfold nxE; rw [natE_len]
    change Hid (Calls _ _ _ _ fun e w' => ∃ r, e = .returned (.agg #[.int .i64 m, r]) ∧ Own W2.heap.size w' r (lnkL (nxE F) m b) ∧ _) at RG
    obtain ⟨LL, HLL⟩ : ∃ LL : List Nat, Hid (lnkL (nxE F) m b = LL) := ⟨_, rfl⟩
    rw [HLL.out] at RG GG HL8
    clear hg LZ hall h8 hE HLL
    go_wp2_with fail
    try rw [hW2]
    refine RG.out.mono ?_
    rintro e w3 ⟨r3, rfl, hr3, hb3⟩
    have B3 := hid (B2.out.trans (hb3.mono B2.out.size))
    have Z3 := hid ((hb3.block _ hlt2).trans Z2.out)
    have X3 := hid ((hb3.block _ (Nat.lt_of_lt_of_le hlt1 (by have := hlt2; omega))).trans X2.out)
    obtain ⟨ra, rc, hr⟩ := ownsRow_form' hr3
    subst hr
    obtain ⟨y4, y5, yf4, yf5⟩ := two_cells Z3.out
    obtain ⟨W4, hW4⟩ : ∃ W4, (w3.setCell ⟨wc.heap.size, 0, none⟩ (.int .i64 m)).setCell ⟨wc.heap.size, 1, none⟩ (.slice ra LL.length rc) = W4 := ⟨_, rfl⟩
    have hne : wc.heap.size ≠ w.heap.size := by omega
    have Z4 : Hid (W4.heap[wc.heap.size]? = some (.cells #[.int .i64 m, .slice ra LL.length rc] 31 (0, 0))) := by show _ = _; rw [← hW4]; exact set_blk Z3.out
    have X4 : Hid (W4.heap[w.heap.size]? = some (.cells #[.int .i64 m, .slice a F.length cap] 24 (0, 0))) := by show _ = _; rw [← hW4, Below.heap_setCell _ ⟨wc.heap.size, 1, none⟩ _ _ (Ne.symm hne), Below.heap_setCell _ ⟨wc.heap.size, 0, none⟩ _ _ (Ne.symm hne)]; exact X3.out
    have R4 : Hid (Own W2.heap.size W4 (.slice ra LL.length rc) LL) := by rw [← hW4]; exact hr3.set2 hlt2
    have B4 : Hid (Below w.heap.size w W4) := by rw [← hW4]; exact below_two B3.out (by omega)
    have S4 : Hid (W2.heap.size ≤ W4.heap.size) := by show _ ≤ _; rw [← hW4]; simpa using hb3.size
    clear hb3 hr3 y0 y1 y2 y3 RG
    obtain ⟨y0, y1, -, -⟩ := two_cells X4.out
    go_wp2_with fail
    try rw [hW4]
    clear hW4 hW2 y4 y5 yf4 yf5
    go_wp2_with fail
    have CX : Hid (∀ W, Below W4.heap.size W4 W → W.cell? ⟨w.heap.size, 0, none⟩ = some (.int .i64 m) ∧ W.cell? ⟨w.heap.size, 1, none⟩ = some (.slice a F.length cap)) := fun W hW => by
      obtain ⟨q0, q1, -⟩ := two_cells ((hW.block _ (Array.getElem?_eq_some_iff.1 X4.out).1).trans X4.out)
      exact ⟨q0, q1⟩
    have I4 := hid (HI.out.below B4.out)
    clear y0 y1
    go_loopw [7, 8, 9, 11, 32] (fun u _ _ _ i wr => ∃ k : Nat, k ≤ m ∧ i = .int .i64 k ∧ Own W4.heap.size wr u (setsF (nxE F) b k) ∧ Hid (Below W4.heap.size W4 wr)) (fun _ _ _ _ i _ => m - (intOf i).toNat)
    case atStart => exact ⟨0, Nat.zero_le _, rfl, Own.nil _ _, Below.refl _ _⟩
    case round =>
      obtain ⟨k, hk, rfl, hown, hnx⟩ := hrel
      have hsz := hnx.out.size
      obtain ⟨q0, q1⟩ := CX.out wr hnx.out
      by_cases hlt : k < m
      · have hki : (k : Int) < (m : Int) := by omega
        have Hhit := hid (fun hp => setsF_hit (f := nxE F) (T := b) (k := k) hp)
        have Hmiss := hid (fun hp => setsF_miss (f := nxE F) (T := b) (k := k) hp)
        have hfl := setsF_le (nxE F) b k
        have HO := hid hown
        have H1 := hid (IN.out k wr (by omega))
        have hpw : wrap64 (2 ^ k) = ((2 ^ k : Nat) : Int) := (pow_wrap _ (by omega)).1
        have hp2 : 2 ^ k < 128 := Nat.lt_of_lt_of_le (Nat.pow_lt_pow_right (by decide) hlt) h256
        clear hown
        generalize setsF (nxE F) b k = acc at *
        rcases hq : b.testBit k with _ | _
        rotate_left
        · have HQ := hid hq
          rw [hq] at H1
          clear hq
          go_wp2_with fail
          refine H1.out.mono ?_
          rintro e w2 ⟨rfl, rfl⟩
          go_wp2_with fail
          go_roundw
          case rel => exact ⟨k + 1, by omega, by go_num, by rw [Hmiss.out HQ.out]; exact HO.out, hnx.out⟩
          case measure => simp [intOf]; omega
        · have HQ := hid hq
          rw [hq] at H1
          clear hq
          have HH := hid (Hhit.out HQ.out)
          obtain ⟨E2, hE2⟩ : ∃ E2 : Nat, 2 ^ k = E2 := ⟨_, rfl⟩
          have HE2 := hid hE2
          rw [hE2] at hpw hp2
          clear hE2
          go_wp2_with fail
          refine H1.out.mono ?_
          rintro e w2 ⟨rfl, rfl⟩
          go_wp2_with fail
          go_loopw [9, 11, 43] (fun s _ i w3 => ∃ j : Nat, j ≤ F.length ∧ i = .int .i64 j ∧ s = .int .i64 ((E2 ||| nxF (natE F) j k : Nat) : Int) ∧ Hid (Below w2.heap.size w2 w3)) (fun _ _ i _ => F.length - (intOf i).toNat)
          case atStart => exact ⟨0, Nat.zero_le _, rfl, by rw [show nxF (natE F) 0 k = 0 from rfl, Nat.or_zero, hpw], Below.refl _ _⟩
          case round =>
            rename World => w3
            obtain ⟨j, hj, rfl, rfl, HW3⟩ := hrel
            have BW3 := hid (hnx.out.trans (HW3.out.mono hnx.out.size))
            have h8' := H8.out
            obtain ⟨q2, q3⟩ := CX.out w3 BW3.out
            by_cases hjl : j < F.length
            · have hji : (j : Int) < (F.length : Int) := by omega
              obtain ⟨aa, cc2, hv2, -, hcc⟩ := I4.out
              obtain ⟨bb, off, haa, hbb, hcell⟩ := hcc (by omega)
              injection hv2 with g1 g2 g3
              subst haa
              subst g1
              obtain ⟨c1, c2⟩ := hcell j hjl
              have c3 := (BW3.out.cell (p := ⟨bb, off + j * 2, none⟩) hbb).trans c1
              have c4 := (BW3.out.cell (p := ⟨bb, off + j * 2 + 1, none⟩) hbb).trans c2
              have hbd := edge_in HALL.out hjl
              have eA : (F.getD j (0, 0)).1 = ((ea (natE F) j : Nat) : Int) := by unfold ea; rw [natE_at hjl]; show _ = (((F.getD j (0, 0)).1.toNat : Nat) : Int); omega
              have eB : (F.getD j (0, 0)).2 = ((eb (natE F) j : Nat) : Int) := by unfold eb; rw [natE_at hjl]; show _ = (((F.getD j (0, 0)).2.toNat : Nat) : Int); omega
              obtain ⟨hAn, hBn⟩ := HE.out j (by rw [NL.out]; exact hjl)
              have NXO := hid (nx_or (E := natE F) (j := j) (v := k))
              have hnl := HLT.out j k hj
              rw [HE2.out] at NXO
              rw [eA] at c3
              rw [eB] at c4
              clear eA eB hbd c1 c2 hcell hcc g2 g3 hbb
              have hkw := below_alloc w3 (.cells #[.int .i64 (ea (natE F) j : Nat), .int .i64 (eb (natE F) j : Nat)] 34)
              have BW4 := hid (HW3.out.trans (hkw.mono HW3.out.size))
              have hnew := World.alloc_heap_new w3 (.cells #[.int .i64 (ea (natE F) j : Nat), .int .i64 (eb (natE F) j : Nat)] 34)
              obtain ⟨n0, n1, _, _⟩ := two_cells hnew
              have hpw2 : wrap64 (2 ^ eb (natE F) j) = ((2 ^ eb (natE F) j : Nat) : Int) := (pow_wrap _ (by omega)).1
              have hp3 : 2 ^ eb (natE F) j < 128 := Nat.lt_of_lt_of_le (Nat.pow_lt_pow_right (by decide) hBn) h256
              have hB64 : ((eb (natE F) j : Nat) : Int) < 64 := by omega
              have hel : E2 ||| nxF (natE F) j k < 128 := Nat.or_lt_two_pow (n := 7) hp2 hnl
              have hor : bits .or .i64 ((E2 ||| nxF (natE F) j k : Nat) : Int) ((2 ^ eb (natE F) j : Nat) : Int) = (((E2 ||| nxF (natE F) j k) ||| 2 ^ eb (natE F) j : Nat) : Int) := i64_or_nat _ _ (by omega) (by omega)
              clear hkw hnew
              obtain ⟨Y1, hY1⟩ : ∃ Y1 : Nat, E2 ||| nxF (natE F) (j + 1) k = Y1 := ⟨_, rfl⟩
              have HY1 := hid hY1
              rw [hY1] at NXO
              clear hY1
              generalize E2 ||| nxF (natE F) j k = Y at *
              generalize hP : 2 ^ eb (natE F) j = P at *
              generalize ea (natE F) j = A at *
              generalize eb (natE F) j = B at *
              by_cases hAk : A = k
              · have hY : Hid (Y1 = Y ||| P) := by show _ = _; rw [NXO.out, if_pos hAk]
                subst hAk
                generalize Y ||| P = Y2 at *
                go_wp2_with fail
                go_roundw
                case rel => exact ⟨j + 1, by omega, by go_num, by rw [HY1.out, hY.out], BW4⟩
                case measure => simp [intOf]; omega
              · have hY : Hid (Y1 = Y) := by show _ = _; rw [NXO.out, if_neg hAk]
                have hAk2 : ((A : Int) == (k : Int)) = false := by rw [beq_eq_false_iff_ne]; omega
                go_wp2_with fail
                go_roundw
                case rel => exact ⟨j + 1, by omega, by go_num, by rw [HY1.out, hY.out], BW4⟩
                case measure => simp [intOf]; omega
            · obtain rfl : j = F.length := by omega
              have HO3 := hid (HO.out.below HW3.out)
              have EQ : Hid (nxE F k ||| 2 ^ k = E2 ||| nxF (natE F) F.length k) := by show _ = _; rw [NX0.out, HE2.out, Nat.or_comm]
              rw [EQ.out] at HH
              generalize E2 ||| nxF (natE F) F.length k = Y at *
              have hs3 := BW3.out.size
              go_wp2_with (at_builtin; refine wpList_append_own _ rfl _ _ 29 rfl W4.heap.size 3 i0 (.int .i64 0) 1 8 Try.underlying29 hi hz0 hz1 hz2 rfl (by decide) _ _ _ rfl (HO3.out.alloc _) ⟨w3.heap.size, 0, none⟩ 1 1 [.int .i64 (Y : Nat)] rfl rfl ?c1 ?c2 ?c3 ?c4 ?c5 ?_)
              case c1 => exact cell_one_new _ _ _
              case c2 => intro u hu; simp at hu; subst hu; rfl
              case c3 => unfold maxLen; omega
              case c4 => omega
              case c5 => simp; omega
              intro v' w4 hown' hgrow _
              have R3 := hid (Own.snoc hown')
              have R5 := hid (Own.grown HO3.out BW3.out hs3 hgrow)
              clear hown' hgrow
              go_wp2_with fail
              go_roundw
              case rel => exact ⟨k + 1, by omega, by go_num, by rw [HH.out]; exact R3.out, R5.out⟩
              case measure => simp [intOf]; omega
      · obtain rfl : k = m := by omega
        obtain ⟨ua, uc, hu⟩ := ownsRow_form' hown
        subst hu
        have HO := hid hown
        have hfl := setsF_le (nxE F) b k
        have SL : Hid ((setsF (nxE F) b k).length ≤ 17592186044416) := by show _ ≤ _; omega
        clear hown hfl
        generalize setsF (nxE F) b k = SF at *
        have BWr := hid (B4.out.trans (hnx.out.mono B4.out.size))
        have G5 := hid (GG.out wr (HI.out.below BWr.out))
        have RR := hid (R4.out.below hnx.out)
        have ZR := hid ((hnx.out.block _ (Array.getElem?_eq_some_iff.1 Z4.out).1).trans Z4.out)
        have XR := hid ((hnx.out.block _ (Array.getElem?_eq_some_iff.1 X4.out).1).trans X4.out)
        go_wp2_with fail
        refine G5.out.mono ?_
        rintro e w5 ⟨r5, rfl, hr5, hb5⟩
        obtain ⟨ra5, rc5, hr⟩ := ownsRow_form' hr5
        subst hr
        have B5 := hid (BWr.out.trans (hb5.mono BWr.out.size))
        have RR5 := hid (RR.out.below hb5)
        have HO5 := hid (HO.out.below hb5)
        have ZR5 := hid ((hb5.block _ (Array.getElem?_eq_some_iff.1 ZR.out).1).trans ZR.out)
        have XR5 := hid ((hb5.block _ (Array.getElem?_eq_some_iff.1 XR.out).1).trans XR.out)
        have hk6 := below_alloc w5 (.cells #[.int .i64 k, .slice ra5 LL.length rc5] 31)
        have M6 := hid (World.alloc_heap_new w5 (.cells #[.int .i64 k, .slice ra5 LL.length rc5] 31))
        have B6 := hid (B5.out.trans (hk6.mono B5.out.size))
        have RR6 := hid (RR5.out.below hk6)
        have HR6 := hid (hr5.below hk6)
        have HO6 := hid (HO5.out.below hk6)
        have ZR6 := hid ((hk6.block _ (Array.getElem?_eq_some_iff.1 ZR5.out).1).trans ZR5.out)
        have XR6 := hid ((hk6.block _ (Array.getElem?_eq_some_iff.1 XR5.out).1).trans XR5.out)
        obtain ⟨y0, y1, -, -⟩ := two_cells XR6.out
        have S6 := hid (SS.out _ (HI.out.below B6.out))
        clear hb5 hr5 hk6 q0 q1
        go_wp2_with fail
        generalize w5.alloc (.cells #[.int .i64 k, .slice ra5 LL.length rc5] 31) = W6 at *
        refine S6.out.mono ?_
        rintro e w7 ⟨r7, rfl, hr7, hb7⟩
        obtain ⟨ra7, rc7, hr⟩ := ownsRow_form' hr7
        subst hr
        have B7 := hid (B6.out.trans (hb7.mono B6.out.size))
        obtain ⟨z0, z1, -, -⟩ := two_cells ((hb7.block _ (Array.getElem?_eq_some_iff.1 ZR6.out).1).trans ZR6.out)
        obtain ⟨z2, z3, -, -⟩ := two_cells ((hb7.block _ (Array.getElem?_eq_some_iff.1 M6.out).1).trans M6.out)
        have T7 := hid (told_good0 k _ _ _ w7 ((HR6.out.below hb7).ints HL8.out) ((RR6.out.below hb7).ints HL8.out))
        have I7 := hid (hr7.ints SL.out)
        have J7 := hid ((HO6.out.below hb7).ints SL.out)
        clear hb7 hr7 y0 y1
        go_wp2_with fail
        refine T7.out.mono ?_
        rintro e w8 ⟨rfl, hb8⟩
        have B8 := hid (B7.out.trans (hb8.mono B7.out.size))
        have L8 := hid (list_good w8 _ _ _ (I7.out.below hb8) (J7.out.below hb8))
        clear hb8
        go_wp2_with fail
        refine L8.out.mono ?_
        rintro e w9 ⟨rfl, hb9⟩
        have B9 := hid (B8.out.trans (hb9.mono B8.out.size))
        clear hb9
        go_wp2_with fail
        go_ret
        exact ⟨rfl, B9.out⟩
end Go.Proofs.Ytokdldnbanpgbaa
