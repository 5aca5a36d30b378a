/- The law rotalaw.GreedySays. -/
import Derived.Test.YthbcnolpjcppoabGyUQ
import Derived.Test.YthbcnolpjcppoabRefFamQ
import Derived.Deep.CutRange
import Derived.Deep.RegionHeld3
namespace Go.Proofs.Ythbcnolpjcppoab
open Go.RowKit

theorem box_bk {w w1 : World} {B : Nat} {x y : Value} (hx : w.cell? ⟨B, 0, none⟩ = some x ∧ w.cell? ⟨B, 1, none⟩ = some y) (hb : Below w.heap.size w w1) (hB : B < w.heap.size) : w1.cell? ⟨B, 0, none⟩ = some x ∧ w1.cell? ⟨B, 1, none⟩ = some y :=
  ⟨(hb.cell (p := ⟨B, 0, none⟩) hB).trans hx.1, (hb.cell (p := ⟨B, 1, none⟩) hB).trans hx.2⟩
set_option maxRecDepth 100000 in
set_option maxHeartbeats 4000000 in
theorem gsays_law (n : Int) (v : Value) (zs : List Int) (u : Value) (ws : List Int) (t : Value) (os : List Int) (w : World) (h : Ints w v zs) (hu : Ints w u ws) (ht : Ints w t os) :
    Calls Try.prog 4 #[.agg #[.int .i64 n, v], u, t] w fun e w' => e = .returned (.bool true) ∧ Below w.heap.size w w' := by
  have B0 := below_box w #[.int .i64 n, v]
  have HM := hid (fun w' (hb : Below w.heap.size w w') => h.below hb)
  have HMU := hid (fun w' (hb : Below w.heap.size w w') => hu.below hb)
  have HMT := hid (fun w' (hb : Below w.heap.size w w') => ht.below hb)
  have HB0 := hid B0
  obtain ⟨bE, nE, L, HBI⟩ := bestIs n zs ws
  obtain ⟨tE, hE, HFI⟩ := firstIs n zs os
  have HBI' := hid HBI
  have HFI' := hid HFI
  have BE := hid (HBI.best v u _ (h.below B0) (hu.below B0))
  obtain ⟨a, cap, rfl, _, _⟩ := h
  obtain ⟨ua, ucap, rfl, _, _⟩ := hu
  obtain ⟨ta, tcap, rfl, _, _⟩ := ht
  clear B0 HBI HFI
  obtain ⟨qE, HQE⟩ : ∃ q, Hid (stE n zs ws = q) := ⟨_, Eq.refl (stE n zs ws)⟩
  rw [HQE.out] at BE
  go_enter Try.func4, Try.ntmps4
  go_wp2_with fail
  refine BE.out.mono ?_
  rintro e w1 ⟨rfl, hb1⟩
  obtain ⟨x0, x1⟩ := box_cells hb1
  have HB1 := hid (HB0.out.trans (hb1.mono HB0.out.size))
  have hs1 := hb1.size
  rw [World.size_alloc] at hs1
  have ST := hid (HBI'.out.steps _ _ w1 (HM.out _ HB1.out) (HMU.out _ HB1.out))
  rw [HQE.out] at ST
  clear hb1 BE
  go_wp2_with fail
  refine ST.out.mono ?_
  rintro e w2 ⟨r2, rfl, ht2, hb2⟩
  have y0 := (hb2.cell (p := ⟨w.heap.size, 0, none⟩) (by show w.heap.size < _; omega)).trans x0
  have y1 := (hb2.cell (p := ⟨w.heap.size, 1, none⟩) (by show w.heap.size < _; omega)).trans x1
  have HB2 := hid (HB1.out.trans (hb2.mono HB1.out.size))
  have hs2 : w.heap.size + 1 ≤ w2.heap.size := Nat.le_trans hs1 hb2.size
  have HT2 := hid ht2
  have PR := hid (priced_any n _ _ zs ws w2 (HM.out _ HB2.out) (HMU.out _ HB2.out))
  rw [HQE.out] at PR
  clear hb2 ST ht2 x0 x1
  go_wp2_with fail
  refine PR.out.mono ?_
  rintro e w3 ⟨rfl, hb3⟩
  have x0 := (hb3.cell (p := ⟨w.heap.size, 0, none⟩) (by show w.heap.size < _; omega)).trans y0
  have x1 := (hb3.cell (p := ⟨w.heap.size, 1, none⟩) (by show w.heap.size < _; omega)).trans y1
  have HB3 := hid (HB2.out.trans (hb3.mono HB2.out.size))
  have hs3 : w.heap.size + 1 ≤ w3.heap.size := Nat.le_trans hs2 hb3.size
  have HT3 := hid (HT2.out.below hb3)
  have X3 := hid (⟨x0, x1⟩ : w3.cell? ⟨w.heap.size, 0, none⟩ = some (.int .i64 n) ∧ w3.cell? ⟨w.heap.size, 1, none⟩ = some (.slice a zs.length cap))
  clear hb3 PR y0 y1 HT2 x0 x1
  go_upto_if 37 with fail
  go_cut [13, 14, 15] from 38 to 47 (fun x y z W => x = .int .i64 bE ∧ y = .int .i64 nE ∧ Hid (ToldL w3.heap.size W qE z L) ∧ Hid (Below w3.heap.size w3 W))
  case first =>
    by_cases hq : qE = 0
    · subst hq
      obtain ⟨m, l, rfl, hm, rfl, hf, hb, hcw, rfl, rfl, rfl⟩ := HBI'.out.good HQE.out
      obtain ⟨hlw, hwb⟩ := cw_of hcw
      obtain ⟨x0, x1⟩ := X3.out
      have hby := hvO_by ws
      rw [hlw] at hby
      have hol : (hvO ws).length ≤ 8 := by
        have := (order_perm hby.beg hby.all).length_eq
        rw [List.length_range] at this
        omega
      have hg := gr_bas hm hf hb hby.beg hby.all
      have hgn := hf.lt _ hg
      have RD := hid (fun w' (hb' : Below w.heap.size w w') => Ranked_any _ ws w' (HMU.out w' hb') (by omega))
      have GR := hid (fun w' (hb' : Below w.heap.size w w') u' hu' => Greedy_ok m _ u' l (hvO ws) w' (HM.out w' hb') hu' hm hf hb hby.beg hby.all hol)
      have CL := hid (fun w' (hb' : Below w.heap.size w w') => Climb_ok m _ _ l ws w' (HM.out w' hb') (HMU.out w' hb') hm hf hb hlw)
      have WE := hid (fun w' (hb' : Below w.heap.size w w') => Weighs_any _ ws (grS (rk l) 0 (hvO ws)) w' (HMU.out w' hb') (by omega) (by rw [hlw]; exact hgn) hwb)
      have HWW : weiTo (fun i => ws.getD i 0) (grS (rk l) 0 (hvO ws)) ws.length = weiTo (fun i => ws.getD i 0) (grS (rk l) 0 (hvO ws)) m := by rw [hlw]
      rw [HWW] at WE
      clear HWW
      clear hlw hby hg hgn hcw hwb hf hb HBI' HFI' HQE
      generalize weiTo (fun i => ws.getD i 0) (grS (rk l) 0 (hvO ws)) m = WW at *
      generalize grS (rk l) 0 (hvO ws) = G at *
      generalize gr (rk l) 0 (hvO ws) = GG at *
      generalize hvO ws = o at *
      go_wp2_with fail
      go_region_held3 (fun w' => w'.cell? ⟨w.heap.size, 0, none⟩ = some (.int .i64 (m : Nat)) ∧ w'.cell? ⟨w.heap.size, 1, none⟩ = some (.slice a (N l).length cap)) (go_keep)
       (first
        | (go_at_call 21; refine (RD.out _ HB3.out.drew).mono ?_; rintro e w4 ⟨u4, rfl, ho4, hb4⟩; have H4 := hid ((Below.refl w3.heap.size w3).drew.trans hb4); have X4 := hid (box_bk X3.out H4.out (by omega)); have B4 := hid (HB3.out.trans (H4.out.mono HB3.out.size)); have O4 := hid (ho4.ints (by omega)); obtain ⟨ra4, rc4, rfl⟩ := ho4.form; have hs4 := H4.out.size; clear ho4 hb4; obtain ⟨y4, z4⟩ := X4.out)
        | (go_at_call 20; refine (GR.out _ B4.out _ O4.out).mono ?_; rintro e w5 ⟨rfl, hb5⟩; have H5 := hid (H4.out.trans (hb5.mono hs4)); have X5 := hid (box_bk X4.out hb5 (by omega)); have B5 := hid (B4.out.trans (hb5.mono B4.out.size)); have hs5 := H5.out.size; clear hb5; obtain ⟨y5, z5⟩ := X5.out)
        | (go_at_call 22; refine (CL.out _ B5.out).mono ?_; rintro e w6 ⟨u6, rfl, ho6, hb6⟩; have H6 := hid (H5.out.trans (hb6.mono hs5)); have X6 := hid (box_bk X5.out hb6 (by omega)); have B6 := hid (B5.out.trans (hb6.mono B5.out.size)); have O6 := hid (ho6.mono hs5); obtain ⟨ra6, rc6, rfl⟩ := ho6.form; have hs6 := H6.out.size; clear ho6 hb6; obtain ⟨y6, z6⟩ := X6.out))
      have WE6 := hid (WE.out _ B6.out)
      go_wp2_with fail
      refine WE6.out.mono ?_
      rintro e w7 ⟨rfl, hb7⟩
      have H7 := hid (H6.out.trans (hb7.mono hs6))
      have O7 := hid (O6.out.below hb7)
      clear hb7
      go_wp2_with fail
      go_meet
      exact ⟨rfl, rfl, .inr ⟨rfl, O7.out⟩, H7⟩
    · have hq' : (qE == 0) = false := by simp [hq]
      have E1 := hid (HBI'.out.zero (by rw [HQE.out]; exact hq))
      have E2 := hid (HBI'.out.zero2 (by rw [HQE.out]; exact hq))
      have T0 : Hid (ToldL w3.heap.size w3 qE (.slice none 0 0) L) := .inl ⟨hq, rfl⟩
      clear hq
      go_wp2_with fail
      go_meet
      exact ⟨by rw [E1.out], by rw [E2.out], T0, Below.refl _ _⟩
  case rest =>
    obtain ⟨rfl, rfl, HTZ, HC⟩ := hcut
    have Z1 := hid (HBI'.out.zero)
    have Z2 := hid (HBI'.out.zero2)
    rw [HQE.out] at Z1 Z2
    have O1 := hid (fun w => one_any bE qE w Z1.out)
    have O2 := hid (fun w => one_any nE qE w Z2.out)
    have HL := hid HBI'.out.len
    have XC := hid (box_bk X3.out HC.out (by omega))
    have BC := hid (HB3.out.trans (HC.out.mono HB3.out.size))
    have hsc := HC.out.size
    have LA := hid (list_any wc (HT3.out.below HC.out) HTZ.out HL.out)
    go_wp2_with fail
    refine (O1.out _).mono ?_
    rintro e w' ⟨rfl, hw'⟩
    obtain rfl := hw'.symm
    go_wp2_with fail
    refine (O2.out _).mono ?_
    rintro e w' ⟨rfl, hw'⟩
    obtain rfl := hw'.symm
    go_wp2_with fail
    refine LA.out.mono ?_
    rintro e w4 ⟨rfl, hb4⟩
    have X4 := hid (box_bk XC.out hb4 (by omega))
    have B4 := hid (BC.out.trans (hb4.mono BC.out.size))
    have hs4 := hb4.size
    have FI := hid (HFI'.out.first _ _ w4 (HM.out _ B4.out) (HMT.out _ B4.out))
    clear hb4
    obtain ⟨x0, x1⟩ := X4.out
    go_wp2_with fail
    refine FI.out.mono ?_
    rintro e w5 ⟨rfl, hb5⟩
    have X5 := hid (box_bk X4.out hb5 (by omega))
    have B5 := hid (B4.out.trans (hb5.mono B4.out.size))
    have hs5 := hb5.size
    have MR := hid (Matroid_ref n _ zs w5 (HM.out _ B5.out))
    obtain ⟨cE, HCE⟩ : ∃ q, Hid (chkR n zs = q) := ⟨_, Eq.refl (chkR n zs)⟩
    rw [HCE.out] at MR
    clear hb5 x0 x1 FI
    obtain ⟨x0, x1⟩ := X5.out
    go_wp2_with fail
    refine MR.out.mono ?_
    rintro e w6 ⟨rfl, hb6⟩
    have X6 := hid (box_bk X5.out hb6 (by omega))
    have B6 := hid (B5.out.trans (hb6.mono B5.out.size))
    have hs6 := hb6.size
    clear hb6 x0 x1 MR
    have FZ := hid HFI'.out.zero
    have OF := hid (fun w => one_any tE hE w FZ.out)
    obtain ⟨x0, x1⟩ := X6.out
    by_cases hc : cE = 0
    · subst hc
      obtain ⟨m, l, rfl, hm, rfl, hf, hb, hh, hg⟩ := HFI'.out.good HCE.out
      have IO := hid (fun w' (hb' : Below w.heap.size w w') => RIsOrder_any m _ os w' hm (HMT.out w' hb'))
      have IO6 := hid (IO.out _ B6.out)
      rcases ho : ordB m os with _ | _
      · rw [ho] at hh IO6
        have hh' : hE = 1 := hh
        have E0 := hid (FZ.out (by rw [hh']; decide))
        have BN := hid (fun w => bad_no 1 w)
        have OG : Hid (∀ w, Calls Try.prog 24 #[.int .i64 tE, .int .i64 hE, .int .i64 0, .int .i64 1] w fun r w' => r = .returned (.bool true) ∧ w' = w) := fun w => by
          have := OF.out w
          rw [E0.out, hh'] at this
          rw [E0.out, hh']
          exact this
        clear hh hh' OF FZ E0 hg ho HFI' HBI' HQE HCE
        go_wp2_with fail
        refine IO6.out.mono ?_
        rintro e w' ⟨rfl, hw'⟩
        obtain rfl := hw'.symm
        go_wp2_with fail
        refine (BN.out _).mono ?_
        rintro e w' ⟨rfl, hw'⟩
        obtain rfl := hw'.symm
        go_wp2_with fail
        refine (OG.out _).mono ?_
        rintro e w' ⟨rfl, hw'⟩
        obtain rfl := hw'.symm
        go_wp2_with fail
        go_ret
        exact ⟨rfl, B6.out⟩
      · obtain ⟨o, rfl, hBg, hol, rfl⟩ := hg ho
        rw [ho] at hh IO6
        have hh' : hE = 0 := hh
        have BY := hid (fun w => bad_yes 1 w)
        rw [hh'] at OF
        have GR := hid (fun w' (hb' : Below w.heap.size w w') => Greedy_ok m _ _ l o w' (HM.out w' hb') (HMT.out w' hb') hm hf hb hBg (beg_all hm hBg hol) (by omega))
        have GR6 := hid (GR.out _ B6.out)
        clear hh hg ho hf hb hBg hol HFI' HBI' HQE HCE
        generalize grS (rk l) 0 o = G at *
        go_wp2_with fail
        refine IO6.out.mono ?_
        rintro e w' ⟨rfl, hw'⟩
        obtain rfl := hw'.symm
        go_wp2_with fail
        refine (BY.out _).mono ?_
        rintro e w' ⟨rfl, hw'⟩
        obtain rfl := hw'.symm
        go_wp2_with fail
        refine GR6.out.mono ?_
        rintro e w7 ⟨rfl, hb7⟩
        have B7 := hid (B6.out.trans (hb7.mono B6.out.size))
        clear hb7
        go_wp2_with fail
        refine (OF.out _).mono ?_
        rintro e w' ⟨rfl, hw'⟩
        obtain rfl := hw'.symm
        go_wp2_with fail
        go_ret
        exact ⟨rfl, B7.out⟩
    · have hh := HFI'.out.bad (by rw [HCE.out]; exact hc)
      rw [HCE.out] at hh
      have hc' : (cE == 0) = false := by simp [hc]
      have E0 := hid (FZ.out (by rw [hh]; exact hc))
      have OG : Hid (∀ w, Calls Try.prog 24 #[.int .i64 tE, .int .i64 hE, .int .i64 0, .int .i64 cE] w fun r w' => r = .returned (.bool true) ∧ w' = w) := fun w => by
        have := OF.out w
        rw [E0.out, hh] at this
        rw [E0.out, hh]
        exact this
      clear hc hh OF FZ E0 HFI' HBI' HQE HCE
      go_wp2_with fail
      refine (OG.out _).mono ?_
      rintro e w' ⟨rfl, hw'⟩
      obtain rfl := hw'.symm
      go_wp2_with fail
      go_ret
      exact ⟨rfl, B6.out⟩
end Go.Proofs.Ythbcnolpjcppoab
