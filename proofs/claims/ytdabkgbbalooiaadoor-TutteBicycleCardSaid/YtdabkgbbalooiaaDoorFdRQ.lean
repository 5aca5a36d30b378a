/- rotaref.Hang. -/
import Derived.Test.YtdabkgbbalooiaaDoorFdQQ
namespace Go.Proofs.YtdabkgbbalooiaaDoor
open Go.RowKit

set_option maxRecDepth 20000 in
set_option maxHeartbeats 8000000 in
theorem Hang_ok (p : Int) (c : Nat) (v : Value) (L : List (List Int)) (w : World) (h : RowsI w v L) (hp : isP p) (hc8 : c ≤ 8) (hL : L.length ≤ 16) (hr : ∀ k, k < L.length → (L.getD k []).length = c) (hin : ∀ k, k < L.length → ∀ r, r < c → 0 ≤ rowF L k r ∧ rowF L k r < p) :
    Calls Tryd.prog 8 #[.int .i64 p, v] w fun e w' => e = .returned (.int .i64 (redN p c L.length (rowF L) : Nat)) ∧ Below w.heap.size w w' := by
  obtain ⟨i0, hi0, hz0, hz1, hz2⟩ := info_parts Tryd.infoRowI
  have hp2 := isP_pos hp
  have hp0 : (p == 0) = false := by rw [beq_eq_false_iff_ne]; omega
  obtain ⟨a, cap, rfl, hlen, hcc⟩ := h
  have HC : Hid (∀ k, k < L.length → ∃ b off, a = some ⟨b, off, none⟩ ∧ ∃ u, ∀ wr, Below w.heap.size w wr → wr.cell? ⟨b, off + k, none⟩ = some u ∧ Ints wr u ((List.range c).map (rowF L k))) := fun k hk => by
    obtain ⟨b, off, h1, h2, h3⟩ := hcc (by omega)
    obtain ⟨u, h4, h5⟩ := h3 k hk
    have hl2 := hr k hk
    have e : (List.range c).map (rowF L k) = L.getD k [] := by
      refine List.ext_getElem (by rw [List.length_map, List.length_range, hl2]) fun r g1 g2 => ?_
      rw [List.getElem_map, List.getElem_range]
      show (L.getD k []).getD r 0 = _
      generalize L.getD k [] = l at *
      simp [List.getD, g2]
    rw [e]
    exact ⟨b, off, h1, u, fun wr hbw => ⟨(hbw.cell (p := ⟨b, off + k, none⟩) h2).trans h4, h5.below hbw⟩⟩
  have HR : Hid (∀ i r, i < L.length → r < c → 0 ≤ rowF L i r ∧ rowF L i r < p) := fun i r hi hr => hin i hi r hr
  have HP := hid hp
  have HNUM : Hid (∀ q K ld, Kpt p c q K ld → (∀ k, k < q → InS p c L.length (rowF L) (K k)) → (∀ j, j < L.length → InS p c q K (rowF L j)) → q = redN p c L.length (rowF L)) := fun q K ld h1 h2 h3 => h1.num hp hin h2 h3
  obtain ⟨F, HF⟩ : ∃ F, Hid (rowF L = F) := ⟨_, rfl⟩
  rw [HF.out] at HC HR HNUM ⊢
  obtain ⟨N, HN⟩ : ∃ N, Hid (L.length = N) := ⟨_, rfl⟩
  rw [HN.out] at HC HR HNUM hlen hL ⊢
  clear hcc hr hin HF HN hp
  obtain ⟨B, HB⟩ : ∃ B, Hid (w.heap.size = B) := ⟨_, rfl⟩
  rw [HB.out]
  go_enter Tryd.func8, Tryd.ntmps8
  go_wp2_with fail
  go_loopw [5, 6, 7] (fun vx i _ wr => ∃ t q : Nat, ∃ ka kc, t ≤ N ∧ q ≤ t ∧ i = .int .i64 t ∧ vx = .slice ka q kc ∧ Hid (∃ K ld, TotC wr B (.slice ka q kc) c q K ∧ Kpt p c q K ld ∧ (∀ k, k < q → InS p c t F (K k)) ∧ ∀ j, j < t → InS p c q K (F j)) ∧ Hid (Below B w wr)) (fun _ i _ _ => N - (intOf i).toNat)
  case atStart => exact ⟨0, 0, none, 0, Nat.zero_le _, Nat.le_refl _, rfl, rfl, ⟨fun _ _ => 0, fun _ => 0, TotC.nil _ _ _ _, ⟨fun k hk => by omega, fun k hk => by omega, fun k hk => by omega, fun k j _ hj => by omega, fun k hk => by omega⟩, fun k hk => by omega, fun j hj => by omega⟩, by rw [← HB.out]; exact Below.refl _ _⟩
  case round =>
    obtain ⟨t, q, ka, kc, ht, hqt, rfl, rfl, HK, HW⟩ := hrel
    by_cases hlt : t < N
    · have hti : (t : Int) < (N : Int) := by omega
      obtain ⟨K, ld, k1, k2, k3, k4⟩ := HK.out
      have K1 := hid k1
      have K2 := hid k2
      have K3 := hid k3
      have K4 := hid k4
      clear k1 k2 k3 k4 HK
      obtain ⟨lb, lo, rfl, u, hu⟩ := HC.out t hlt
      have hBW : Below w.heap.size w wr := by rw [HB.out]; exact HW.out
      obtain ⟨c0, hI⟩ := hu wr hBW
      have HI := hid hI
      have hBs : B ≤ wr.heap.size := by rw [← HB.out]; exact hBW.size
      clear hu hI hBW
      go_wp2_with (at_builtin; refine wpList_copyZ rfl (.tmp 21) rfl HI.out (by simp; omega) ?_)
      intro v1 w1 hown hb1
      have HF1 : Hid (∃ av cv g, v1 = .slice av c cv ∧ (0 < c → av = some ⟨g, 0, none⟩ ∧ wr.heap.size ≤ g ∧ RowB w1 g c (F t))) := by
        by_cases h0 : 0 < c
        · obtain ⟨g, cv, e1, e2, e3⟩ := hown.rowB (by simpa using h0)
          rw [List.length_map, List.length_range] at e1 e3
          exact ⟨_, cv, g, e1, fun _ => ⟨rfl, e2, e3.congr fun i hi => by simp [List.getD, hi]⟩⟩
        · have h0' : c = 0 := by omega
          subst h0'
          rcases Go.Joins.ownsRow_forms hown with ⟨rfl, -⟩ | ⟨g, cap', rfl⟩
          · exact ⟨none, 0, 0, rfl, fun h => absurd h h0⟩
          · exact ⟨_, cap', 0, rfl, fun h => absurd h h0⟩
      obtain ⟨av, cv, g, rfl, hg⟩ := HF1.out
      have HG := hid hg
      have HB1 := hid hb1
      clear HF1 hown hb1 hg HI c0
      obtain ⟨W0, hW0⟩ : ∃ W0, W0 = wr := ⟨_, rfl⟩
      subst hW0
      obtain ⟨D, HD⟩ : ∃ D, Hid (W0.heap.size = D) := ⟨_, rfl⟩
      rw [HD.out] at HG HB1 hBs
      go_wp2_with fail
      go_loopw [8, 9, 10] (fun i _ _ wr => ∃ k : Nat, k ≤ q ∧ i = .int .i64 k ∧ Hid (∃ vv, Clr p c q k K ld (F t) vv ∧ (0 < c → RowB wr g c vv)) ∧ Hid (Below D W0 wr)) (fun i _ _ _ => q - (intOf i).toNat)
      case atStart => exact ⟨0, Nat.zero_le _, rfl, ⟨F t, Clr.start fun r hr => HR.out t r hlt hr, fun h0 => (HG.out h0).2.2⟩, HB1.out⟩
      case round =>
        obtain ⟨k, hk, rfl, HV, HX⟩ := hrel
        by_cases hkq : k < q
        · have hki : (k : Int) < (q : Int) := by omega
          have hld := K2.out.lt k hkq
          obtain ⟨rfl, hg1, -⟩ := HG.out (by omega)
          obtain ⟨vv, hcl, hrb⟩ := HV.out
          have RB := hid (hrb (by omega))
          have CL := hid hcl
          clear hcl hrb HV
          obtain ⟨kg, kb, kp, rfl, y1, y2, y3⟩ := K1.out.at_ hkq
          have HXX : Hid (Below W0.heap.size W0 wr) := by rw [HD.out]; exact HX.out
          have y2' := (HXX.out.cell (p := ⟨kg, k, none⟩) y1).trans y2
          have Y3 := hid y3
          have Y2 := hid y2
          have LD := hid (lead_any _ _ wr ((y3.below HXX.out).tbl.ints (cap := kp) (by omega)))
          have LO : Hid (∀ r, LeadAt ((List.range c).map (K k)) r → r = ld k) := fun r hr => lead_of hld (K2.out.ne k hkq) (K2.out.fst k hkq) hr
          clear y2 y3
          go_wp2_with fail
          refine LD.out.mono ?_
          rintro e w2 ⟨r, rfl, hr, h2⟩
          obtain rfl := h2.symm
          obtain rfl := LO.out r hr
          clear hr LO LD h2
          go_wp2_with fail
          -- the loop that looks for f
          have hva := CL.out.rng (ld k) hld
          have hkb := K2.out.rng k hkq (ld k) hld
          have hkn := K2.out.ne k hkq
          obtain ⟨n1, n2, n3⟩ := fcN_spec HP.out hva.1 hva.2 (by omega : 0 < K k (ld k)) hkb.2
          obtain ⟨n, hn⟩ : ∃ n, fcN p (vv (ld k)) (K k (ld k)) = n := ⟨_, rfl⟩
          rw [hn] at n1 n2 n3
          have N2 := hid n2
          have N3 := hid n3
          clear n2 n3 hn
          have hldi : (ld k : Int) < (c : Int) := by omega
          obtain ⟨va, hvaE⟩ : ∃ va, vv (ld k) = va := ⟨_, rfl⟩
          obtain ⟨kx, hkxE⟩ : ∃ kx, K k (ld k) = kx := ⟨_, rfl⟩
          have VAE := hid hvaE
          have KXE := hid hkxE
          rw [hvaE] at hva N2 N3
          rw [hkxE] at hkb hkn N2 N3
          clear hvaE hkxE y2'
          have HRB : Hid (RowB wr g c vv) := RB.out
          go_loopw [10] (fun f wr => ∃ z : Nat, z ≤ n ∧ f = .int .i64 z ∧ Hid (RowB wr g c vv) ∧ Hid (Below D W0 wr)) (fun f _ => n - (intOf f).toNat)
          case atStart => exact ⟨0, Nat.zero_le _, rfl, RB.out, HX.out⟩
          case round =>
            obtain ⟨z, hz, rfl, HR2, HX2⟩ := hrel
            have HXX2 : Hid (Below W0.heap.size W0 wr) := by rw [HD.out]; exact HX2.out
            have s2 := (HXX2.out.cell (p := ⟨kg, k, none⟩) y1).trans Y2.out
            have c1 := HR2.out.tbl.cell (ld k) hld
            rw [VAE.out] at c1
            have c2 := (Y3.out.below HXX2.out).tbl.cell (ld k) hld
            rw [KXE.out] at c2
            obtain ⟨m1, hm1, HM1⟩ : ∃ m1, (z : Int) * kx = m1 ∧ Hid ((z : Int) * kx = m1) := ⟨_, rfl, rfl⟩
            have b1 : 0 ≤ m1 ∧ m1 ≤ 49 := by
              rw [← HM1.out]
              refine ⟨Int.mul_nonneg (by omega) (by omega), ?_⟩
              have := Int.mul_le_mul (show (z : Int) ≤ 7 by omega) (show kx ≤ 7 by omega) (by omega) (by omega)
              omega
            obtain ⟨m3, hm3, HM3⟩ : ∃ m3, va + m1 = m3 ∧ Hid (va + m1 = m3) := ⟨_, rfl, rfl⟩
            have b3 : 0 ≤ m3 ∧ m3 ≤ 98 := by omega
            obtain ⟨qq, hq, HQ⟩ : ∃ qq, Int.tmod m3 p = qq ∧ Hid ((va + (z : Int) * kx) % p = qq) := ⟨_, rfl, by
              show _ = Int.tmod m3 p
              rw [Int.tmod_eq_emod_of_nonneg b3.1, HM1.out, HM3.out]⟩
            have b4 : 0 ≤ qq ∧ qq < p := by rw [← hq, Int.tmod_eq_emod_of_nonneg b3.1]; exact ⟨Int.emod_nonneg _ (by omega), Int.emod_lt_of_pos _ (by omega)⟩
            have hw1 : IntKind.i64.wrap m1 = m1 := IntWalk.i64_in _ (by omega)
            have hw3 : IntKind.i64.wrap m3 = m3 := IntWalk.i64_in _ (by omega)
            have hw4 : IntKind.i64.wrap qq = qq := IntWalk.i64_in _ (by omega)
            by_cases hzn : z < n
            · have hne : (qq != 0) = true := by
                have := N3.out z hzn
                rw [HQ.out] at this
                simpa using this
              clear HM1 HM3 HQ HXX2
              go_wp2_with fail
              go_quiet (fail)
              go_wp2_with fail
              exact ⟨⟨z + 1, by omega, by go_num, HR2.out.drewN _, below_drewN HX2.out _⟩, by simp [intOf]; omega⟩
            · obtain rfl : z = n := by omega
              have hne : (qq != 0) = false := by
                have := N2.out
                rw [HQ.out] at this
                simpa using this
              clear HM1 HM3 HQ HXX2
              go_wp2_with fail
              go_quiet (fail)
              go_wp2_with fail
              clear s2 c1 c2 hm1 hm3 hq hw1 hw3 hw4 hne b1 b3 b4 hz
              go_loopw [11] (fun j wr => ∃ y : Nat, y ≤ c ∧ j = .int .i64 y ∧ Hid (RowB wr g c (fun r => if r < y then (vv r + (z : Int) * K k r) % p else vv r)) ∧ Hid (Below D W0 wr)) (fun j _ => c - (intOf j).toNat)
              case atStart => exact ⟨0, Nat.zero_le _, rfl, (HR2.out.drewN _).congr fun i _ => by rw [if_neg (by omega)], below_drewN HX2.out _⟩
              case round =>
                obtain ⟨y, hy, rfl, HR3, HX3⟩ := hrel
                have HXX3 : Hid (Below W0.heap.size W0 wr) := by rw [HD.out]; exact HX3.out
                by_cases hyc : y < c
                · have hyi : (y : Int) < (c : Int) := by omega
                  have s2 := (HXX3.out.cell (p := ⟨kg, k, none⟩) y1).trans Y2.out
                  have c1 := HR3.out.tbl.cell y hyc
                  rw [if_neg (by omega)] at c1
                  have c3 := HR3.out.tbl.frozen y
                  have c2 := (Y3.out.below HXX3.out).tbl.cell y hyc
                  have r1 := CL.out.rng y hyc
                  have r2 := K2.out.rng k hkq y hyc
                  obtain ⟨xv, hxv⟩ : ∃ xv, vv y = xv := ⟨_, rfl⟩
                  obtain ⟨xk, hxk⟩ : ∃ xk, K k y = xk := ⟨_, rfl⟩
                  have XV := hid hxv
                  have XK := hid hxk
                  rw [hxv] at c1 r1
                  rw [hxk] at c2 r2
                  clear hxv hxk
                  obtain ⟨m1, hm1, HM1⟩ : ∃ m1, (z : Int) * xk = m1 ∧ Hid ((z : Int) * xk = m1) := ⟨_, rfl, rfl⟩
                  have b1 : 0 ≤ m1 ∧ m1 ≤ 49 := by
                    rw [← HM1.out]
                    refine ⟨Int.mul_nonneg (by omega) (by omega), ?_⟩
                    have := Int.mul_le_mul (show (z : Int) ≤ 7 by omega) (show xk ≤ 7 by omega) (by omega) (by omega)
                    omega
                  obtain ⟨m3, hm3, HM3⟩ : ∃ m3, xv + m1 = m3 ∧ Hid (xv + m1 = m3) := ⟨_, rfl, rfl⟩
                  have b3 : 0 ≤ m3 ∧ m3 ≤ 98 := by omega
                  obtain ⟨qq, hq, HQ⟩ : ∃ qq, Int.tmod m3 p = qq ∧ Hid ((xv + (z : Int) * xk) % p = qq) := ⟨_, rfl, by
                    show _ = Int.tmod m3 p
                    rw [Int.tmod_eq_emod_of_nonneg b3.1, HM1.out, HM3.out]⟩
                  have b4 : 0 ≤ qq ∧ qq < p := by rw [← hq, Int.tmod_eq_emod_of_nonneg b3.1]; exact ⟨Int.emod_nonneg _ (by omega), Int.emod_lt_of_pos _ (by omega)⟩
                  have hw1 : IntKind.i64.wrap m1 = m1 := IntWalk.i64_in _ (by omega)
                  have hw3 : IntKind.i64.wrap m3 = m3 := IntWalk.i64_in _ (by omega)
                  have hw4 : IntKind.i64.wrap qq = qq := IntWalk.i64_in _ (by omega)
                  have G1 := hid (HR3.out.set y qq hyc (f' := fun r => if r < y + 1 then (vv r + (z : Int) * K k r) % p else vv r) fun i hi => by
                    by_cases e : y = i
                    · subst e; rw [if_pos rfl, if_pos (by omega), XV.out, XK.out, HQ.out]
                    · rw [if_neg e]
                      by_cases e2 : i < y
                      · rw [if_pos e2, if_pos (by omega)]
                      · rw [if_neg e2, if_neg (by omega)]).drew
                  have G2 := hid (HX3.out.setCell (p := ⟨g, y, none⟩) hg1 (.int .i64 qq)).drew
                  clear HR3 HX3 HXX3 HM1 HM3 HQ XV XK HR2 HX2 HRB RB HX HXX CL Y3 Y2
                  go_wp2_with fail
                  go_region_with fail
                  all_goals go_wp2_with fail
                  all_goals exact ⟨⟨y + 1, by omega, by go_num, G1.out, G2.out⟩, by simp [intOf]; omega⟩
                · obtain rfl : y = c := by omega
                  have hnc : ¬ (y : Int) < (y : Int) := by omega
                  have CL2 := hid (CL.out.step HP.out K2.out hkq (z : Int) (by rw [VAE.out, KXE.out]; exact N2.out))
                  have RB2 := hid (HR3.out.congr (f' := fun r => (vv r + (z : Int) * K k r) % p) fun i hi => by rw [if_pos hi])
                  clear HXX3
                  go_wp2_with fail
                  exact ⟨⟨k + 1, by omega, by go_num, ⟨_, CL2.out, fun _ => RB2.out⟩, HX3.out⟩, by simp [intOf]; omega⟩
        · obtain rfl : k = q := by omega
          have hnk : ¬ (k : Int) < (k : Int) := by omega
          obtain ⟨vv, hcl, hrb⟩ := HV.out
          have hI : Ints wr (.slice av c cv) ((List.range c).map vv) := by
            by_cases h0 : 0 < c
            · obtain ⟨rfl, -, -⟩ := HG.out h0
              exact (hrb h0).tbl.ints (by omega)
            · exact ⟨av, cv, by simp, by simp; omega, fun h => by simp at h; omega⟩
          have LD := hid (lead_any _ _ wr hI)
          have CL := hid hcl
          have RB := hid hrb
          have HXX : Hid (Below W0.heap.size W0 wr) := by rw [HD.out]; exact HX.out
          have HWB : Hid (Below B w wr) := HW.out.trans (HX.out.mono hBs)
          have TC := hid (K1.out.below HXX.out)
          clear hI hcl hrb HV
          go_wp2_with fail
          refine LD.out.mono ?_
          rintro e w2 ⟨r, rfl, hr, h2⟩
          obtain rfl := h2.symm
          clear LD h2
          rcases hr with ⟨rfl, hz⟩ | ⟨j, rfl, hj, hj1, hj2⟩
          · have LV := hid (CL.out.leave (f0 := F) (i := t) (fun r hr => by
              have := hz r (by simpa using hr)
              simpa [List.getD, hr] using this) rfl K3.out K4.out)
            clear hz
            go_wp2_with fail
            exact ⟨⟨t + 1, k, ka, kc, by omega, by omega, by go_num, rfl, ⟨K, ld, TC.out, K2.out, LV.out.1, LV.out.2⟩, HWB.out⟩, by simp [intOf]; omega⟩
          · have hjc : j < c := by simpa using hj
            have hv1 : vv j ≠ 0 := by simpa [List.getD, hjc] using hj1
            have hv2 : ∀ r, r < j → vv r = 0 := fun r hr => by
              have := hj2 r hr
              simpa [List.getD, show r < c by omega] using this
            obtain ⟨rfl, hg1, -⟩ := HG.out (by omega)
            have RG := RB.out (by omega)
            have hKq : (fun i => if i = k then vv else K i) k = vv := if_pos rfl
            have hKi : ∀ i, i < k → (fun i => if i = k then vv else K i) i = K i := fun i hi => if_neg (by omega)
            have LV := hid (CL.out.keep (f0 := F) (i := t) hKi hKq rfl K3.out K4.out)
            have KP := hid (K2.out.snoc hKi hKq hjc hv1 hv2 (fun i hi => CL.out.nil i hi) CL.out.rng)
            obtain ⟨us, u1, u2, u3⟩ := TC.out.congr hKi
            have KRG := hid RG
            have U1 := hid u1
            have U2 := hid u2
            have U3 := hid u3
            have hus : us.length ≤ 16 := by omega
            have hDs : D ≤ wr.heap.size := by rw [← HD.out]; exact HXX.out.size
            have hj0 : ¬ (j : Int) < 0 := by omega
            have hj0' : (0 : Int) ≤ (j : Int) := by omega
            clear u1 u2 u3 RG hj hj1 hj2 hv1 hv2 hKq hKi TC RB CL
            go_wp2_with (at_builtin; refine wpList_append_own _ rfl _ _ 22 rfl B 28 i0 (.slice none 0 0) 1 24 Tryd.undRowsI hi0 hz0 hz1 hz2 rfl (by decide) _ _ _ rfl (U2.out.alloc _) ⟨wr.heap.size, 0, none⟩ 1 1 [.slice (some ⟨g, 0, none⟩) c cv] rfl rfl ?d1 ?d2 ?d3 ?d4 ?d5 ?_)
            case d1 => exact cell_one_new _ _ _
            case d2 => first | rfl | (intro u hu; simp at hu; subst hu; rfl)
            case d3 => first | (unfold maxLen; omega) | omega
            case d4 => omega
            case d5 => first | omega | (simp; omega)
            intro v' w7 hown' hgrow _
            obtain ⟨gv, cv', rfl⟩ : ∃ gv cv, v' = .slice (some ⟨gv, 0, none⟩) (k + 1) cv := by
              rcases Go.Joins.ownsRow_forms hown' with ⟨rfl, h0⟩ | ⟨g', cap', rfl⟩
              · omega
              · exact ⟨_, _, rfl⟩
            have TS := hid (TotC.snoc (g := g) (cg := cv) U1.out U2.out U3.out (by rw [if_pos rfl]; exact KRG.out) hown' hgrow)
            have hbG : Below B wr w7 := ((Below.refl _ wr).alloc (by omega) _).grown hgrow (by simp; omega) (fun j hj => (World.ownsRow.lt U2.out j hj).1)
            have HB8 := hid (HWB.out.trans hbG)
            clear hown' hgrow hbG
            go_wp2_with fail
            exact ⟨⟨t + 1, k + 1, _, _, by omega, by omega, by go_num, rfl, ⟨_, _, TS.out, KP.out, LV.out.1, LV.out.2⟩, HB8.out⟩, by simp [intOf]; omega⟩
    · obtain rfl : t = N := by omega
      have hne : ¬ (t : Int) < (t : Int) := by omega
      obtain ⟨K, ld, k1, k2, k3, k4⟩ := HK.out
      have HQ := hid (HNUM.out q K ld k2 k3 k4)
      clear k1 k2 k3 k4 HK
      go_wp2_with fail
      go_ret
      exact ⟨by rw [← HQ.out]; rfl, HW.out⟩
end Go.Proofs.YtdabkgbbalooiaaDoor
