/- A number divided by ten; its text. -/
import Derived.Test.YtfajbmcdkhgipaaDoorBgNW
import Derived.Test.YtfajbmcdkhgipaaDoorWdGW
namespace Go.Proofs.YtfajbmcdkhgipaaDoor
open Go.RowKit

theorem or_nought (x : Nat) (hx : x < 4294967296) : bits .or .u64 0 (x : Int) = (x : Int) := by
  show IntKind.u64.wrap ((BitVec.ofInt 64 ((0 : Nat) : Int) ||| BitVec.ofInt 64 (x : Int)).toNat : Int) = _
  rw [BitVec.toNat_or, ofInt_i64 0 (by omega), ofInt_i64 x (by omega), Nat.zero_or]
  simp [IntKind.wrap, IntKind.bits, IntKind.signed]
  omega
theorem one_fresh2 (w : World) (z : Nat) (hz : z < 4294967296) :
    Calls Tryd.prog 45 #[.slice (some ⟨w.heap.size, 0, none⟩) 1 1] (w.alloc (.cells #[.int .u32 z] 71)) fun e w' => ∃ v, e = .returned v ∧ Hid (Wd w' v z) ∧ Hid (Below w.heap.size w w') ∧ Hid (z = 0 ∨ ∃ cap, v = .slice (some ⟨w.heap.size, 0, none⟩) 1 cap) := by
  by_cases h0 : z = 0
  · subst h0
    exact (one_trim w).mono fun e w' ⟨v, h1, h2, h3⟩ => ⟨v, h1, h2, h3, .inl rfl⟩
  · have c0 : (w.alloc (.cells #[.int .u32 z] 71)).cell? ⟨w.heap.size, 0, none⟩ = some (.int .u32 z) := by rw [World.cell?_alloc_at _ _ _ _ rfl]; rfl
    have hxz : ((z : Int) == 0) = false := by rw [beq_eq_false_iff_ne]; omega
    have hb := (Below.refl _ w).alloc (Nat.le_refl _) (.cells #[.int .u32 z] 71)
    have hs := World.size_alloc w (.cells #[.int .u32 z] 71)
    revert c0 hb hs
    generalize w.alloc (.cells #[.int .u32 z] 71) = W
    intro c0 hb hs
    have HB := hid' hb
    go_enter Tryd.func45, Tryd.ntmps45
    go_wp2
    refine wp_loop_rounds 1 ?_
    rw [rounds_succ]
    go_wp2
    go_ret
    exact ⟨_, rfl, .inr ⟨by omega, hz, _, _, _, rfl, Nat.le_refl _, by omega, c0⟩, HB.out, .inr ⟨_, rfl⟩⟩
set_option maxRecDepth 20000 in
set_option maxHeartbeats 2000000 in
theorem small_any (x y z : Nat) (v : Value) (w : World) (hv : Wd w v x) (h0 : 0 < x) (hxy : x = 10 * y + z) (hz : z < 10) :
    Calls Tryd.prog 38 #[v, .int .u32 10] w fun e w' => ∃ u, e = .returned (.tuple #[u, .int .u32 (z : Int)]) ∧ Wd w' u y ∧ Below w.heap.size w w' ∧ (y = 0 ∨ ∃ cap, u = .slice (some ⟨w.heap.size, 0, none⟩) 1 cap) := by
  have hmk1 : ∀ w, (Instr.makeSlice 51 (.int .i64 1) (.int .i64 1)).run Tryd.prog w = .ok (.slice (some ⟨w.heap.size, 0, none⟩) 1 1) (w.alloc (.cells #[.int .u32 0] 71)) := fun _ => by kernel_rfl
  rcases hv with ⟨rfl, -⟩ | ⟨h1, h2, b, off, cap, rfl, h4, h5, h6⟩
  · omega
  · have hor := or_nought x h2
    have htd : (x : Int).tdiv 10 = (y : Int) := by rw [Int.tdiv_eq_ediv_of_nonneg (by omega)]; omega
    have htm : (x : Int).tmod 10 = (z : Int) := by rw [Int.tmod_eq_emod_of_nonneg (by omega)]; omega
    have hwr : IntKind.u64.wrap (y : Int) = (y : Int) := by simp [IntKind.wrap, IntKind.bits, IntKind.signed]; omega
    have hmo : (y : Int) % 4294967296 = (y : Int) := by omega
    have hz2 : (z : Int) % 4294967296 = z := by omega
    have OF := hid' (one_fresh2 w y (by omega))
    have e1 : (x : Int) / 10 = (y : Int) := by omega
    have e2 : (x : Int) % 10 = (z : Int) := by omega
    clear hxy
    go_enter Tryd.func38, Tryd.ntmps38
    go_wp2_with fail
    refine wp_loop_rounds 2 ?_
    rw [rounds_succ]
    go_wp2_with fail
    clear hor htd htm hwr hmo e1 e2
    rw [rounds_succ]
    go_wp2_with fail
    refine OF.out.mono ?_
    rintro e w1 ⟨u, rfl, HV, HB, HN⟩
    clear OF
    go_wp2_with fail
    refine bodyPost_ret (results_tmp2 rfl _ _ _) rfl ⟨_, rfl, HV.out, HB.out, HN.out⟩
end Go.Proofs.YtfajbmcdkhgipaaDoor

namespace Go.Proofs.YtfajbmcdkhgipaaDoor
open Go.RowKit Go.Lib

set_option maxRecDepth 20000 in
set_option maxHeartbeats 4000000 in
theorem Text_s (xb : Nat) (x : Int) (w : World) (hx : IntS w xb x) (hb : x.natAbs < 4294967296) :
    Calls Tryd.prog 25 #[.pointer (some ⟨xb, 0, none⟩), .int .i64 10] w fun e w' => e = .returned (.string ⟨(decZ x).toArray⟩) ∧ Below w.heap.size w w' := by
  obtain ⟨v, v1, v2⟩ := hx.abs
  have n1 := hx.neg
  have hxl := hx.lt
  by_cases h0 : x = 0
  · subst h0
    rcases v2 with ⟨-, a, cap, rfl⟩ | ⟨h1, -⟩
    · have hd : (decZ 0).toArray = #[48] := by decide +kernel
      rw [hd]
      go_enter Tryd.func25, Tryd.ntmps25
      go_wp2_with fail
      go_ret
      exact ⟨rfl, Below.refl _ _⟩
    · simp at h1
  · have TW := hid' (twin_any _ v w v2)
    rcases v2 with ⟨h1, -⟩ | ⟨h1, h2, b, off, cap, rfl, h4, h5, h6⟩
    · omega
    · go_enter Tryd.func25, Tryd.ntmps25
      go_wp2_with fail
      refine TW.out.mono ?_
      rintro e w1 ⟨t, rfl, ht, hb1⟩
      have T := hid' ht
      obtain ⟨ta, tn, tc, rfl⟩ := ht.form
      have B := hid' hb1
      clear ht hb1 TW
      obtain ⟨i0, hi0, hz0, hz1, hz2⟩ := info_parts Tryd.infoByte
      have HLEN := hid' (dgs_len 9 x.natAbs (by omega))
      have hxl' := hid' hxl
      go_wp2_with fail
      go_loopw [5, 6, 7] (fun bv av _ wr => ∃ (u : Nat) (acc : List Nat) (ua : Option Addr) (un uc : Nat) (ba : Option Addr) (bc : Nat), av = .slice ua un uc ∧ bv = .slice ba acc.length bc ∧ Hid (Wd wr (.slice ua un uc) u) ∧ Hid (OwnU w.heap.size wr (.slice ba acc.length bc) acc) ∧ Hid (acc ++ ((if u = 0 then [] else dgs u).map (48 + ·)) = (dgs x.natAbs).map (48 + ·)) ∧ Hid (Below w.heap.size w wr)) (fun bv _ _ _ => 100 - lenV bv)
      case atStart => exact ⟨x.natAbs, [], _, _, _, none, 0, rfl, rfl, T.out, OwnU.nil _ _, by rw [if_neg (by omega)]; rfl, B.out⟩
      case round =>
        obtain ⟨u, acc, ua, un, uc, ba, bc, rfl, rfl, HU, HO, HR, HW⟩ := hrel
        by_cases hu : u = 0
        · subst hu
          obtain rfl : un = 0 := by
            rcases HU.out with ⟨-, a, cap, h⟩ | ⟨h, -⟩
            · cases h; rfl
            · omega
          have HR' : Hid (acc = (dgs x.natAbs).map (48 + ·)) := by
            show _ = _
            have := HR.out
            simpa using this
          have m1 := (HW.out.cell (p := ⟨xb, 0, none⟩) hxl'.out).trans n1
          clear HR HU
          have hne : acc ≠ [] := by rw [HR'.out]; simpa using dgs_ne x.natAbs
          go_upto_if 52 with fail
          go_cut [5] from 50 to 55 (fun v' W => ∃ (L : List Nat) (a c : Nat), v' = .slice (some ⟨a, 0, none⟩) L.length c ∧ 0 < L.length ∧ L.length ≤ 20 ∧ Hid (w.heap.size ≤ a) ∧ Hid (TblU a W L.length (fun i => L.getD i 0)) ∧ Hid (L.reverse.map UInt8.ofNat = decZ x) ∧ Hid (Below w.heap.size w W))
          case first =>
            have hl10 : acc.length ≤ 10 := by rw [HR'.out]; simpa using HLEN.out
            have hlp : 0 < acc.length := List.length_pos_iff.2 hne
            have hswr := hid' HW.out.size
            by_cases hneg : x < 0
            · rw [decide_eq_true hneg]
              have ED : Hid ((acc ++ [45]).reverse.map UInt8.ofNat = decZ x) := by
                show _ = _
                unfold decZ decT
                rw [if_pos hneg, HR'.out, show (-x).toNat = x.natAbs by omega]
                simp [Function.comp_def]
              have HLP := hid' hlp
              have HL10 := hid' hl10
              clear hlp hl10 hne
              go_wp2_with (at_builtin; refine wpList_append_own _ rfl _ _ 70 rfl w.heap.size 5 i0 (.int .u8 0) 1 1 Tryd.undBytes hi0 hz0 hz1 hz2 rfl (by decide) _ _ _ rfl (HO.out.alloc _) ⟨wr.heap.size, 0, none⟩ 1 1 [.int .u8 ((45 : Nat) : Int)] rfl rfl ?c1 ?c2 ?c3 ?c4 ?c5 ?_)
              case c1 => exact cell_one_new _ _ _
              case c2 => intro u hu; simp at hu; subst hu; rfl
              case c3 => have := HL10.out; unfold maxLen; omega
              case c4 => have := HL10.out; omega
              case c5 => simp; have := hswr.out; omega
              intro v' w7 hown' hgrow _
              have R3 := hid' (OwnU.snoc hown')
              have R4 := OwnU.grown HO.out (Below.refl _ wr) hswr.out hgrow
              have R6 := hid' (HW.out.trans R4)
              have hform : ∃ g' cap', v' = .slice (some ⟨g', 0, none⟩) (acc.length + 1) cap' := by
                rcases Go.Joins.ownsRow_forms hown' with ⟨rfl, h0⟩ | ⟨g', cap', rfl⟩
                · omega
                · exact ⟨_, _, rfl⟩
              obtain ⟨g', cap', rfl⟩ := hform
              obtain ⟨g2, c2, hv2, hg2, ht2⟩ := R3.out.tbl (by simp)
              injection hv2 with q1 q2 q3
              cases q1
              cases q3
              have HG2 := hid' hg2
              have HT2 := hid' ht2
              clear hown' hgrow R4 ht2 hg2 q2 HO HW
              go_wp2_with fail
              go_meet
              exact ⟨acc ++ [45], g', cap', by simp, by simp, by have := HL10.out; simp; omega, HG2.out, HT2.out, ED.out, R6.out⟩
            · rw [decide_eq_false hneg]
              obtain ⟨g2, c2, hv2, hg2, ht2⟩ := HO.out.tbl hne
              cases hv2
              have ED : Hid (acc.reverse.map UInt8.ofNat = decZ x) := by
                show _ = _
                unfold decZ decT
                rw [if_neg hneg, HR'.out, show x.toNat = x.natAbs by omega]
                simp [Function.comp_def]
              have HG2 := hid' hg2
              have HT2 := hid' ht2
              have HLP := hid' hlp
              have HL10 := hid' hl10
              clear ht2 hg2 hlp hl10 hne HO
              go_wp2_with fail
              go_meet
              exact ⟨acc, _, _, rfl, HLP.out, by have := HL10.out; omega, HG2.out, HT2.out, ED.out, HW.out⟩
          case rest =>
            obtain ⟨L, ga, gc, rfl, hl0, hl20, HGA, HT, HE, HB⟩ := hcut
            clear HO HW HR' hne n1 m1 T B HLEN
            have CV0 : Hid (strOfNums (L.reverse.map fun x : Nat => (x : Int)) = ⟨(decZ x).toArray⟩) := by
              show _ = _
              rw [← HE.out]
              unfold strOfNums
              simp [Function.comp_def]
            have HLL : Hid (L.reverse.length = L.length) := List.length_reverse
            obtain ⟨f, hf⟩ : ∃ f : Nat → Nat, (fun i => L.getD i 0) = f := ⟨_, rfl⟩
            have HRV : Hid (∀ i, i < L.length → (L.reverse.map fun x : Nat => (x : Int))[i]? = some ((f (L.length - 1 - i) : Nat) : Int)) := fun i hi => by
              have h9 : L.length - 1 - i < L.length := by omega
              rw [← hf]
              simp [List.getD, hi, h9]
            rw [hf] at HT
            clear hf
            obtain ⟨T, hTT⟩ : ∃ T, L.length = T := ⟨_, rfl⟩
            rw [hTT] at HT HLL HRV hl0 hl20 ⊢
            clear hTT
            generalize L.reverse = M at *
            go_wp2_with fail
            go_loopw [8, 9, 10] (fun i j _ wr => ∃ k : Nat, 2 * k ≤ T + 1 ∧ i = .int .i64 k ∧ j = .int .i64 ((T : Int) - 1 - k) ∧ Hid (TblU ga wr T (rvF T f k)) ∧ Hid (Below w.heap.size w wr)) (fun i _ _ _ => T + 1 - (intOf i).toNat)
            case atStart => exact ⟨0, by omega, rfl, by simp, HT.out.congr fun i hi => by unfold rvF; rw [if_neg (by omega)], HB.out⟩
            case round =>
              obtain ⟨k, hk, rfl, rfl, HK, HW⟩ := hrel
              by_cases hlt : 2 * k < T - 1
              · obtain ⟨j, hj, hj2⟩ : ∃ j : Nat, (T : Int) - 1 - (k : Int) = (j : Int) ∧ Hid (j + k + 1 = T) := ⟨T - 1 - k, by omega, by show _ = _; omega⟩
                rw [hj]
                have hkj : (k : Int) < (j : Int) := by omega
                have hkT : (k : Int) < (T : Int) := by omega
                have hjT : (j : Int) < (T : Int) := by have := hj2.out; omega
                have c1 := HK.out.cell k (by omega)
                have c2 := HK.out.cell j (by have := hj2.out; omega)
                have f1 := HK.out.frozen k (by omega)
                have f2 := HK.out.frozen j (by have := hj2.out; omega)
                have e1 : rvF T f k k = f k := by unfold rvF; rw [if_neg (by omega)]
                have e2 : rvF T f k j = f j := by have := hj2.out; unfold rvF; rw [if_neg (by omega)]
                rw [e1] at c1
                rw [e2] at c2
                have NT : Hid (TblU ga ((wr.setCell ⟨ga, k, none⟩ (.int .u8 (f j : Nat))).setCell ⟨ga, j, none⟩ (.int .u8 (f k : Nat))) T (rvF T f (k + 1))) := by
                  have h1 := hj2.out
                  refine (HK.out.set (f' := fun i => if k = i then f j else rvF T f k i) k (f j) (by omega) (fun i _ => rfl)).set j (f k) (by omega) fun i hi => ?_
                  unfold rvF
                  by_cases ej : j = i
                  · subst ej
                    rw [if_pos rfl, if_pos (by omega)]
                    congr 1; omega
                  · rw [if_neg ej]
                    by_cases ek : k = i
                    · subst ek
                      rw [if_pos rfl, if_pos (by omega)]
                      congr 1; omega
                    · rw [if_neg ek]
                      by_cases hc : i < k ∨ T ≤ i + k
                      · rw [if_pos hc, if_pos (by omega)]
                      · rw [if_neg hc, if_neg (by omega)]
                have hgw : w.heap.size ≤ ga := HGA.out
                have B1 := hid' ((HW.out.setCell (p := ⟨ga, k, none⟩) hgw (.int .u8 (f j : Nat))).setCell (p := ⟨ga, j, none⟩) hgw (.int .u8 (f k : Nat)))
                have hne : ¬ k = j := by omega
                have hne' : ¬ j = k := by omega
                have hjm : Hid ((j : Int) - 1 = (T : Int) - 1 - ((k + 1 : Nat) : Int)) := by show _ = _; omega
                have hk2 : Hid (2 * (k + 1) ≤ T + 1) := by show _ ≤ _; omega
                clear HK HW e1 e2 hk hlt hj hgw CV0 HRV HT HB
                generalize f k = fk at *
                generalize f j = fj at *
                go_wp2_with fail
                go_roundw
                case rel => exact ⟨k + 1, hk2.out, by go_num, by rw [hjm.out], NT.out, B1.out⟩
                case measure => have := hk2.out; simp [intOf]; omega
              · have HF : Hid (TblU ga wr T fun i => f (T - 1 - i)) := HK.out.congr fun i hi => by
                  unfold rvF
                  by_cases hc : i < k ∨ T ≤ i + k
                  · rw [if_pos hc]
                  · rw [if_neg hc]; congr 1; omega
                have hn : ¬ (k : Int) < (T : Int) - 1 - (k : Int) := by omega
                have CV := run_convert_bytes_arg (P := Tryd.prog) wr 70 5 Tryd.undBytes Tryd.undByte ga 0 T gc (M.map fun x : Nat => (x : Int)) (by simpa using HLL.out) (fun i hi => by
                  rw [Nat.zero_add, HF.out.cell i hi, List.getD_eq_getElem?_getD, HRV.out i hi]
                  rfl) 9 Tryd.undStr
                rw [CV0.out] at CV
                clear HK HF HT HB
                go_wp2_with fail
                go_ret
                exact ⟨rfl, HW.out⟩
        · obtain rfl : un = 1 := by
            rcases HU.out with ⟨h, -⟩ | ⟨-, -, b, off, cap, h, -⟩
            · omega
            · cases h; rfl
          have hu10 : u % 10 < 10 := Nat.mod_lt _ (by omega)
          have hu11 : u = 10 * (u / 10) + u % 10 := by omega
          have SM := hid' (small_any u (u / 10) (u % 10) _ wr HU.out (by omega) hu11 hu10)
          have HR' : Hid (acc ++ [48 + u % 10] ++ ((if u / 10 = 0 then [] else dgs (u / 10)).map (48 + ·)) = (dgs x.natAbs).map (48 + ·)) := by
            show _ = _
            have h9 : acc ++ ((if u = 0 then [] else dgs u).map (48 + ·)) = (dgs x.natAbs).map (48 + ·) := HR.out
            rw [if_neg hu] at h9
            rw [← h9]
            by_cases hq : u / 10 = 0
            · rw [if_pos hq, dgs_low (by omega), show u % 10 = u by omega]; simp
            · rw [if_neg hq, dgs_high (u := u) (by omega)]; simp
          have hlen : acc.length ≤ 10 := by
            have h9 := congrArg List.length (show acc ++ ((if u = 0 then [] else dgs u).map (48 + ·)) = (dgs x.natAbs).map (48 + ·) from HR.out)
            have := HLEN.out
            simp at h9
            omega
          clear HR HU hu hu11
          generalize u / 10 = y at *
          generalize u % 10 = z at *
          have hzz : (z : Int) < 10 := by omega
          obtain ⟨q, hq, hq2⟩ : ∃ q : Nat, (48 : Int) + (z : Int) = (q : Int) ∧ Hid (q = 48 + z) := ⟨48 + z, by omega, rfl⟩
          have hq3 : IntKind.u8.wrap (q : Int) = (q : Int) := by have := hq2.out; rw [IntKind.wrap_u8]; omega
          have hq4 : (q : Int) % 4294967296 = (q : Int) := by have := hq2.out; omega
          have hq5 : (q : Int) % 256 = (q : Int) := by have := hq2.out; omega
          go_wp2_with fail
          refine SM.out.mono ?_
          rintro e w2 ⟨t2, rfl, ht2, hb2, hn2⟩
          have T2 := hid' ht2
          have N2 := hid' hn2
          obtain ⟨t2a, t2n, t2c, rfl⟩ := ht2.form
          have B2 := hid' (HW.out.trans (hb2.mono HW.out.size))
          have O2 := hid' (HO.out.below hb2)
          have hs2 := hid' B2.out.size
          have hlo : Hid (∀ k, (Value.slice ba acc.length bc).ownBlock = some k → k < wr.heap.size) := fun k e => (World.ownsRow.lt HO.out k e).2
          have hsr := hid' hb2.size
          clear ht2 hb2 hn2 SM HO HW
          go_wp2_with (at_builtin; refine wpList_append_own _ rfl _ _ 70 rfl w.heap.size 5 i0 (.int .u8 0) 1 1 Tryd.undBytes hi0 hz0 hz1 hz2 rfl (by decide) _ _ _ rfl (O2.out.alloc _) ⟨w2.heap.size, 0, none⟩ 1 1 [.int .u8 (q : Nat)] rfl rfl ?c1 ?c2 ?c3 ?c4 ?c5 ?_)
          case c1 => exact cell_one_new _ _ _
          case c2 => intro u hu; simp at hu; subst hu; rfl
          case c3 => unfold maxLen; omega
          case c4 => omega
          case c5 => simp; have := hs2.out; omega
          intro v' w7 hown' hgrow _
          have R3 := hid' (OwnU.snoc hown')
          have R4 := OwnU.grown O2.out (Below.refl _ w2) hs2.out hgrow
          have R6 := hid' (B2.out.trans R4)
          have R5 : Hid (Wd w7 (.slice t2a t2n t2c) y) := by
            rcases T2.out with h | ⟨k1, k2, b2, o2, c2, e2, k4, k5, k6⟩
            · exact .inl h
            · rcases N2.out with h | ⟨c3, h⟩
              · omega
              · rw [e2] at h
                simp only [Value.slice.injEq, Option.some.injEq, Addr.mk.injEq, and_true, true_and] at h
                obtain ⟨⟨rfl, rfl⟩, rfl⟩ := h
                have hne : ¬ some wr.heap.size = (Value.slice ba acc.length bc).ownBlock := fun e => by
                  have := hlo.out _ e.symm
                  omega
                have h7 : w7.heap[wr.heap.size]? = w2.heap[wr.heap.size]? := by
                  rw [hgrow.block _ (by simp; omega) hne, Below.heap_alloc _ _ _ (by omega)]
                refine .inr ⟨k1, k2, _, _, _, e2, k4, ?_, ?_⟩
                · have := hgrow.size; simp at this; omega
                · rw [← k6]; simp [World.cell?, h7]
          have hform : ∃ g' cap', v' = .slice (some ⟨g', 0, none⟩) (acc.length + 1) cap' := by
            rcases Go.Joins.ownsRow_forms hown' with ⟨rfl, h0⟩ | ⟨g', cap', rfl⟩
            · omega
            · exact ⟨_, _, rfl⟩
          obtain ⟨g', cap', rfl⟩ := hform
          have HR2 : Hid ((acc ++ [q]) ++ ((if y = 0 then [] else dgs y).map (48 + ·)) = (dgs x.natAbs).map (48 + ·)) := by rw [hq2.out]; exact HR'.out
          have HLA := hid' hlen
          clear R4 hown' hgrow T2 N2 B2 O2 hs2 hlo hsr HR' hq hq3 hq4 hq5 hlen hzz
          go_wp2_with fail
          go_roundw
          case rel => exact ⟨y, acc ++ [q], _, _, _, some ⟨g', 0, none⟩, cap', rfl, by simp, R5.out, (show OwnU _ _ _ _ from by simpa using R3.out), HR2.out, R6.out⟩
          case measure => have := HLA.out; simp [lenV]; omega
end Go.Proofs.YtfajbmcdkhgipaaDoor
