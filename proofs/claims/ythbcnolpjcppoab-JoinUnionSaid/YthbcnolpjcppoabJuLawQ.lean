/- The law rotakeep.JoinUnion. -/
import Derived.Test.YthbcnolpjcppoabJrLawQ
import Derived.Test.YthbcnolpjcppoabCvDQ
import Derived.Test.YthbcnolpjcppoabPlainAll
import Derived.Test.YthbcnolpjcppoabThoseQ
namespace Go.Proofs.Ythbcnolpjcppoab
open Go.RowKit

theorem N_injU {l l2 : List Nat} (h : N l = N l2) : l = l2 := by
  rw [← toNats l, h, toNats]
theorem uniQ_sym {n : Int} {zs : List Int} {k : Int} {ys : List Int} (hq : uniQ n zs k ys ≠ 0) : uniQ k ys n zs ≠ 0 := fun h => by
  obtain ⟨m, l, l', rfl, rfl, hm, rfl, rfl, hf, hb, hf', hb'⟩ := uni_of h
  apply hq
  unfold uniQ chk2
  rw [chk_mk hm hf hb, chk_mk hm hf' hb']
  simp
set_option maxRecDepth 100000 in
set_option maxHeartbeats 4000000 in
theorem junion_law (n : Int) (v : Value) (zs : List Int) (k : Int) (u : Value) (ys : List Int) (w : World) (h : Ints w v zs) (h' : Ints w u ys) :
    Calls Try.prog 7 #[.agg #[.int .i64 n, v], .agg #[.int .i64 k, u]] w fun e w' => e = .returned (.bool true) ∧ Below w.heap.size w w' := by
  have B0 := box2_below w n v k u
  have HV0 := hid (h.below B0)
  have HU0 := hid (h'.below B0)
  obtain ⟨a0, cap, rfl, -, -⟩ := h
  obtain ⟨a1, cap1, rfl, -, -⟩ := h'
  have HX : Hid (∀ w2, Below (box2 w n (.slice a0 zs.length cap) k (.slice a1 ys.length cap1)).heap.size (box2 w n (.slice a0 zs.length cap) k (.slice a1 ys.length cap1)) w2 → _) := fun w2 h => box2_blocks h
  have HSZ := hid (box2_size w n (.slice a0 zs.length cap) k (.slice a1 ys.length cap1))
  go_enter Try.func7, Try.ntmps7
  go_wp2_with fail
  refine (two_any _).mono ?_
  rintro e w1 ⟨v1, rfl, hi1, hb1⟩
  go_wp2_with fail
  refine (two_any _).mono ?_
  rintro e w2 ⟨v2, rfl, hi2, hb2⟩
  have UN := hid (Union_ok 4 v1 v2 twoL twoL w2 (by omega) two_fam two_bas (hi1.below hb2) two_fam two_bas hi2)
  rw [two_uni] at UN
  go_wp2_with fail
  refine UN.out.mono ?_
  rintro e w3 ⟨v3, rfl, ho3, hb3⟩
  obtain ⟨b3, c3, hv⟩ := ownsRow_form' ho3
  subst hv
  have hb23 := hb2.trans (hb3.mono hb2.size)
  have hb13 := hb1.trans (hb23.mono hb1.size)
  have HB3 := hid (B0.trans (hb13.mono B0.size))
  have HY := hid (HX.out w3 hb13)
  have HV3 := hid (HV0.out.below hb13)
  have HU3 := hid (HU0.out.below hb13)
  have hs3 : w.heap.size + 2 ≤ w3.heap.size := by rw [← HSZ.out]; exact hb13.size
  have hb4 : Below w3.heap.size w3 ((w3.alloc (.cells #[.int .i64 4, .slice b3 1 c3] 24)).alloc (.cells #[.int .i64 15] 3)) := ((Below.refl _ _).alloc (Nat.le_refl _) _).alloc (by simp) _
  have li := litsAt (w3.alloc (.cells #[.int .i64 4, .slice b3 1 c3] 24)) [15]
  rw [World.size_alloc] at li
  have SM := hid (Same_any _ _ (N [15]) (N [15]) _ ((ho3.ints (by decide)).below hb4) li)
  rw [decide_eq_true (p := N [15] = N [15]) rfl] at SM
  have HB4 := hid hb4
  clear hb1 hb2 hb3 hb23 hb13 hi1 hi2 UN HX B0 HV0 HU0 li hb4 ho3
  go_wp2_with fail
  refine SM.out.mono ?_
  rintro e w5 ⟨rfl, hb5⟩
  have hb45 : Below w3.heap.size w3 w5 := HB4.out.trans (hb5.mono HB4.out.size)
  have HB5 := hid (HB3.out.trans (hb45.mono HB3.out.size))
  have HV5 := hid (HV3.out.below hb45)
  have HU5 := hid (HU3.out.below hb45)
  have hs5 : w.heap.size + 2 ≤ w5.heap.size := Nat.le_trans hs3 hb45.size
  obtain ⟨y0, y1⟩ := HY.out
  obtain ⟨x0, x1⟩ := cells2 ((hb45.block w.heap.size (by omega)).trans y0)
  obtain ⟨x2, x3⟩ := cells2 ((hb45.block (w.heap.size + 1) (by omega)).trans y1)
  have HZ0 := hid ((hb45.block w.heap.size (by omega)).trans y0)
  have HZ1 := hid ((hb45.block (w.heap.size + 1) (by omega)).trans y1)
  clear hb5 hb45 y0 y1 HY SM HB4 HB3 HV3 HU3 hs3 HSZ
  by_cases hq : uniQ n zs k ys = 0
  · obtain ⟨m, l, l', rfl, rfl, hm, rfl, rfl, hf, hb, hf', hb'⟩ := uni_of hq
    have U1 := hid (Union_ok m _ _ l l' w5 hm hf hb HV5.out hf' hb' HU5.out)
    clear hq
    rw [N_len l] at *
    rw [N_len l'] at *
    go_wp2_with fail
    refine U1.out.mono ?_
    rintro e w6 ⟨v6, rfl, ho6, hb6⟩
    obtain ⟨b6, c6, hv⟩ := ownsRow_form' ho6
    subst hv
    have hb7 : Below w6.heap.size w6 (w6.alloc (.cells #[.int .i64 m, .slice b6 (uniN m l l').length c6] 24)) := (Below.refl _ _).alloc (Nat.le_refl _) _
    have hb57 := hb6.trans (hb7.mono hb6.size)
    have HO7 := hid (ho6.below hb7)
    have HB7 := hid (HB5.out.trans (hb57.mono HB5.out.size))
    have HV7 := hid (HV5.out.below hb57)
    have HU7 := hid (HU5.out.below hb57)
    have hs7 : w.heap.size + 2 ≤ w6.heap.size := Nat.le_trans hs5 hb6.size
    have HY0 := hid ((hb57.block w.heap.size (by omega)).trans HZ0.out)
    have HY1 := hid ((hb57.block (w.heap.size + 1) (by omega)).trans HZ1.out)
    obtain ⟨t0, t1⟩ := cells2 HY0.out
    obtain ⟨t2, t3⟩ := cells2 HY1.out
    have HY2 : Hid ((w6.alloc (.cells #[.int .i64 m, .slice b6 (uniN m l l').length c6] 24)).heap[w6.heap.size]? = some (.cells #[.int .i64 m, .slice b6 (uniN m l l').length c6] 24 (0, 0))) := World.alloc_heap_new w6 _
    have hz7 : (w6.alloc (.cells #[.int .i64 m, .slice b6 (uniN m l l').length c6] 24)).heap.size = w6.heap.size + 1 := World.size_alloc ..
    clear hb57 HZ0 HZ1 x0 x1 x2 x3 HB5 HV5 HU5 hb6 ho6 U1 hb7
    have U2 := hid (Union_ok m _ _ l' l _ hm hf' hb' HU7.out hf hb HV7.out)
    rw [uniN_comm m l' l] at U2
    go_wp2_with fail
    refine U2.out.mono ?_
    rintro e w8 ⟨v8, rfl, ho8, hb8⟩
    obtain ⟨b8, c8, hv⟩ := ownsRow_form' ho8
    subst hv
    have hs8 : w6.heap.size + 1 ≤ w8.heap.size := by rw [← hz7]; exact hb8.size
    have hb9 : Below w8.heap.size w8 (w8.alloc (.cells #[.int .i64 m, .slice b8 (uniN m l l').length c8] 24)) := (Below.refl _ _).alloc (Nat.le_refl _) _
    have hb79 := hb8.trans (hb9.mono hb8.size)
    have HO9 := hid (HO7.out.below hb79)
    have HP9 := hid (ho8.below hb9)
    have HB9 := hid (HB7.out.trans (hb79.mono HB7.out.size))
    have HV9 := hid (HV7.out.below hb79)
    have HZ0 := hid ((hb79.block w.heap.size (by omega)).trans HY0.out)
    have HZ2 := hid ((hb79.block w6.heap.size (by omega)).trans HY2.out)
    have HZ3 : Hid ((w8.alloc (.cells #[.int .i64 m, .slice b8 (uniN m l l').length c8] 24)).heap[w8.heap.size]? = some (.cells #[.int .i64 m, .slice b8 (uniN m l l').length c8] 24 (0, 0))) := World.alloc_heap_new w8 _
    have hz9 : (w8.alloc (.cells #[.int .i64 m, .slice b8 (uniN m l l').length c8] 24)).heap.size = w8.heap.size + 1 := World.size_alloc ..
    obtain ⟨x0, x1⟩ := cells2 HZ0.out
    obtain ⟨x2, x3⟩ := cells2 HZ2.out
    obtain ⟨x4, x5⟩ := cells2 HZ3.out
    have hul : (uniN m l l').length ≤ 256 := fam_len hm (basR_fam m _)
    have SA := hid (SameMatroid_any m m _ _ (N (uniN m l l')) (N (uniN m l l')) _ (HO9.out.ints (by omega)) (HP9.out.ints (by omega)))
    rw [decide_eq_true (p := (m : Int) = m) rfl, decide_eq_true (p := N (uniN m l l') = N (uniN m l l')) rfl, Bool.and_self] at SA
    clear t0 t1 t2 t3 HY0 HY1 HY2 hb8 hb79 hb9 ho8 HB7 HV7 HU7 HO7 U2 hz7
    go_wp2_with fail
    refine SA.out.mono ?_
    rintro e w10 ⟨rfl, hb10⟩
    have hs10 : w8.heap.size + 1 ≤ w10.heap.size := by rw [← hz9]; exact hb10.size
    have HO10 := hid (HO9.out.below hb10)
    have HB10 := hid (HB9.out.trans (hb10.mono HB9.out.size))
    have HV10 := hid (HV9.out.below hb10)
    have HY0 := hid ((hb10.block w.heap.size (by omega)).trans HZ0.out)
    have HY2 := hid ((hb10.block w6.heap.size (by omega)).trans HZ2.out)
    obtain ⟨t0, t1⟩ := cells2 HY0.out
    obtain ⟨t2, t3⟩ := cells2 HY2.out
    have CK := hid (check_any m _ (N (uniN m l l')) w10 (HO10.out.ints (by omega)))
    rw [show chkR m (N (uniN m l l')) = 0 from chk_mk hm (basR_fam m _) ((uni_rkOn m hb hb').bas hm)] at CK
    clear x0 x1 x2 x3 x4 x5 HZ0 HZ2 HZ3 hb10 SA HO9 HP9 HB9 HV9 hz9
    go_wp2_with fail
    refine CK.out.mono ?_
    rintro e w11 ⟨rfl, hb11⟩
    have hs11 : w.heap.size + 2 ≤ w11.heap.size := Nat.le_trans (by omega : w.heap.size + 2 ≤ w10.heap.size) hb11.size
    have HB11 := hid (HB10.out.trans (hb11.mono HB10.out.size))
    have HV11 := hid (HV10.out.below hb11)
    have HZ0 := hid ((hb11.block w.heap.size (by omega)).trans HY0.out)
    obtain ⟨x0, x1⟩ := cells2 HZ0.out
    clear t0 t1 t2 t3 HY0 HY2 hb11 CK HO10 HB10 HV10
    by_cases hq : rwlQ m (N l) = 0
    · obtain ⟨m', l2, e1, -, e2, -, -, hl⟩ := rwlQ_of hq
      obtain rfl : m = m' := by omega
      obtain rfl : l = l2 := N_injU e2
      have C1 := hid (Cover_ok m _ l w11 hm hf hb HV11.out hl)
      clear hq e1 e2
      go_wp2_with fail
      refine C1.out.mono ?_
      rintro e w12 ⟨v12, rfl, ho12, hb12⟩
      obtain ⟨b12, c12, hv⟩ := ownsRow_form' ho12
      subst hv
      have HB12 := hid (HB11.out.trans (hb12.mono HB11.out.size))
      have HV12 := hid (HV11.out.below hb12)
      have HY0 := hid ((hb12.block w.heap.size (by omega)).trans HZ0.out)
      have hs12 : w.heap.size + 2 ≤ w12.heap.size := Nat.le_trans hs11 hb12.size
      obtain ⟨t0, t1⟩ := cells2 HY0.out
      clear hb12 ho12 x0 x1 HZ0 C1 HB11 HV11
      by_cases hm0 : m = 0
      · subst hm0
        go_wp2_with fail
        go_ret
        exact ⟨ret_bool (by simp), HB12.out⟩
      · have hm0' : ((m : Int) == 0) = false := by rw [beq_eq_false_iff_ne]; omega
        have hm0'' : ¬ (m : Int) = 0 := by omega
        have HNW : Hid (∀ k, _) := fun k => now_is hm hf hb k
        have HNF : Hid (∀ k, 1 ≤ k → k ≤ (covL m (rk l)).length → ((nowL m l (k - 1)).getD 0 0 = 2 ^ m - 1 ↔ k = (covL m (rk l)).length)) := fun k h1 h2 => by
          rw [now_full hm hf hb hl (k - 1), ← covL_len hm (hb.rkOn m) hl]
          omega
        have hc9 := cov_len9 (n := m) (r := rk l)
        have hb13 : Below w12.heap.size w12 (w12.alloc (.cells #[.int .i64 m, .slice a0 l.length cap] 24)) := (Below.refl _ _).alloc (Nat.le_refl _) _
        have HB13 := hid hb13
        have HV13 := hid (HV12.out.below hb13)
        obtain ⟨n0, n1, n2, n3⟩ := two_cells (World.alloc_heap_new w12 (.cells #[.int .i64 m, .slice a0 l.length cap] 24))
        have HN0 := hid n0
        have HN1 := hid n1
        have HN2 := hid n2
        have HN3 := hid n3
        clear hb13 n0 n1 n2 n3
        obtain ⟨T, HT, hT2, hT1⟩ : ∃ T : Nat, Hid (2 ^ m = T) ∧ T ≤ 256 ∧ 1 ≤ T := ⟨2 ^ m, Eq.refl (2 ^ m), (pow_wrap _ hm).2, Nat.one_le_two_pow⟩
        rw [HT.out] at HNF
        generalize covL m (rk l) = L at *
        go_wp2_with fail
        go_loopw [8, 13] (fun u i wr => ∃ (k : Nat) (b : Option Addr) (c : Nat), 1 ≤ k ∧ k ≤ L.length + 1 ∧ i = .int .i64 k ∧ u = .int .i64 0 ∧ Hid (wr.cell? ⟨w12.heap.size, 0, none⟩ = some (.int .i64 m)) ∧ Hid (wr.cell? ⟨w12.heap.size, 1, none⟩ = some (.slice b (nowL m l (k - 1)).length c)) ∧ Hid (wr.frozen? ⟨w12.heap.size, 0, none⟩ = false) ∧ Hid (wr.frozen? ⟨w12.heap.size, 1, none⟩ = false) ∧ Hid (Ints wr (.slice b (nowL m l (k - 1)).length c) (N (nowL m l (k - 1)))) ∧ Hid (Below w12.heap.size w12 wr)) (fun _ i _ => L.length + 1 - (intOf i).toNat)
        case atStart => exact ⟨1, a0, cap, Nat.le_refl _, by omega, rfl, rfl, HN0, HN1, HN2, HN3, HV13, HB13⟩
        case round =>
          obtain ⟨k, b, c, hk1, hk, rfl, rfl, K0, K1, K2, K3, KI, KB⟩ := hrel
          have hsz : w12.heap.size < wr.heap.size := World.block_lt_of_cell? wr _ K0.out
          have c0 := (KB.out.cell (p := ⟨w.heap.size, 0, none⟩) (by show w.heap.size < _; omega)).trans t0
          have c1 := (KB.out.cell (p := ⟨w.heap.size, 1, none⟩) (by show w.heap.size < _; omega)).trans t1
          have HVr := hid (HV12.out.below KB.out)
          by_cases hlt : k ≤ L.length
          · obtain ⟨f1, f2, f3⟩ := HNW.out (k - 1)
            have hnf := HNF.out k hk1 hlt
            have hnl : 0 < (nowL m l (k - 1)).length := List.length_pos_iff.2 f2.ne
            have hn8 : (nowL m l (k - 1)).length ≤ 256 := fam_len hm f1
            have hh8 : (nowL m l (k - 1)).getD 0 0 < 256 := getD_lt (f1.lt256 hm) 0
            have UU := hid (fun w' (hb' : Below wr.heap.size wr w') => Union_ok m _ _ (nowL m l (k - 1)) l w' hm f1 f2 (KI.out.below hb') hf hb (HVr.out.below hb'))
            have HNX : Hid (uniN m (nowL m l (k - 1)) l = nowL m l (k + 1 - 1)) := by
              show _ = _
              rw [show k + 1 - 1 = (k - 1) + 1 by omega]
              rfl
            have hul : (uniN m (nowL m l (k - 1)) l).length ≤ 256 := fam_len hm (basR_fam m _)
            rw [HNX.out] at UU hul
            obtain ⟨b0, off0, rfl, hcb⟩ : ∃ b0 off0, b = some ⟨b0, off0, none⟩ ∧ wr.cell? ⟨b0, off0, none⟩ = some (.int .i64 ((nowL m l (k - 1)).getD 0 0 : Nat)) := by
              obtain ⟨q1, q2, q3, q4, q5⟩ := KI.out.nats
              obtain ⟨b0, off0, rfl, hbb, hcl⟩ := q5 (by omega)
              obtain ⟨rfl, rfl⟩ : b = some ⟨b0, off0, none⟩ ∧ c = q2 := by simpa using q3
              exact ⟨b0, off0, rfl, hcl 0 (by omega)⟩
            have d0 := K0.out
            have d1 := K1.out
            have AL := hid (fun w' => All_any m w' hm)
            rw [HT.out] at AL
            generalize hnx : nowL m l (k + 1 - 1) = nx at *
            generalize (nowL m l (k - 1)).getD 0 0 = hd at *
            generalize nowL m l (k - 1) = nw at *
            obtain ⟨bb, E1, E2⟩ : ∃ bb : Bool, ((hd : Int) == (T : Int) - 1) = bb ∧ ((k : Int) == (L.length : Int)) = bb := by
              refine ⟨((k : Int) == (L.length : Int)), ?_, rfl⟩
              rw [Bool.eq_iff_iff, beq_iff_eq, beq_iff_eq]
              omega
            have hnl' : ((nw.length : Int) == 0) = false := by rw [beq_eq_false_iff_ne]; omega
            have hnl'' : ¬ (nw.length : Int) = 0 := by omega
            have hnl3 : (0 : Int) < (nw.length : Int) := by omega
            have hlt' : (k : Int) ≤ (L.length : Int) := by omega
            clear f1 f2 f3 hnf
            go_wp2_with fail
            go_quiet ((go_at_call 43; refine (AL.out _).mono ?_; rintro e w' ⟨rfl, rfl⟩; exact ⟨rfl, _, rfl⟩))
            have e0 : (wr.drewN nq).cell? ⟨w12.heap.size, 0, none⟩ = some (.int .i64 m) := K0.out
            have e1 : (wr.drewN nq).cell? ⟨w12.heap.size, 1, none⟩ = some (.slice (some ⟨b0, off0, none⟩) nw.length c) := K1.out
            have e2 : (wr.drewN nq).cell? ⟨w.heap.size, 0, none⟩ = some (.int .i64 m) := c0
            have e3 : (wr.drewN nq).cell? ⟨w.heap.size, 1, none⟩ = some (.slice a0 l.length cap) := c1
            have U5 := hid (UU.out (wr.drewN nq) (drewN_below _ _ _))
            have HQ2 : Hid ((wr.drewN nq).frozen? ⟨w12.heap.size, 0, none⟩ = false) := K2.out
            have HQ3 : Hid ((wr.drewN nq).frozen? ⟨w12.heap.size, 1, none⟩ = false) := K3.out
            have HQB : Hid (Below w12.heap.size w12 (wr.drewN nq)) := KB.out.trans (drewN_below _ _ _)
            have hsq : w12.heap.size < (wr.drewN nq).heap.size := hsz
            have HE0 := hid e0
            have HE1 := hid e1
            clear d0 d1 c0 c1 hcb K0 K1 K2 K3 KI KB hsz UU HVr E1 E2
            generalize wr.drewN nq = W at *
            go_wp2_with fail
            refine U5.out.mono ?_
            rintro e w15 ⟨v15, rfl, ho15, hb15⟩
            obtain ⟨b15, c15, hv⟩ := ownsRow_form' ho15
            subst hv
            have f0 := (hb15.cell (p := ⟨w12.heap.size, 0, none⟩) hsq).trans HE0.out
            have f1 := (hb15.cell (p := ⟨w12.heap.size, 1, none⟩) hsq).trans HE1.out
            have g0 : w15.frozen? ⟨w12.heap.size, 0, none⟩ = false := (froz_below hb15 hsq).trans HQ2.out
            have g1 : w15.frozen? ⟨w12.heap.size, 1, none⟩ = false := (froz_below hb15 hsq).trans HQ3.out
            have R0 : Hid (((w15.setCell ⟨w12.heap.size, 0, none⟩ (.int .i64 m)).setCell ⟨w12.heap.size, 1, none⟩ (.slice b15 nx.length c15)).cell? ⟨w12.heap.size, 0, none⟩ = some (.int .i64 m)) := by
              refine (World.cell?_setCell_other _ _ _ _ (by simp)).trans ?_
              exact World.cell?_setCell_same' _ _ _ (by rw [f0]; rfl)
            have R1 : Hid (((w15.setCell ⟨w12.heap.size, 0, none⟩ (.int .i64 m)).setCell ⟨w12.heap.size, 1, none⟩ (.slice b15 nx.length c15)).cell? ⟨w12.heap.size, 1, none⟩ = some (.slice b15 nx.length c15)) := by
              refine World.cell?_setCell_same' _ _ _ ?_
              rw [World.cell?_setCell_other _ _ _ _ (by simp), f1]
              rfl
            have R2 : Hid (((w15.setCell ⟨w12.heap.size, 0, none⟩ (.int .i64 m)).setCell ⟨w12.heap.size, 1, none⟩ (.slice b15 nx.length c15)).frozen? ⟨w12.heap.size, 0, none⟩ = false) := (World.frozen?_setCell _ _ _ _).trans ((World.frozen?_setCell _ _ _ _).trans g0)
            have R3 : Hid (((w15.setCell ⟨w12.heap.size, 0, none⟩ (.int .i64 m)).setCell ⟨w12.heap.size, 1, none⟩ (.slice b15 nx.length c15)).frozen? ⟨w12.heap.size, 1, none⟩ = false) := (World.frozen?_setCell _ _ _ _).trans ((World.frozen?_setCell _ _ _ _).trans g1)
            have R4 := hid ((ho15.set2 (b := w12.heap.size) (x := .int .i64 m) (y := .slice b15 nx.length c15) hsq).ints (by omega))
            have R5 := hid (below_two (b := w12.heap.size) (x := .int .i64 m) (y := .slice b15 nx.length c15) (HQB.out.trans (hb15.mono HQB.out.size)) (Nat.le_refl _))
            clear hb15 ho15 e0 e1 e2 e3 U5
            go_wp2_with fail
            exact ⟨⟨k + 1, b15, c15, by omega, by omega, by go_num, rfl, R0, by rw [hnx]; exact R1, R2, R3, by rw [hnx]; exact R4, R5⟩, by simp [intOf]; omega⟩
          · have HBF := hid (HB12.out.trans (KB.out.mono HB12.out.size))
            go_wp2_with fail
            go_ret
            exact ⟨rfl, HBF.out⟩
    · have C1 := hid (Cover_bad m _ (N l) w11 HV11.out hq)
      generalize rwlQ m (N l) = q at *
      have hq' : (q == 0) = false := by rw [beq_eq_false_iff_ne]; exact hq
      go_wp2_with fail
      refine C1.out.mono ?_
      rintro e w12 ⟨rfl, hb12⟩
      have HB12 := hid (HB11.out.trans (hb12.mono HB11.out.size))
      clear hb12
      go_wp2_with fail
      go_ret
      exact ⟨rfl, HB12.out⟩
  · have U1 := hid (uni_none n k _ _ zs ys w5 HV5.out HU5.out hq)
    have U2 := hid (fun w' (hb' : Below w5.heap.size w5 w') => uni_none k n _ _ ys zs w' (HU5.out.below hb') (HV5.out.below hb') (uniQ_sym hq))
    generalize uniQ n zs k ys = q at *
    generalize uniQ k ys n zs = q2 at *
    have hq' : (q == 0) = false := by rw [beq_eq_false_iff_ne]; exact hq
    go_wp2_with fail
    refine U1.out.mono ?_
    rintro e w6 ⟨rfl, hb6⟩
    have hb7 : Below w6.heap.size w6 (w6.alloc (.cells #[.int .i64 0, .slice none 0 0] 24)) := (Below.refl _ _).alloc (Nat.le_refl _) _
    have hb57 := hb6.trans (hb7.mono hb6.size)
    have HB7 := hid (HB5.out.trans (hb57.mono HB5.out.size))
    have hs7 : w.heap.size + 2 ≤ w6.heap.size := Nat.le_trans hs5 hb6.size
    obtain ⟨t0, t1⟩ := cells2 ((hb57.block w.heap.size (by omega)).trans HZ0.out)
    obtain ⟨t2, t3⟩ := cells2 ((hb57.block (w.heap.size + 1) (by omega)).trans HZ1.out)
    have HY2 : Hid ((w6.alloc (.cells #[.int .i64 0, .slice none 0 0] 24)).heap[w6.heap.size]? = some (.cells #[.int .i64 0, .slice none 0 0] 24 (0, 0))) := World.alloc_heap_new w6 _
    have hz7 : (w6.alloc (.cells #[.int .i64 0, .slice none 0 0] 24)).heap.size = w6.heap.size + 1 := World.size_alloc ..
    have U3 := hid (U2.out _ hb57)
    clear hb57 hb6 hb7 U1 U2 HB5 x0 x1 x2 x3 HZ0 HZ1
    go_wp2_with fail
    refine U3.out.mono ?_
    rintro e w8 ⟨rfl, hb8⟩
    have hs8 : w6.heap.size + 1 ≤ w8.heap.size := by rw [← hz7]; exact hb8.size
    have hb9 : Below w8.heap.size w8 (w8.alloc (.cells #[.int .i64 0, .slice none 0 0] 24)) := (Below.refl _ _).alloc (Nat.le_refl _) _
    have hb79 := hb8.trans (hb9.mono hb8.size)
    have HB9 := hid (HB7.out.trans (hb79.mono HB7.out.size))
    obtain ⟨x2, x3⟩ := cells2 ((hb79.block w6.heap.size (by omega)).trans HY2.out)
    obtain ⟨x4, x5⟩ := cells2 (World.alloc_heap_new w8 (.cells #[.int .i64 0, .slice none 0 0] 24))
    clear hb8 hb9 hb79 t0 t1 t2 t3
    go_wp2_with fail
    go_ret
    exact ⟨rfl, HB9.out⟩
end Go.Proofs.Ythbcnolpjcppoab
