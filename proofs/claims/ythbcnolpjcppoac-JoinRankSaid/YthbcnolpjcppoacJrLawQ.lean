/- The law rotakeep.JoinRank. -/
import Derived.Test.YthbcnolpjcppoacJoUQ
namespace Go.Proofs.Ythbcnolpjcppoac
open Go.RowKit

theorem pop_fulm : ∀ n : Nat, n ≤ 8 → pop (2 ^ n - 1) = n := by decide +kernel
theorem full_dif {m t : Nat} (hm : m ≤ 8) (ht : t < 2 ^ m) : pop (dif (2 ^ m - 1) t) + pop t = m := by
  rw [pop_split (full_sub ht), pop_fulm m hm]
theorem two_uni : uniN 4 twoL twoL = [15] := by decide +kernel
set_option maxRecDepth 100000 in
set_option maxHeartbeats 4000000 in
theorem jrank_law (n : Int) (v : Value) (zs : List Int) (k : Int) (u : Value) (ys : List Int) (w : World) (h : Ints w v zs) (h' : Ints w u ys) :
    Calls Try.prog 3 #[.agg #[.int .i64 n, v], .agg #[.int .i64 k, u]] w fun e w' => e = .returned (.bool true) ∧ Below w.heap.size w w' := by
  have B0 := box2_below w n v k u
  have HV0 := hid (h.below B0)
  have HU0 := hid (h'.below B0)
  obtain ⟨a0, cap, rfl, -, -⟩ := h
  obtain ⟨a1, cap1, rfl, -, -⟩ := h'
  have HX : Hid (∀ w2, Below (box2 w n (.slice a0 zs.length cap) k (.slice a1 ys.length cap1)).heap.size (box2 w n (.slice a0 zs.length cap) k (.slice a1 ys.length cap1)) w2 → _) := fun w2 h => box2_blocks h
  have HSZ := hid (box2_size w n (.slice a0 zs.length cap) k (.slice a1 ys.length cap1))
  go_enter Try.func3, Try.ntmps3
  go_wp2_with fail
  refine (two_any _).mono ?_
  rintro e w1 ⟨v1, rfl, hi1, hb1⟩
  go_wp2_with fail
  refine (two_any _).mono ?_
  rintro e w2 ⟨v2, rfl, hi2, hb2⟩
  have UN := hid (Union_ok 4 v1 v2 twoL twoL w2 (by omega) two_fam two_bas (hi1.below hb2) two_fam two_bas hi2)
  rw [two_uni] at UN
  go_wp2_with fail
  refine UN.out.mono ?_
  rintro e w3 ⟨v3, rfl, ho3, hb3⟩
  obtain ⟨b3, c3, hv⟩ := ownsRow_form' ho3
  subst hv
  have hb23 := hb2.trans (hb3.mono hb2.size)
  have hb13 := hb1.trans (hb23.mono hb1.size)
  have HB3 := hid (B0.trans (hb13.mono B0.size))
  have HY := hid (HX.out w3 hb13)
  have HV3 := hid (HV0.out.below hb13)
  have HU3 := hid (HU0.out.below hb13)
  have hs3 : w.heap.size + 2 ≤ w3.heap.size := by rw [← HSZ.out]; exact hb13.size
  have hb4 : Below w3.heap.size w3 ((w3.alloc (.cells #[.int .i64 4, .slice b3 1 c3] 24)).alloc (.cells #[.int .i64 15] 3)) := ((Below.refl _ _).alloc (Nat.le_refl _) _).alloc (by simp) _
  have li := litsAt (w3.alloc (.cells #[.int .i64 4, .slice b3 1 c3] 24)) [15]
  rw [World.size_alloc] at li
  have SM := hid (Same_any _ _ (N [15]) (N [15]) _ ((ho3.ints (by decide)).below hb4) li)
  rw [decide_eq_true (p := N [15] = N [15]) rfl] at SM
  have HB4 := hid hb4
  clear hb1 hb2 hb3 hb23 hb13 hi1 hi2 UN HX B0 HV0 HU0 li hb4 ho3
  go_wp2_with fail
  refine SM.out.mono ?_
  rintro e w5 ⟨rfl, hb5⟩
  have hb45 : Below w3.heap.size w3 w5 := HB4.out.trans (hb5.mono HB4.out.size)
  have HB5 := hid (HB3.out.trans (hb45.mono HB3.out.size))
  have HV5 := hid (HV3.out.below hb45)
  have HU5 := hid (HU3.out.below hb45)
  have hs5 : w.heap.size + 2 ≤ w5.heap.size := Nat.le_trans hs3 hb45.size
  obtain ⟨y0, y1⟩ := HY.out
  obtain ⟨x0, x1⟩ := cells2 ((hb45.block w.heap.size (by omega)).trans y0)
  obtain ⟨x2, x3⟩ := cells2 ((hb45.block (w.heap.size + 1) (by omega)).trans y1)
  have HZ0 := hid ((hb45.block w.heap.size (by omega)).trans y0)
  have HZ1 := hid ((hb45.block (w.heap.size + 1) (by omega)).trans y1)
  clear hb5 hb45 y0 y1 HY SM HB4 HB3 HV3 HU3 hs3 HSZ
  by_cases hq : uniQ n zs k ys = 0
  · obtain ⟨m, l, l', rfl, rfl, hm, rfl, rfl, hf, hb, hf', hb'⟩ := uni_of hq
    have U1 := hid (Union_ok m _ _ l l' w5 hm hf hb HV5.out hf' hb' HU5.out)
    clear hq
    rw [N_len l] at *
    rw [N_len l'] at *
    go_wp2_with fail
    refine U1.out.mono ?_
    rintro e w6 ⟨v6, rfl, ho6, hb6⟩
    obtain ⟨b6, c6, hv⟩ := ownsRow_form' ho6
    subst hv
    obtain ⟨acc, HACC⟩ : ∃ acc : List Nat, Hid (uniN m l l' = acc) := ⟨_, rfl⟩
    rw [HACC.out] at ho6
    rw [HACC.out]
    have hb7 : Below w6.heap.size w6 (w6.alloc (.cells #[.int .i64 m, .slice b6 acc.length c6] 24)) := (Below.refl _ _).alloc (Nat.le_refl _) _
    have hb57 := hb6.trans (hb7.mono hb6.size)
    have HO7 := hid (ho6.below hb7)
    have HB7 := hid (HB5.out.trans (hb57.mono HB5.out.size))
    have HV7 := hid (HV5.out.below hb57)
    have HU7 := hid (HU5.out.below hb57)
    have hs7 : w.heap.size + 2 ≤ w6.heap.size := Nat.le_trans hs5 hb6.size
    have HY0 := hid ((hb57.block w.heap.size (by omega)).trans HZ0.out)
    have HY1 := hid ((hb57.block (w.heap.size + 1) (by omega)).trans HZ1.out)
    obtain ⟨t0, t1⟩ := cells2 HY0.out
    obtain ⟨t2, t3⟩ := cells2 HY1.out
    have HY2 : Hid ((w6.alloc (.cells #[.int .i64 m, .slice b6 acc.length c6] 24)).heap[w6.heap.size]? = some (.cells #[.int .i64 m, .slice b6 acc.length c6] 24 (0, 0))) := World.alloc_heap_new w6 _
    have hz7 : (w6.alloc (.cells #[.int .i64 m, .slice b6 acc.length c6] 24)).heap.size = w6.heap.size + 1 := World.size_alloc ..
    clear hb57 HZ0 HZ1 x0 x1 x2 x3 HB5 HV5 HU5 hb6 ho6 U1 hb7
    have R1 := hid (Ranks_ok m _ l _ hm hf hb HV7.out)
    go_wp2_with fail
    refine R1.out.mono ?_
    rintro e w8 ⟨r8, rfl, hr8, hb8⟩
    have HR8 := hid hr8
    obtain ⟨p8, o8, d8, rfl, -, -⟩ := hr8
    have HO8 := hid (HO7.out.below hb8)
    have HB8 := hid (HB7.out.trans (hb8.mono HB7.out.size))
    have HU8 := hid (HU7.out.below hb8)
    have hs8 : w6.heap.size + 1 ≤ w8.heap.size := by rw [← hz7]; exact hb8.size
    have HZ0 := hid ((hb8.block w.heap.size (by omega)).trans HY0.out)
    have HZ1 := hid ((hb8.block (w.heap.size + 1) (by omega)).trans HY1.out)
    have HZ2 := hid ((hb8.block w6.heap.size (by omega)).trans HY2.out)
    obtain ⟨x0, x1⟩ := cells2 HZ0.out
    obtain ⟨x2, x3⟩ := cells2 HZ1.out
    clear t0 t1 t2 t3 HY0 HY1 HY2 hb8 HB7 HV7 HU7 HO7 R1 hz7
    have R2 := hid (Ranks_ok m _ l' _ hm hf' hb' HU8.out)
    go_wp2_with fail
    refine R2.out.mono ?_
    rintro e w9 ⟨r9, rfl, hr9, hb9⟩
    have HR9 := hid hr9
    have HR9' := hid (HR8.out.below hb9)
    obtain ⟨p9, o9, d9, rfl, -, -⟩ := hr9
    have HO9 := hid (HO8.out.below hb9)
    have HB9 := hid (HB8.out.trans (hb9.mono HB8.out.size))
    have hs9 : w6.heap.size + 1 ≤ w9.heap.size := Nat.le_trans hs8 hb9.size
    have HY0 := hid ((hb9.block w.heap.size (by omega)).trans HZ0.out)
    have HY2 := hid ((hb9.block w6.heap.size (by omega)).trans HZ2.out)
    obtain ⟨t0, t1⟩ := cells2 HY0.out
    obtain ⟨t2, t3⟩ := cells2 HY2.out
    clear x0 x1 x2 x3 HZ0 HZ1 HZ2 hb9 HB8 HU8 HO8 R2 HR8 hs8
    obtain ⟨L, HL⟩ : ∃ L : Nat → Nat, Hid (∀ k, L k = lowF (fun t => rk l t + rk l' t) (2 ^ m - 1) k m) := ⟨_, fun _ => rfl⟩
    have HSt : Hid (∀ k, k < 2 ^ m → L (k + 1) = min (L k) (rk l k + rk l' k + m - pop k) ∧ pop k ≤ m) := fun k hk => by
      have hd := full_dif hm hk
      rw [HL.out, HL.out, lowF_succ, if_pos (full_sub hk)]
      have e : rk l k + rk l' k + pop (dif (2 ^ m - 1) k) = rk l k + rk l' k + m - pop k := by omega
      refine ⟨?_, by omega⟩
      rw [e]
    have HL8 : Hid (∀ k, L k ≤ 8) := fun k => by rw [HL.out]; exact Nat.le_trans (lowF_le _ _ _ _).1 hm
    have L0 : L 0 = m := HL.out 0
    have HK1 := hid (rk_small hm hf)
    have HK2 := hid (rk_small hm hf')
    obtain ⟨T, HT⟩ : ∃ T, Hid (2 ^ m = T) := ⟨2 ^ m, Eq.refl (2 ^ m)⟩
    have hT256 : T ≤ 256 := by rw [← HT.out]; exact (pow_wrap m hm).2
    have hacc : 0 < acc.length := by
      rw [← HACC.out]
      exact List.length_pos_iff.2 ((uni_rkOn m hb hb').bas hm).ne
    have hac8 : acc.length ≤ 256 := by rw [← HACC.out]; exact fam_len hm (basR_fam m _)
    have hin : acc.getD 0 0 ∈ uniN m l l' := by
      rw [HACC.out]
      simp only [List.getD, List.getElem?_eq_getElem hacc, Option.getD_some]
      exact List.getElem_mem _
    have HP : Hid (pop (acc.getD 0 0) = L T ∧ acc.getD 0 0 < 256) := by
      obtain ⟨h1, h2, h3⟩ := mem_basR.1 hin
      refine ⟨?_, lt256 hm h1⟩
      rw [← h2, h3, HL.out]
      have ht0 := Nat.two_pow_pos m
      show lowF _ _ (2 ^ m - 1 + 1) (pop (2 ^ m - 1)) = _
      rw [pop_fulm m hm, ← HT.out]
      congr 1
      omega
    rw [HT.out] at HR9 HR9' HSt
    rw [HT.out]
    obtain ⟨b0, off0, rfl, hcb⟩ : ∃ b0 off0, b6 = some ⟨b0, off0, none⟩ ∧ ∀ w', Below w9.heap.size w9 w' → w'.cell? ⟨b0, off0, none⟩ = some (.int .i64 (acc.getD 0 0 : Nat)) := by
      obtain ⟨q1, q2, q3, q4, q5⟩ := (HO9.out.ints (by omega)).nats
      obtain ⟨b0, off0, rfl, hbb, hcl⟩ := q5 (by omega)
      obtain ⟨rfl, rfl⟩ : b6 = some ⟨b0, off0, none⟩ ∧ c6 = q2 := by simpa using q3
      exact ⟨b0, off0, rfl, fun w' hb' => (hb'.cell (p := ⟨b0, off0, none⟩) hbb).trans (hcl 0 (by omega))⟩
    have HCB := hid hcb
    clear hcb hin HACC
    generalize acc.getD 0 0 = z0 at *
    go_wp2_with fail
    go_loopw [13, 61] (fun u i wr => ∃ k : Nat, k ≤ T ∧ i = .int .i64 k ∧ u = .int .i64 (L k : Nat) ∧ Hid (Below w9.heap.size w9 wr)) (fun _ i _ => T - (intOf i).toNat)
    case atStart => exact ⟨0, Nat.zero_le _, rfl, by rw [L0], Below.refl _ _⟩
    case round =>
      obtain ⟨k, hk, rfl, rfl, HBk⟩ := hrel
      by_cases hlt : k < T
      · have cA : ∀ x : Later wr, x.now.cell? ⟨p8, o8 + k, none⟩ = some (.int .i64 (rk l k : Nat)) := fun x => by
          have hbx := HBk.out.trans (x.kept.mono HBk.out.size)
          obtain ⟨b, off, cp, e, h1, h2⟩ := HR9'.out.below hbx
          obtain ⟨⟨rfl, rfl⟩, rfl⟩ : (p8 = b ∧ o8 = off) ∧ d8 = cp := by simpa using e
          exact h2 k hlt
        have cB : ∀ x : Later wr, x.now.cell? ⟨p9, o9 + k, none⟩ = some (.int .i64 (rk l' k : Nat)) := fun x => by
          have hbx := HBk.out.trans (x.kept.mono HBk.out.size)
          obtain ⟨b, off, cp, e, h1, h2⟩ := HR9.out.below hbx
          obtain ⟨⟨rfl, rfl⟩, rfl⟩ : (p9 = b ∧ o9 = off) ∧ d9 = cp := by simpa using e
          exact h2 k hlt
        have cN : ∀ x : Later wr, x.now.cell? ⟨w.heap.size, 0, none⟩ = some (.int .i64 m) := fun x => by
          have hbx := HBk.out.trans (x.kept.mono HBk.out.size)
          exact (hbx.cell (p := ⟨w.heap.size, 0, none⟩) (by show w.heap.size < _; omega)).trans t0
        have HS := hid (fun w' => Size_any k w' (by omega))
        obtain ⟨st, hpk⟩ := HSt.out k hlt
        have b1 := HK1.out k
        have b2 := HK2.out k
        have b3 := HL8.out k
        have ST := hid st
        clear st
        generalize rk l k = x1 at *
        generalize rk l' k = x2 at *
        generalize pop k = x3 at *
        generalize L k = x4 at *
        go_wp2_with fail
        refine region_later (by kernel_rfl) (by kernel_rfl) ?_
        repeat (go_big_quiet_step ((go_at_call 8; refine (HS.out _).mono ?_; rintro e w' ⟨rfl, hb9⟩; exact ⟨rfl, Later.on _ hb9⟩)))
        refine wpQuiet_nil ?_
        intro w6' hw'
        obtain ⟨⟨y6, hb6⟩, hw''⟩ := hw'
        dsimp only at hw''
        subst hw''
        have HB6 := hid (HBk.out.trans (hb6.mono HBk.out.size))
        clear hb6 cA cB cN
        go_wp2_with fail
        go_roundw
        case rel =>
          refine ⟨k + 1, by omega, by go_num, ?_, HB6.out⟩
          have e : (if (x1 : Int) + x2 + m - x3 < x4 then (x1 : Int) + x2 + m - x3 else x4) = (L (k + 1) : Int) := by
            rw [ST.out]
            split <;> omega
          rw [e]
        case measure => simp [intOf]; omega
      · obtain rfl : k = T := by omega
        have c2 := (HBk.out.cell (p := ⟨w6.heap.size, 1, none⟩) (by show w6.heap.size < _; omega)).trans t3
        have c4 := HCB.out wr HBk.out
        obtain ⟨hp1, hp2⟩ := HP.out
        have hl0 : (0 : Int) < (acc.length : Int) := by omega
        have SZ := hid (Size_any z0 wr hp2)
        rw [hp1] at SZ
        clear hp1
        go_wp2_with fail
        refine SZ.out.mono ?_
        rintro e w10 ⟨rfl, hb10⟩
        have hb9x := HBk.out.trans (hb10.mono HBk.out.size)
        have HBF := hid (HB9.out.trans (hb9x.mono HB9.out.size))
        clear hb9x hb10 c2 c4
        go_wp2_with fail
        go_ret
        exact ⟨ret_bool (by simp), HBF.out⟩
  · have U1 := hid (uni_none n k _ _ zs ys w5 HV5.out HU5.out hq)
    generalize uniQ n zs k ys = q at *
    have hq' : (q == 0) = false := by rw [beq_eq_false_iff_ne]; exact hq
    go_wp2_with fail
    refine U1.out.mono ?_
    rintro e w6 ⟨rfl, hb6⟩
    have HB6 := hid (HB5.out.trans (hb6.mono HB5.out.size))
    have HB7 := hid (HB6.out.alloc (Nat.le_trans HB6.out.size (Nat.le_refl _)) (.cells #[.int .i64 0, .slice none 0 0] 24))
    clear hb6
    go_wp2_with fail
    go_ret
    exact ⟨rfl, HB7.out⟩
end Go.Proofs.Ythbcnolpjcppoac
