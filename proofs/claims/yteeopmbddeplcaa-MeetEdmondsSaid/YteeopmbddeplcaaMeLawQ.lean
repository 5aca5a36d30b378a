/- The law rotakeep.MeetEdmonds. -/
import Derived.Test.YteeopmbddeplcaaMtBQ
import Derived.Test.YteeopmbddeplcaaWgRQ
import Derived.Test.YteeopmbddeplcaaThoseQ
namespace Go.Proofs.Yteeopmbddeplcaa
open Go.RowKit

theorem two_com2 : comS 4 (rk twoL) (rk twoL) = 3 := by decide +kernel
theorem two_bar2 : barS 4 (rk twoL) (rk twoL) = 0 := by decide +kernel
theorem rk_cell {w w' : World} {b off cap T : Nat} {g : Nat → Nat} (h : RkAt w (.slice (some ⟨b, off, none⟩) T cap) T g) (hb : Below w.heap.size w w') {i : Nat} (hi : i < T) : w'.cell? ⟨b, off + i, none⟩ = some (.int .i64 (g i : Nat)) := by
  obtain ⟨b', off', cp', e, h1, h2⟩ := h.below hb
  obtain ⟨⟨rfl, rfl⟩, rfl⟩ : (b = b' ∧ off = off') ∧ cap = cp' := by simpa using e
  exact h2 i hi
set_option maxRecDepth 100000 in
set_option maxHeartbeats 4000000 in
theorem medm_law (n : Int) (v : Value) (zs : List Int) (k : Int) (u : Value) (ys : List Int) (x : Value) (ws : List Int) (w : World) (h : Ints w v zs) (h' : Ints w u ys) (hx : Ints w x ws) :
    Calls Try.prog 4 #[.agg #[.int .i64 n, v], .agg #[.int .i64 k, u], x] w fun e w' => e = .returned (.bool true) ∧ Below w.heap.size w w' := by
  have B0 := box2_below w n v k u
  have HV0 := hid (h.below B0)
  have HU0 := hid (h'.below B0)
  have HX0 := hid (hx.below B0)
  obtain ⟨a0, cap, rfl, -, -⟩ := h
  obtain ⟨a1, cap1, rfl, -, -⟩ := h'
  obtain ⟨a2, cap2, rfl, -, -⟩ := hx
  have HX : Hid (∀ w2, Below (box2 w n (.slice a0 zs.length cap) k (.slice a1 ys.length cap1)).heap.size (box2 w n (.slice a0 zs.length cap) k (.slice a1 ys.length cap1)) w2 → _) := fun w2 h => box2_blocks h
  have HSZ := hid (box2_size w n (.slice a0 zs.length cap) k (.slice a1 ys.length cap1))
  go_enter Try.func4, Try.ntmps4
  go_wp2_with fail
  refine (two_any _).mono ?_
  rintro e w1 ⟨v1, rfl, hi1, hb1⟩
  go_wp2_with fail
  refine (two_any _).mono ?_
  rintro e w2 ⟨v2, rfl, hi2, hb2⟩
  have UN := hid (Common_ok 4 v1 v2 twoL twoL w2 (by omega) two_fam two_bas (hi1.below hb2) two_fam two_bas hi2)
  rw [two_com2, two_bar2] at UN
  go_wp2_with fail
  refine UN.out.mono ?_
  rintro e w3 ⟨rfl, hb3⟩
  have hb23 := hb2.trans (hb3.mono hb2.size)
  have hb13 := hb1.trans (hb23.mono hb1.size)
  have HB3 := hid (B0.trans (hb13.mono B0.size))
  have HY := HX.out w3 hb13
  have HV3 := hid (HV0.out.below hb13)
  have HU3 := hid (HU0.out.below hb13)
  have HW3 := hid (HX0.out.below hb13)
  have hs3 : w.heap.size + 2 ≤ w3.heap.size := by rw [← HSZ.out]; exact hb13.size
  obtain ⟨y0, y1⟩ := HY
  obtain ⟨x0, x1⟩ := cells2 y0
  obtain ⟨x2, x3⟩ := cells2 y1
  have HZ0 := hid y0
  have HZ1 := hid y1
  clear hb1 hb2 hb3 hb23 hb13 hi1 hi2 UN HX B0 HV0 HU0 y0 y1 HSZ HX0
  by_cases hq : uniQ n zs k ys = 0
  · have HQ := hid hq
    obtain ⟨m, l, l', rfl, rfl, hm, rfl, rfl, hf, hb, hf', hb'⟩ := uni_of hq
    have C1 := hid (Common_ok m _ _ l l' w3 hm hf hb HV3.out hf' hb' HU3.out)
    have HRn := hid (hb.rkOn m)
    have HQn := hid (hb'.rkOn m)
    have HS := hid (com_spec HRn.out HQn.out)
    have HBS := hid (bar_spec hm HRn.out HQn.out)
    have HCL : Hid (∀ t, t < 2 ^ m → pop (comS m (rk l) (rk l')) ≤ rk l t + rk l' (2 ^ m - 1 - t)) := fun t ht => com_le HRn.out HQn.out HS.out.1 HS.out.2.1 ht
    have hcsT : comS m (rk l) (rk l') < 2 ^ m := HS.out.1
    have hcs8 : comS m (rk l) (rk l') < 256 := lt256 hm HS.out.1
    have hpc : pop (comS m (rk l) (rk l')) = comK m (rk l) (rk l') := HS.out.2.2.1
    have hr1 : rk l (comS m (rk l) (rk l')) = pop (comS m (rk l) (rk l')) := HS.out.2.1.1
    have hr2 : rk l' (comS m (rk l) (rk l')) = pop (comS m (rk l) (rk l')) := HS.out.2.1.2
    have hbsT : barS m (rk l) (rk l') < 2 ^ m := HBS.out.1
    have hbe : rk l (barS m (rk l) (rk l')) + rk l' (2 ^ m - 1 - barS m (rk l) (rk l')) = pop (comS m (rk l) (rk l')) := by rw [hpc]; exact HBS.out.2.1
    have HPC := hid hpc
    clear hq HS HBS hpc
    rw [N_len l] at *
    rw [N_len l'] at *
    have HR1 := hid hr1
    have HR2 := hid hr2
    have HBE := hid hbe
    clear hr1 hr2 hbe
    generalize comS m (rk l) (rk l') = cs at *
    generalize barS m (rk l) (rk l') = bs at *
    go_wp2_with fail
    refine C1.out.mono ?_
    rintro e w5 ⟨rfl, hb5⟩
    have HB5 := hid (HB3.out.trans (hb5.mono HB3.out.size))
    have HV5 := hid (HV3.out.below hb5)
    have HU5 := hid (HU3.out.below hb5)
    have HW5 := hid (HW3.out.below hb5)
    have hs5 : w.heap.size + 2 ≤ w5.heap.size := Nat.le_trans hs3 hb5.size
    have HY0 := hid ((hb5.block w.heap.size (by omega)).trans HZ0.out)
    have HY1 := hid ((hb5.block (w.heap.size + 1) (by omega)).trans HZ1.out)
    obtain ⟨t0, t1⟩ := cells2 HY0.out
    obtain ⟨t2, t3⟩ := cells2 HY1.out
    have R1 := hid (Ranks_ok m _ l w5 hm hf hb HV5.out)
    clear hb5 x0 x1 x2 x3 HZ0 HZ1 HB3 HV3 HU3 HW3 C1
    go_wp2_with fail
    refine R1.out.mono ?_
    rintro e w6 ⟨r6, rfl, hr6, hb6⟩
    have HRA6 := hid hr6
    obtain ⟨p8, o8, d8, rfl, -, -⟩ := hr6
    have HB6 := hid (HB5.out.trans (hb6.mono HB5.out.size))
    have HV6 := hid (HV5.out.below hb6)
    have HU6 := hid (HU5.out.below hb6)
    have HW6 := hid (HW5.out.below hb6)
    have hs6 : w.heap.size + 2 ≤ w6.heap.size := Nat.le_trans hs5 hb6.size
    have HZ0 := hid ((hb6.block w.heap.size (by omega)).trans HY0.out)
    have HZ1 := hid ((hb6.block (w.heap.size + 1) (by omega)).trans HY1.out)
    obtain ⟨x0, x1⟩ := cells2 HZ0.out
    obtain ⟨x2, x3⟩ := cells2 HZ1.out
    have R2 := hid (Ranks_ok m _ l' w6 hm hf' hb' HU6.out)
    clear hb6 t0 t1 t2 t3 HY0 HY1 HB5 HV5 HU5 HW5 R1
    go_wp2_with fail
    refine R2.out.mono ?_
    rintro e w7 ⟨r7, rfl, hr7, hb7⟩
    have HRB := hid hr7
    have HRA := hid (HRA6.out.below hb7)
    obtain ⟨p9, o9, d9, rfl, -, -⟩ := hr7
    have HB7 := hid (HB6.out.trans (hb7.mono HB6.out.size))
    have HV7 := hid (HV6.out.below hb7)
    have HU7 := hid (HU6.out.below hb7)
    have HW7 := hid (HW6.out.below hb7)
    have hs7 : w.heap.size + 2 ≤ w7.heap.size := Nat.le_trans hs6 hb7.size
    have HY0 := hid ((hb7.block w.heap.size (by omega)).trans HZ0.out)
    have HY1 := hid ((hb7.block (w.heap.size + 1) (by omega)).trans HZ1.out)
    have hA1 : Hid (∀ k : Nat, k < 2 ^ m → bits .andNot .i64 ((2 ^ m - 1 : Nat) : Int) (k : Int) = ((2 ^ m - 1 - k : Nat) : Int)) := fun k hk => by
      rw [i64_andNot_nat _ _ (by have := lt256 hm (full_lt m); omega) (by have := lt256 hm hk; omega)]
      exact congrArg Int.ofNat (dif_cpl hk)
    have AL := hid (fun w => All_any m w hm)
    obtain ⟨T, HT, hT2, hT1⟩ : ∃ T : Nat, Hid (2 ^ m = T) ∧ T ≤ 256 ∧ 1 ≤ T := ⟨2 ^ m, Eq.refl (2 ^ m), (pow_wrap _ hm).2, Nat.one_le_two_pow⟩
    rw [HT.out] at HRA HRB HCL hcsT hbsT hA1 HBE AL ⊢
    obtain ⟨A, hA, hAT⟩ : ∃ A : Nat, (T : Int) - 1 = (A : Int) ∧ A + 1 = T := ⟨T - 1, by omega, by omega⟩
    have hTA : T - 1 = A := by omega
    rw [hTA] at HCL hA1 HBE
    clear hTA
    rw [hA] at AL
    have HK1 := hid (rk_small hm hf)
    have HK2 := hid (rk_small hm hf')
    have cA : ∀ x : Later w7, x.now.cell? ⟨p8, o8 + cs, none⟩ = some (.int .i64 (pop cs : Nat)) := fun x => by rw [← HR1.out]; exact rk_cell HRA.out x.kept hcsT
    have cB : ∀ x : Later w7, x.now.cell? ⟨p9, o9 + cs, none⟩ = some (.int .i64 (pop cs : Nat)) := fun x => by rw [← HR2.out]; exact rk_cell HRB.out x.kept hcsT
    have SC := hid (fun w => Size_any cs w hcs8)
    have hpc8 := pop_le cs hcs8
    have hcsI : (cs : Int) < (T : Int) := by omega
    clear hb7 x0 x1 x2 x3 HZ0 HZ1 HB6 HV6 HU6 HW6 R2 HRA6
    generalize pop cs = pc at *
    go_wp2_with fail
    refine region_later (by kernel_rfl) (by kernel_rfl) ?_
    repeat (go_big_quiet_step ((go_at_call 11; refine (SC.out _).mono ?_; rintro e w' ⟨rfl, hb9⟩; exact ⟨rfl, Later.on _ hb9⟩)))
    refine wpQuiet_nil ?_
    intro w8 hw'
    obtain ⟨⟨y8, hb8⟩, hw''⟩ := hw'
    dsimp only at hw''
    subst hw''
    have HB8 := hid (HB7.out.trans (hb8.mono HB7.out.size))
    have HV8 := hid (HV7.out.below hb8)
    have HU8 := hid (HU7.out.below hb8)
    have HW8 := hid (HW7.out.below hb8)
    have HRA8 := hid (HRA.out.below hb8)
    have HRB8 := hid (HRB.out.below hb8)
    have hs8 : w.heap.size + 2 ≤ w8.heap.size := Nat.le_trans hs7 hb8.size
    have HZ0 := hid ((hb8.block w.heap.size (by omega)).trans HY0.out)
    have HZ1 := hid ((hb8.block (w.heap.size + 1) (by omega)).trans HY1.out)
    obtain ⟨x0, x1⟩ := cells2 HZ0.out
    clear hb8 cA cB HY0 HY1 HB7 HV7 HU7 HW7 HRA HRB
    go_wp2_with fail
    refine (AL.out _).mono ?_
    rintro e w9 ⟨rfl, rfl⟩
    go_wp2_with fail
    go_loopw [92] (fun i wr => ∃ t : Nat, t ≤ T ∧ i = .int .i64 t ∧ Hid (Below w9.heap.size w9 wr)) (fun i _ => T - (intOf i).toNat)
    case atStart => exact ⟨0, Nat.zero_le _, rfl, Below.refl _ _⟩
    case round =>
      obtain ⟨t, ht, rfl, HBt⟩ := hrel
      by_cases hlt : t < T
      · have cA : ∀ x : Later wr, x.now.cell? ⟨p8, o8 + t, none⟩ = some (.int .i64 (rk l t : Nat)) := fun x => rk_cell HRA8.out (HBt.out.trans (x.kept.mono HBt.out.size)) hlt
        have cB : ∀ x : Later wr, x.now.cell? ⟨p9, o9 + (A - t), none⟩ = some (.int .i64 (rk l' (A - t) : Nat)) := fun x => rk_cell HRB8.out (HBt.out.trans (x.kept.mono HBt.out.size)) (by omega)
        have hge := HCL.out t hlt
        have hA2 := hA1.out t hlt
        have b1 := HK1.out t
        have b2 := HK2.out (A - t)
        have hyT : ((A - t : Nat) : Int) < (T : Int) := by omega
        clear HCL hA1 HK1 HK2
        generalize A - t = y at *
        generalize rk l t = q1 at *
        generalize rk l' y = q2 at *
        have hge' : ¬ (q1 : Int) + q2 < (pc : Int) := by omega
        go_wp2_with fail
        refine region_later (by kernel_rfl) (by kernel_rfl) ?_
        repeat (go_big_quiet_step ((go_at_call 11; refine (SC.out _).mono ?_; rintro e w' ⟨rfl, hb9⟩; exact ⟨rfl, Later.on _ hb9⟩)))
        refine wpQuiet_nil ?_
        intro wx hw'
        obtain ⟨⟨yx, hbx⟩, hw''⟩ := hw'
        dsimp only at hw''
        subst hw''
        have HBx := hid (HBt.out.trans (hbx.mono HBt.out.size))
        clear hbx cA cB
        go_wp2_with fail
        go_roundw
        case rel => exact ⟨t + 1, by omega, by go_num, HBx.out⟩
        case measure => simp [intOf]; omega
      · obtain rfl : t = T := by omega
        have cA : ∀ x : Later wr, x.now.cell? ⟨p8, o8 + bs, none⟩ = some (.int .i64 (rk l bs : Nat)) := fun x => rk_cell HRA8.out (HBt.out.trans (x.kept.mono HBt.out.size)) hbsT
        have cB : ∀ x : Later wr, x.now.cell? ⟨p9, o9 + (A - bs), none⟩ = some (.int .i64 (rk l' (A - bs) : Nat)) := fun x => rk_cell HRB8.out (HBt.out.trans (x.kept.mono HBt.out.size)) (by omega)
        have hbe := HBE.out
        have hA2 := hA1.out bs hbsT
        have b1 := HK1.out bs
        have b2 := HK2.out (A - bs)
        have hyT : ((A - bs : Nat) : Int) < (t : Int) := by omega
        have hbI : (bs : Int) < (t : Int) := by omega
        have hb89 := HBt.out
        have HB9 := hid (HB8.out.trans (hb89.mono HB8.out.size))
        have HV9 := hid (HV8.out.below hb89)
        have HU9 := hid (HU8.out.below hb89)
        have HW9 := hid (HW8.out.below hb89)
        have hs9 : w.heap.size + 2 ≤ wr.heap.size := Nat.le_trans hs8 hb89.size
        have HY0 := hid ((hb89.block w.heap.size (by omega)).trans HZ0.out)
        have HY1 := hid ((hb89.block (w.heap.size + 1) (by omega)).trans HZ1.out)
        clear HCL hA1 HK1 HK2 HBE hb89 HBt HZ0 HZ1 HB8 HV8 HU8 HW8 HRA8 HRB8 x0 x1
        generalize A - bs = y at *
        generalize rk l bs = q1 at *
        generalize rk l' y = q2 at *
        have hge' : (((q1 : Int) + q2) == (pc : Int)) = true := by rw [beq_iff_eq]; omega
        have hge2 : (q1 : Int) + q2 = (pc : Int) := by omega
        have hq12 : q1 + q2 ≤ 8 := by omega
        clear hbe
        go_wp2_with fail
        refine region_later (by kernel_rfl) (by kernel_rfl) ?_
        repeat (go_big_quiet_step ((go_at_call 11; refine (SC.out _).mono ?_; rintro e w' ⟨rfl, hb9⟩; exact ⟨rfl, Later.on _ hb9⟩)))
        refine wpQuiet_nil ?_
        intro wx hw'
        obtain ⟨⟨yx, hbx⟩, hw''⟩ := hw'
        dsimp only at hw''
        subst hw''
        have HBx := hid (HB9.out.trans (hbx.mono HB9.out.size))
        have HVx := hid (HV9.out.below hbx)
        have HUx := hid (HU9.out.below hbx)
        have HWx := hid (HW9.out.below hbx)
        have hsx : w.heap.size + 2 ≤ wx.heap.size := Nat.le_trans hs9 hbx.size
        obtain ⟨x0, x1⟩ := cells2 ((hbx.block w.heap.size (by omega)).trans HY0.out)
        obtain ⟨x2, x3⟩ := cells2 ((hbx.block (w.heap.size + 1) (by omega)).trans HY1.out)
        clear hbx cA cB HB9 HV9 HU9 HW9 HY0 HY1 hge' hge2
        by_cases hcw : cwR m ws = 0
        · have H1 := hid (Heaviest_ok m _ _ _ l l' ws wx hm hf hb HVx.out hf' hb' HUx.out HWx.out hcw)
          have hlen := hv_len hm HRn.out HQn.out (fun s => weiTo (fun i => ws.getD i 0) s m)
          rw [← HPC.out] at hlen
          have HIS := hid (hv_is hm HRn.out HQn.out (fun s => weiTo (fun i => ws.getD i 0) s m))
          have HKR : Hid (∀ k, _ → _) := fun k hk => hv_kro (k := k) hm HRn.out HQn.out (fun i => ws.getD i 0) hk
          have HLT : Hid (∀ j, j < (hvL m (rk l) (rk l') (fun s => weiTo (fun i => ws.getD i 0) s m)).length → (hvL m (rk l) (rk l') (fun s => weiTo (fun i => ws.getD i 0) s m)).getD j 0 < 2 ^ m) := fun j hj => (mem_comL.1 (HIS.out.at_ j hj).1).1
          obtain ⟨hwl, hwb⟩ := cw_of hcw
          have WG : Hid (∀ (s : Nat) (w' : World), s < 2 ^ m → Below wx.heap.size wx w' → Calls Try.prog 13 #[.slice a2 ws.length cap2, .int .i64 s] w' fun e w2 => e = .returned (.int .i64 (weiTo (fun i => ws.getD i 0) s m)) ∧ Below w'.heap.size w' w2) := fun s w' hs hb' => by
            have := Weighs_any (.slice a2 ws.length cap2) ws s w' (HWx.out.below hb') (by rw [hwl]; exact hm) (by rw [hwl]; exact hs) hwb
            rw [show weiTo (fun i => ws.getD i 0) s ws.length = weiTo (fun i => ws.getD i 0) s m by rw [hwl]] at this
            exact this
          have WB : Hid (∀ s, -8000 ≤ weiTo (fun i => ws.getD i 0) s m ∧ weiTo (fun i => ws.getD i 0) s m ≤ 8000) := fun s => by
            have := weiTo_le (w := fun i => ws.getD i 0) hwb s m
            omega
          generalize hvL m (rk l) (rk l') (fun s => weiTo (fun i => ws.getD i 0) s m) = HL at *
          obtain ⟨F, HF⟩ : ∃ F : Nat → Int, Hid ((fun s => weiTo (fun i => ws.getD i 0) s m) = F) := ⟨_, rfl⟩
          have HF1 : ∀ s, weiTo (fun i => ws.getD i 0) s m = F s := fun s => by rw [← HF.out]
          simp only [HF1] at WG WB HKR
          clear HF1 HF hwl hwb hcw HIS HRn HQn HPC HQ
          rw [HT.out] at WG HLT
          have HLL := hid hlen
          clear hlen
          go_wp2_with fail
          refine H1.out.mono ?_
          rintro e w10 ⟨v10, rfl, ho10, hb10⟩
          obtain ⟨b10, c10, hv⟩ := ownsRow_form' ho10
          subst hv
          have HI10 := hid (ho10.ints (by rw [HLL.out]; omega))
          have HB10 := hid (HBx.out.trans (hb10.mono HBx.out.size))
          have WG10 : Hid (∀ (s : Nat) (w' : World), s < t → Below w10.heap.size w10 w' → _) := fun s w' hs hb' => WG.out s w' hs (hb10.trans (hb'.mono hb10.size))
          clear hb10 ho10 WG H1 HBx HVx HUx HWx x0 x1 x2 x3
          go_wp2_with fail
          go_loopw [20] (fun i wr => ∃ k : Nat, 2 ≤ k ∧ i = .int .i64 k ∧ Hid (Below w10.heap.size w10 wr)) (fun i _ => HL.length - (intOf i).toNat)
          case atStart => exact ⟨2, Nat.le_refl _, rfl, Below.refl _ _⟩
          case round =>
            obtain ⟨k, hk2, rfl, HBk⟩ := hrel
            by_cases hlt : k < HL.length
            · obtain ⟨b0, off0, rfl, hcl⟩ : ∃ b0 off0, b10 = some ⟨b0, off0, none⟩ ∧ ∀ w', Below w10.heap.size w10 w' → ∀ j, j < HL.length → w'.cell? ⟨b0, off0 + j, none⟩ = some (.int .i64 (HL.getD j 0 : Nat)) := by
                obtain ⟨q1, q2, q3, q4, q5⟩ := HI10.out.nats
                obtain ⟨b0, off0, rfl, hbb, hcl⟩ := q5 (by omega)
                obtain ⟨rfl, rfl⟩ : b10 = some ⟨b0, off0, none⟩ ∧ c10 = q2 := by simpa using q3
                exact ⟨b0, off0, rfl, fun w' hb' j hj => (hb'.cell (p := ⟨b0, off0 + j, none⟩) hbb).trans (hcl j hj)⟩
              obtain ⟨k2, rfl⟩ : ∃ k2, k = k2 + 2 := ⟨k - 2, by omega⟩
              have kro := HKR.out k2 hlt
              have c2 : ∀ x : Later wr, x.now.cell? ⟨b0, off0 + (k2 + 2), none⟩ = some (.int .i64 (HL.getD (k2 + 2) 0 : Nat)) := fun x => hcl _ (HBk.out.trans (x.kept.mono HBk.out.size)) _ hlt
              have c1 : ∀ x : Later wr, x.now.cell? ⟨b0, off0 + (k2 + 1), none⟩ = some (.int .i64 (HL.getD (k2 + 1) 0 : Nat)) := fun x => hcl _ (HBk.out.trans (x.kept.mono HBk.out.size)) _ (by omega)
              have c0 : ∀ x : Later wr, x.now.cell? ⟨b0, off0 + k2, none⟩ = some (.int .i64 (HL.getD k2 0 : Nat)) := fun x => hcl _ (HBk.out.trans (x.kept.mono HBk.out.size)) _ (by omega)
              have l2 := HLT.out (k2 + 2) hlt
              have l1 := HLT.out (k2 + 1) (by omega)
              have l0 := HLT.out k2 (by omega)
              have wb2 := WB.out (HL.getD (k2 + 2) 0)
              have wb1 := WB.out (HL.getD (k2 + 1) 0)
              have wb0 := WB.out (HL.getD k2 0)
              have W2 : Hid (∀ x : Later wr, _) := fun x => WG10.out (HL.getD (k2 + 2) 0) x.now l2 (HBk.out.trans (x.kept.mono HBk.out.size))
              have W1 : Hid (∀ x : Later wr, _) := fun x => WG10.out (HL.getD (k2 + 1) 0) x.now l1 (HBk.out.trans (x.kept.mono HBk.out.size))
              have W0 : Hid (∀ x : Later wr, _) := fun x => WG10.out (HL.getD k2 0) x.now l0 (HBk.out.trans (x.kept.mono HBk.out.size))
              clear hcl HLT WB WG10 HKR HI10
              generalize HL.getD (k2 + 2) 0 = s2 at *
              generalize HL.getD (k2 + 1) 0 = s1 at *
              generalize HL.getD k2 0 = s0 at *
              generalize F s2 = f2 at *
              generalize F s1 = f1 at *
              generalize F s0 = f0 at *
              have hL9 : HL.length ≤ 9 := by rw [HLL.out]; omega
              have hkro : ¬ f1 - f0 < f2 - f1 := by omega
              obtain ⟨k, hk⟩ : ∃ k, k2 + 2 = k := ⟨_, rfl⟩
              obtain ⟨k1, hk1⟩ : ∃ k1, k2 + 1 = k1 := ⟨_, rfl⟩
              rw [hk] at c2 hlt ⊢
              rw [hk1] at c1
              have e1 : (k : Int) - 1 = (k1 : Int) := by omega
              have e2 : (k : Int) - 2 = (k2 : Int) := by omega
              have i0 : (k : Int) < (HL.length : Int) := by omega
              have i1 : (k1 : Int) < (HL.length : Int) := by omega
              have i2 : (k2 : Int) < (HL.length : Int) := by omega
              have hkk : 2 ≤ k := by omega
              have HLL2 := hid HLL.out
              clear hk hk1 kro HLL
              go_wp2_with fail
              refine region_later (by kernel_rfl) (by kernel_rfl) ?_
              repeat (go_big_quiet_step ((first
                | (go_at_call 13; (with_reducible refine (W2.out _).mono ?_); rintro e w' ⟨rfl, hb9⟩; exact ⟨rfl, Later.on _ hb9⟩)
                | (go_at_call 13; (with_reducible refine (W1.out _).mono ?_); rintro e w' ⟨rfl, hb9⟩; exact ⟨rfl, Later.on _ hb9⟩)
                | (go_at_call 13; (with_reducible refine (W0.out _).mono ?_); rintro e w' ⟨rfl, hb9⟩; exact ⟨rfl, Later.on _ hb9⟩))))
              refine wpQuiet_nil ?_
              intro wx hw'
              obtain ⟨⟨yx, hbx⟩, hw''⟩ := hw'
              dsimp only at hw''
              subst hw''
              have HBx := hid (HBk.out.trans (hbx.mono HBk.out.size))
              clear hbx c0 c1 c2 W0 W1 W2
              go_wp2_with fail
              go_roundw
              case rel => exact ⟨k + 1, by omega, by go_num, HBx.out⟩
              case measure => simp [intOf]; omega
            · have hlt' : ¬ (k : Int) < (HL.length : Int) := by omega
              have HBF := hid (HB10.out.trans (HBk.out.mono HB10.out.size))
              have hLL : (HL.length : Int) = (pc : Int) + 1 := by rw [HLL.out]; omega
              have HLI := hid hLL
              have hL9 : HL.length ≤ 9 := by rw [HLL.out]; omega
              clear HKR WG10 HLT WB hLL HLL
              go_wp2_with fail
              refine (SC.out _).mono ?_
              rintro e wy ⟨rfl, hby⟩
              have HBG := hid (HBF.out.trans (hby.mono HBF.out.size))
              clear hby
              go_wp2_with fail
              go_ret
              exact ⟨ret_bool (by rw [HLI.out]; simp), HBG.out⟩
        · have e0 : hvQ m (N l) m (N l') ws = cwR m ws := by unfold hvQ; rw [if_neg (fun h => h HQ.out)]
          have H1 := hid (Heaviest_none m m _ _ _ (N l) (N l') ws wx HVx.out HUx.out HWx.out (by rw [e0]; exact hcw))
          rw [e0] at H1
          clear e0
          generalize cwR m ws = q at *
          have hq' : (q == 0) = false := by rw [beq_eq_false_iff_ne]; exact hcw
          go_wp2_with fail
          refine H1.out.mono ?_
          rintro e w10 ⟨rfl, hb10⟩
          have HBF := hid (HBx.out.trans (hb10.mono HBx.out.size))
          clear hb10
          go_wp2_with fail
          go_ret
          exact ⟨rfl, HBF.out⟩
  · have U1 := hid (Common_none n k _ _ zs ys w3 HV3.out HU3.out hq)
    generalize uniQ n zs k ys = q at *
    have hq' : (q == 0) = false := by rw [beq_eq_false_iff_ne]; exact hq
    go_wp2_with fail
    refine U1.out.mono ?_
    rintro e w6 ⟨rfl, hb6⟩
    have HB6 := hid (HB3.out.trans (hb6.mono HB3.out.size))
    clear hb6
    go_wp2_with fail
    go_ret
    exact ⟨rfl, HB6.out⟩
end Go.Proofs.Yteeopmbddeplcaa
