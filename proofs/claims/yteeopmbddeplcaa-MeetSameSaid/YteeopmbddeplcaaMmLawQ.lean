/- The law rotakeep.MeetSame. -/
import Derived.Test.YteeopmbddeplcaaMtBQ
import Derived.Test.YteeopmbddeplcaaWgRQ
import Derived.Test.YteeopmbddeplcaaGrBQ
namespace Go.Proofs.Yteeopmbddeplcaa
open Go.RowKit

theorem two_sp : spS (rk twoL) (rk twoL) 4 3 = 15 := by decide +kernel
theorem setR_two (m : Nat) (s : Int) : setR m s = 1 ∨ ∃ k : Nat, s = k ∧ k < 2 ^ m := by
  unfold setR
  split
  · rename_i h
    obtain ⟨_, _, h3, h4⟩ := h
    refine .inr ⟨s.toNat, by omega, ?_⟩
    rw [Int.toNat_natCast] at h4
    have e : ((2 ^ m : Nat) : Int) = (2 : Int) ^ m := by simp
    omega
  · exact .inl rfl
theorem uni_self {n : Int} {zs : List Int} (h : uniQ n zs n zs ≠ 0) : chkR n zs ≠ 0 := fun e => h (by
  unfold uniQ chk2
  rw [e]
  simp)
set_option maxRecDepth 100000 in
set_option maxHeartbeats 4000000 in
theorem msame_law (n : Int) (v : Value) (zs : List Int) (x : Value) (ws : List Int) (s : Int) (w : World) (h : Ints w v zs) (hx : Ints w x ws) :
    Calls Try.prog 5 #[.agg #[.int .i64 n, v], x, .int .i64 s] w fun e w' => e = .returned (.bool true) ∧ Below w.heap.size w w' := by
  have B0 := below_box w #[.int .i64 n, v]
  have HV0 := hid (h.below B0)
  have HX0 := hid (hx.below B0)
  obtain ⟨a0, cap, rfl, -, -⟩ := h
  obtain ⟨a2, cap2, rfl, -, -⟩ := hx
  have hbx0 := World.alloc_heap_new w (.cells #[.int .i64 n, .slice a0 zs.length cap] 24)
  have hsz0 : (w.alloc (.cells #[.int .i64 n, .slice a0 zs.length cap] 24)).heap.size = w.heap.size + 1 := World.size_alloc ..
  have HX := hid hbx0
  have HSZ := hid hsz0
  clear hbx0 hsz0
  go_enter Try.func5, Try.ntmps5
  go_wp2_with fail
  refine (two_any _).mono ?_
  rintro e w1 ⟨v1, rfl, hi1, hb1⟩
  go_wp2_with fail
  refine (two_any _).mono ?_
  rintro e w2 ⟨v2, rfl, hi2, hb2⟩
  have UN := hid (Spanned_ok 4 3 v1 v2 twoL twoL w2 (by omega) two_fam two_bas (hi1.below hb2) two_fam two_bas hi2 (by decide))
  rw [two_sp] at UN
  go_wp2_with fail
  refine UN.out.mono ?_
  rintro e w3 ⟨rfl, hb3⟩
  have hb23 := hb2.trans (hb3.mono hb2.size)
  have hb13 := hb1.trans (hb23.mono hb1.size)
  have HB3 := hid (B0.trans (hb13.mono B0.size))
  have HV3 := hid (HV0.out.below hb13)
  have HW3 := hid (HX0.out.below hb13)
  have hs3 : w.heap.size + 1 ≤ w3.heap.size := by rw [← HSZ.out]; exact hb13.size
  have y0 := (hb13.block w.heap.size (by rw [HSZ.out]; omega)).trans HX.out
  obtain ⟨x0, x1⟩ := cells2 y0
  have HZ0 := hid y0
  clear hb1 hb2 hb3 hb23 hb13 hi1 hi2 UN HX B0 HV0 y0 HSZ HX0
  by_cases hq : uniQ n zs n zs = 0
  · have HQ := hid hq
    obtain ⟨m, l, l', rfl, hmm, hm, rfl, hl', hf, hb, hf', hb'⟩ := uni_of hq
    clear hl' hf' hb' hmm
    have C1 := hid (Common_ok m _ _ l l w3 hm hf hb HV3.out hf hb HV3.out)
    have HIN := hid (com_same hm hf hb)
    clear hq
    rw [N_len l] at *
    generalize comS m (rk l) (rk l) = cs at *
    generalize barS m (rk l) (rk l) = bs at *
    go_wp2_with fail
    refine C1.out.mono ?_
    rintro e w5 ⟨rfl, hb5⟩
    have HB5 := hid (HB3.out.trans (hb5.mono HB3.out.size))
    have HV5 := hid (HV3.out.below hb5)
    have HW5 := hid (HW3.out.below hb5)
    have hs5 : w.heap.size + 1 ≤ w5.heap.size := Nat.le_trans hs3 hb5.size
    have HY0 := hid ((hb5.block w.heap.size (by omega)).trans HZ0.out)
    obtain ⟨t0, t1⟩ := cells2 HY0.out
    have CT := hid (ContainsZ_any _ (N l) cs w5 HV5.out)
    have hmem : memZ cs (N l) = true := by rw [memZ_N]; exact decide_eq_true HIN.out
    rw [hmem] at CT
    clear hb5 x0 x1 HZ0 HB3 HV3 HW3 C1 hmem
    go_wp2_with fail
    refine CT.out.mono ?_
    rintro e w6 ⟨rfl, rfl⟩
    by_cases hcw : cwR m ws = 0
    · have H1 := hid (Heaviest_ok m _ _ _ l l ws w6 hm hf hb HV5.out hf hb HV5.out HW5.out hcw)
      obtain ⟨hwl, hwb⟩ := cw_of hcw
      have BS : Hid (∀ w', Below w6.heap.size w6 w' → _) := fun w' hb' => Best_ok m _ _ l ws w' (HV5.out.below hb') (HW5.out.below hb') hm hf hb hcw
      have hby := hvO_by ws
      rw [hwl] at hby
      have HBE := hid (hv_best hm hf hb hby (gr_bas hm hf hb hby.beg hby.all))
      have hlen := hv_len hm (hb.rkOn m) (hb.rkOn m) (fun s => weiTo (fun i => ws.getD i 0) s m)
      have hk8 := comK_le hm (hb.rkOn m) (hb.rkOn m)
      have HIS := hid (hv_is hm (hb.rkOn m) (hb.rkOn m) (fun s => weiTo (fun i => ws.getD i 0) s m))
      have HLT : Hid (∀ j, j < (hvL m (rk l) (rk l) (fun s => weiTo (fun i => ws.getD i 0) s m)).length → (hvL m (rk l) (rk l) (fun s => weiTo (fun i => ws.getD i 0) s m)).getD j 0 < 2 ^ m) := fun j hj => (mem_comL.1 (HIS.out.at_ j hj).1).1
      have WG : Hid (∀ (s : Nat) (w' : World), s < 2 ^ m → Below w6.heap.size w6 w' → Calls Try.prog 13 #[.slice a2 ws.length cap2, .int .i64 s] w' fun e w2 => e = .returned (.int .i64 (weiTo (fun i => ws.getD i 0) s m)) ∧ Below w'.heap.size w' w2) := fun s w' hs hb' => by
        have := Weighs_any (.slice a2 ws.length cap2) ws s w' (HW5.out.below hb') (by rw [hwl]; exact hm) (by rw [hwl]; exact hs) hwb
        rw [show weiTo (fun i => ws.getD i 0) s ws.length = weiTo (fun i => ws.getD i 0) s m by rw [hwl]] at this
        exact this
      generalize hvL m (rk l) (rk l) (fun s => weiTo (fun i => ws.getD i 0) s m) = HL at *
      obtain ⟨ln, hln, hln2⟩ : ∃ ln, HL.length = ln + 1 ∧ ln ≤ 8 := ⟨HL.length - 1, by omega, by omega⟩
      have e1 : HL.length - 1 = ln := by omega
      have hy := HLT.out ln (by omega)
      rw [e1] at HBE
      have WGy : Hid (∀ w', Below w6.heap.size w6 w' → _) := fun w' hb' => WG.out (HL.getD ln 0) w' hy hb'
      rw [HBE.out] at WGy
      generalize weiTo (fun i => ws.getD i 0) (grS (rk l) 0 (hvO ws)) m = bw at *
      generalize grS (rk l) 0 (hvO ws) = bb at *
      have HLN := hid hln
      clear hcw hwl hwb hby hlen hk8 HIS HLT WG e1 HBE hln hy
      go_wp2_with fail
      refine H1.out.mono ?_
      rintro e w7 ⟨v7, rfl, ho7, hb7⟩
      have I7 := ho7.ints (by rw [HLN.out]; omega)
      obtain ⟨b7, c7, hv⟩ := ownsRow_form' ho7
      subst hv
      rw [HLN.out]
      have B1 := hid (BS.out _ hb7)
      have HB7 := hid (HB5.out.trans (hb7.mono HB5.out.size))
      have HV7 := hid (HV5.out.below hb7)
      have hs7 : w.heap.size + 1 ≤ w7.heap.size := Nat.le_trans hs5 hb7.size
      have HZ7 := hid ((hb7.block w.heap.size (by omega)).trans HY0.out)
      obtain ⟨x0, x1⟩ := cells2 HZ7.out
      obtain ⟨b0, off0, rfl, hcl⟩ : ∃ b0 off0, b7 = some ⟨b0, off0, none⟩ ∧ ∀ w', Below w7.heap.size w7 w' → w'.cell? ⟨b0, off0 + ln, none⟩ = some (.int .i64 (HL.getD ln 0 : Nat)) := by
        obtain ⟨q1, q2, q3, q4, q5⟩ := I7.nats
        obtain ⟨b0, off0, rfl, hbb, hcl⟩ := q5 (by rw [HLN.out]; omega)
        obtain ⟨rfl, rfl⟩ : b7 = some ⟨b0, off0, none⟩ ∧ c7 = q2 := by simpa using q3
        exact ⟨b0, off0, rfl, fun w' hb' => (hb'.cell (p := ⟨b0, off0 + ln, none⟩) hbb).trans (hcl ln (by rw [HLN.out]; omega))⟩
      have WG7 : Hid (∀ w', Below w7.heap.size w7 w' → _) := fun w' hb' => WGy.out w' (hb7.trans (hb'.mono hb7.size))
      clear hb7 ho7 I7 H1 BS WGy t0 t1 HY0 HV5
      go_wp2_with fail
      refine B1.out.mono ?_
      rintro e w8 ⟨rfl, hb8⟩
      have HB8 := hid (HB7.out.trans (hb8.mono HB7.out.size))
      have HV8 := hid (HV7.out.below hb8)
      have hs8 : w.heap.size + 1 ≤ w8.heap.size := Nat.le_trans hs7 hb8.size
      have HZ8 := hid ((hb8.block w.heap.size (by omega)).trans HZ7.out)
      have cy := hcl _ hb8
      have WG8 := hid (WG7.out _ hb8)
      generalize HL.getD ln 0 = y at *
      clear hb8 hcl WG7 x0 x1 HZ7 HV7 B1
      go_wp2_with fail
      refine WG8.out.mono ?_
      rintro e w9 ⟨rfl, hb9⟩
      have HBt := hid (HB8.out.trans (hb9.mono HB8.out.size))
      have HVt := hid (HV8.out.below hb9)
      have hst : w.heap.size + 1 ≤ w9.heap.size := Nat.le_trans hs8 hb9.size
      have HZt := hid ((hb9.block w.heap.size (by omega)).trans HZ8.out)
      obtain ⟨t0, t1⟩ := cells2 HZt.out
      clear hb9 cy WG8 HB8 HV8 HZ8
      rcases setR_two m s with hs1 | ⟨k, rfl, hk⟩
      · have e0 : spQ m (N l) m (N l) s = 1 := by unfold spQ; rw [if_neg (fun h => h HQ.out), hs1]
        have S1 := hid (Spanned_none m m s _ _ (N l) (N l) w9 HVt.out HVt.out (by rw [e0]; decide))
        rw [e0] at S1
        clear e0
        have S2 : Hid (∀ w', Below w9.heap.size w9 w' → _) := fun w' hb' => Closure_arg m s _ l w' hm hf hb (HVt.out.below hb') hs1
        clear hs1
        go_wp2_with fail
        refine S1.out.mono ?_
        rintro e wa ⟨rfl, hba⟩
        have S3 := hid (S2.out _ hba)
        have HBa := hid (HBt.out.trans (hba.mono HBt.out.size))
        obtain ⟨z0, z1⟩ := cells2 ((hba.block w.heap.size (by omega)).trans HZt.out)
        clear hba S2 S1 t0 t1
        go_wp2_with fail
        refine S3.out.mono ?_
        rintro e wb ⟨rfl, hbb⟩
        have HBb := hid (HBa.out.trans (hbb.mono HBa.out.size))
        clear hbb
        go_wp2_with fail
        go_ret
        exact ⟨rfl, HBb.out⟩
      · have S1 := hid (Spanned_ok m k _ _ l l w9 hm hf hb HVt.out hf hb HVt.out hk)
        rw [sp_same hb.rk hm hk] at S1
        have S2 : Hid (∀ w', Below w9.heap.size w9 w' → _) := fun w' hb' => Closure_ok m k _ l w' hm hf hb (HVt.out.below hb') hk
        generalize cl (rk l) m k = c at *
        clear hk
        go_wp2_with fail
        refine S1.out.mono ?_
        rintro e wa ⟨rfl, hba⟩
        have S3 := hid (S2.out _ hba)
        have HBa := hid (HBt.out.trans (hba.mono HBt.out.size))
        obtain ⟨z0, z1⟩ := cells2 ((hba.block w.heap.size (by omega)).trans HZt.out)
        clear hba S2 S1 t0 t1
        go_wp2_with fail
        refine S3.out.mono ?_
        rintro e wb ⟨rfl, hbb⟩
        have HBb := hid (HBa.out.trans (hbb.mono HBa.out.size))
        clear hbb
        go_wp2_with fail
        go_ret
        exact ⟨ret_bool (by simp), HBb.out⟩
    · have e0 : hvQ m (N l) m (N l) ws = cwR m ws := by unfold hvQ; rw [if_neg (fun h => h HQ.out)]
      have H1 := hid (Heaviest_none m m _ _ _ (N l) (N l) ws w6 HV5.out HV5.out HW5.out (by rw [e0]; exact hcw))
      rw [e0] at H1
      clear e0
      generalize cwR m ws = q at *
      have hq' : (q == 0) = false := by rw [beq_eq_false_iff_ne]; exact hcw
      go_wp2_with fail
      refine H1.out.mono ?_
      rintro e w9 ⟨rfl, hb9⟩
      have HBt := hid (HB5.out.trans (hb9.mono HB5.out.size))
      have HVt := hid (HV5.out.below hb9)
      have hst : w.heap.size + 1 ≤ w9.heap.size := Nat.le_trans hs5 hb9.size
      have HZt := hid ((hb9.block w.heap.size (by omega)).trans HY0.out)
      clear t0 t1
      obtain ⟨t0, t1⟩ := cells2 HZt.out
      clear hb9 H1 HB5 HV5
      rcases setR_two m s with hs1 | ⟨k, rfl, hk⟩
      · have e0 : spQ m (N l) m (N l) s = 1 := by unfold spQ; rw [if_neg (fun h => h HQ.out), hs1]
        have S1 := hid (Spanned_none m m s _ _ (N l) (N l) w9 HVt.out HVt.out (by rw [e0]; decide))
        rw [e0] at S1
        clear e0
        have S2 : Hid (∀ w', Below w9.heap.size w9 w' → _) := fun w' hb' => Closure_arg m s _ l w' hm hf hb (HVt.out.below hb') hs1
        clear hs1
        go_wp2_with fail
        refine S1.out.mono ?_
        rintro e wa ⟨rfl, hba⟩
        have S3 := hid (S2.out _ hba)
        have HBa := hid (HBt.out.trans (hba.mono HBt.out.size))
        obtain ⟨z0, z1⟩ := cells2 ((hba.block w.heap.size (by omega)).trans HZt.out)
        clear hba S2 S1 t0 t1
        go_wp2_with fail
        refine S3.out.mono ?_
        rintro e wb ⟨rfl, hbb⟩
        have HBb := hid (HBa.out.trans (hbb.mono HBa.out.size))
        clear hbb
        go_wp2_with fail
        go_ret
        exact ⟨rfl, HBb.out⟩
      · have S1 := hid (Spanned_ok m k _ _ l l w9 hm hf hb HVt.out hf hb HVt.out hk)
        rw [sp_same hb.rk hm hk] at S1
        have S2 : Hid (∀ w', Below w9.heap.size w9 w' → _) := fun w' hb' => Closure_ok m k _ l w' hm hf hb (HVt.out.below hb') hk
        generalize cl (rk l) m k = c at *
        clear hk
        go_wp2_with fail
        refine S1.out.mono ?_
        rintro e wa ⟨rfl, hba⟩
        have S3 := hid (S2.out _ hba)
        have HBa := hid (HBt.out.trans (hba.mono HBt.out.size))
        obtain ⟨z0, z1⟩ := cells2 ((hba.block w.heap.size (by omega)).trans HZt.out)
        clear hba S2 S1 t0 t1
        go_wp2_with fail
        refine S3.out.mono ?_
        rintro e wb ⟨rfl, hbb⟩
        have HBb := hid (HBa.out.trans (hbb.mono HBa.out.size))
        clear hbb
        go_wp2_with fail
        go_ret
        exact ⟨ret_bool (by simp), HBb.out⟩
  · have U1 := hid (Common_none n n _ _ zs zs w3 HV3.out HV3.out hq)
    generalize uniQ n zs n zs = q at *
    have hq' : (q == 0) = false := by rw [beq_eq_false_iff_ne]; exact hq
    go_wp2_with fail
    refine U1.out.mono ?_
    rintro e w6 ⟨rfl, hb6⟩
    have HB6 := hid (HB3.out.trans (hb6.mono HB3.out.size))
    clear hb6
    go_wp2_with fail
    go_ret
    exact ⟨rfl, HB6.out⟩
end Go.Proofs.Yteeopmbddeplcaa
