/- The law rotakeep.MeetUnion. -/
import Derived.Test.YteeopmbddeplcaaMtBQ
import Derived.Test.YteeopmbddeplcaaJoUQ
import Derived.Test.YteeopmbddeplcaaDualQ
import Derived.Test.YteeopmbddeplcaaThoseQ
namespace Go.Proofs.Yteeopmbddeplcaa
open Go.RowKit

theorem two_com : comS 4 (rk twoL) (rk twoL) = 3 := by decide +kernel
theorem bas_pop {n : Nat} {l : List Nat} (hn : n ≤ 8) (hf : Fam n l) (hb : Bas l) : l.getD 0 0 < 256 ∧ pop (l.getD 0 0) = rk l (2 ^ n - 1) := by
  have hl : 0 < l.length := List.length_pos_iff.2 hb.ne
  have hin : l.getD 0 0 ∈ l := by rw [getD_get hl]; exact List.getElem_mem _
  have h1 := (bas_mem hn hf hb (hf.lt _ hin)).1 hin
  exact ⟨lt256 hn (hf.lt _ hin), by rw [← h1.2, h1.1]⟩
set_option maxRecDepth 100000 in
set_option maxHeartbeats 4000000 in
theorem munion_law (n : Int) (v : Value) (zs : List Int) (k : Int) (u : Value) (ys : List Int) (w : World) (h : Ints w v zs) (h' : Ints w u ys) :
    Calls Try.prog 6 #[.agg #[.int .i64 n, v], .agg #[.int .i64 k, u]] w fun e w' => e = .returned (.bool true) ∧ Below w.heap.size w w' := by
  have B0 := box2_below w n v k u
  have HV0 := hid (h.below B0)
  have HU0 := hid (h'.below B0)
  obtain ⟨a0, cap, rfl, -, -⟩ := h
  obtain ⟨a1, cap1, rfl, -, -⟩ := h'
  have HX : Hid (∀ w2, Below (box2 w n (.slice a0 zs.length cap) k (.slice a1 ys.length cap1)).heap.size (box2 w n (.slice a0 zs.length cap) k (.slice a1 ys.length cap1)) w2 → _) := fun w2 h => box2_blocks h
  have HSZ := hid (box2_size w n (.slice a0 zs.length cap) k (.slice a1 ys.length cap1))
  go_enter Try.func6, Try.ntmps6
  go_wp2_with fail
  refine (two_any _).mono ?_
  rintro e w1 ⟨v1, rfl, hi1, hb1⟩
  go_wp2_with fail
  refine (two_any _).mono ?_
  rintro e w2 ⟨v2, rfl, hi2, hb2⟩
  have UN := hid (Common_ok 4 v1 v2 twoL twoL w2 (by omega) two_fam two_bas (hi1.below hb2) two_fam two_bas hi2)
  rw [two_com] at UN
  generalize barS 4 (rk twoL) (rk twoL) = br at *
  go_wp2_with fail
  refine UN.out.mono ?_
  rintro e w3 ⟨rfl, hb3⟩
  have hb23 := hb2.trans (hb3.mono hb2.size)
  have hb13 := hb1.trans (hb23.mono hb1.size)
  have HB3 := hid (B0.trans (hb13.mono B0.size))
  have HY := HX.out w3 hb13
  have HV3 := hid (HV0.out.below hb13)
  have HU3 := hid (HU0.out.below hb13)
  have hs3 : w.heap.size + 2 ≤ w3.heap.size := by rw [← HSZ.out]; exact hb13.size
  obtain ⟨y0, y1⟩ := HY
  obtain ⟨x0, x1⟩ := cells2 y0
  obtain ⟨x2, x3⟩ := cells2 y1
  have HZ0 := hid y0
  have HZ1 := hid y1
  clear hb1 hb2 hb3 hb23 hb13 hi1 hi2 UN HX B0 HV0 HU0 y0 y1 HSZ
  by_cases hq : uniQ n zs k ys = 0
  · obtain ⟨m, l, l', rfl, rfl, hm, rfl, rfl, hf, hb, hf', hb'⟩ := uni_of hq
    have C1 := hid (Common_ok m _ _ l l' w3 hm hf hb HV3.out hf' hb' HU3.out)
    have HS := hid (com_spec (hb.rkOn m) (hb'.rkOn m))
    have hcs8 : comS m (rk l) (rk l') < 256 := lt256 hm HS.out.1
    have hpc : pop (comS m (rk l) (rk l')) = comK m (rk l) (rk l') := HS.out.2.2.1
    clear hq HS
    rw [N_len l] at *
    rw [N_len l'] at *
    generalize comS m (rk l) (rk l') = cs at *
    generalize barS m (rk l) (rk l') = bs at *
    go_wp2_with fail
    refine C1.out.mono ?_
    rintro e w5 ⟨rfl, hb5⟩
    have HB5 := hid (HB3.out.trans (hb5.mono HB3.out.size))
    have HV5 := hid (HV3.out.below hb5)
    have HU5 := hid (HU3.out.below hb5)
    have hs5 : w.heap.size + 2 ≤ w5.heap.size := Nat.le_trans hs3 hb5.size
    have HY0 := hid ((hb5.block w.heap.size (by omega)).trans HZ0.out)
    have HY1 := hid ((hb5.block (w.heap.size + 1) (by omega)).trans HZ1.out)
    obtain ⟨t0, t1⟩ := cells2 HY0.out
    obtain ⟨t2, t3⟩ := cells2 HY1.out
    have D1 := hid (Dual_ok m _ l' w5 hm hf' hb' HU5.out)
    clear hb5 x0 x1 x2 x3 HZ0 HZ1 HB3 HV3 HU3 C1
    go_wp2_with fail
    refine D1.out.mono ?_
    rintro e w6 ⟨v6, rfl, ho6, hb6⟩
    obtain ⟨b6, c6, hv⟩ := ownsRow_form' ho6
    subst hv
    have dF : Fam m (cmp m l') := by
      rw [← basR_cmp hm hf' hb']
      exact basR_fam m _
    have dB := dual_bas hm hf' hb'
    have hpd := bas_pop hm dF dB
    have hpu := bas_pop hm (basR_fam m (uniR l (cmp m l'))) ((uni_rkOn m hb dB).bas hm)
    rw [(uni_rkOn m hb dB).rk_eq hm (full_lt m), com_union hm hb hf' hb', ← hpc] at hpu
    have hld : 0 < (cmp m l').length := List.length_pos_iff.2 dB.ne
    have hlu : 0 < (uniN m l (cmp m l')).length := List.length_pos_iff.2 ((uni_rkOn m hb dB).bas hm).ne
    have hlu8 : (uniN m l (cmp m l')).length ≤ 256 := fam_len hm (basR_fam m _)
    have hld8 : (cmp m l').length ≤ 256 := fam_len hm dF
    have hb7 : Below w6.heap.size w6 (w6.alloc (.cells #[.int .i64 m, .slice b6 (cmp m l').length c6] 24)) := (Below.refl _ _).alloc (Nat.le_refl _) _
    have hb57 := hb6.trans (hb7.mono hb6.size)
    have HO7 := hid (ho6.below hb7)
    have HB7 := hid (HB5.out.trans (hb57.mono HB5.out.size))
    have HV7 := hid (HV5.out.below hb57)
    have hs7 : w.heap.size + 2 ≤ w6.heap.size := Nat.le_trans hs5 hb6.size
    have HZ0 := hid ((hb57.block w.heap.size (by omega)).trans HY0.out)
    have HZ2 : Hid ((w6.alloc (.cells #[.int .i64 m, .slice b6 (cmp m l').length c6] 24)).heap[w6.heap.size]? = some (.cells #[.int .i64 m, .slice b6 (cmp m l').length c6] 24 (0, 0))) := World.alloc_heap_new w6 _
    have hz7 : (w6.alloc (.cells #[.int .i64 m, .slice b6 (cmp m l').length c6] 24)).heap.size = w6.heap.size + 1 := World.size_alloc ..
    obtain ⟨x0, x1⟩ := cells2 HZ0.out
    obtain ⟨x2, x3⟩ := cells2 HZ2.out
    have U1 := hid (Union_ok m _ _ l (cmp m l') _ hm hf hb HV7.out dF dB (HO7.out.ints (by omega)))
    clear hb57 hb6 hb7 t0 t1 t2 t3 HY0 HY1 HB5 HV5 HU5 D1 ho6
    generalize (cmp m l') = dl at *
    have hpu' : (uniN m l dl).getD 0 0 < 256 ∧ pop ((uniN m l dl).getD 0 0) = pop cs + rk dl (2 ^ m - 1) := hpu
    generalize rk dl (2 ^ m - 1) = rd at *
    generalize uniN m l dl = ul at *
    clear hpu
    go_wp2_with fail
    refine U1.out.mono ?_
    rintro e w8 ⟨v8, rfl, ho8, hb8⟩
    obtain ⟨b8, c8, hv⟩ := ownsRow_form' ho8
    subst hv
    have hs8 : w6.heap.size + 1 ≤ w8.heap.size := by rw [← hz7]; exact hb8.size
    have hb9 : Below w8.heap.size w8 (w8.alloc (.cells #[.int .i64 m, .slice b8 ul.length c8] 24)) := (Below.refl _ _).alloc (Nat.le_refl _) _
    have hb79 := hb8.trans (hb9.mono hb8.size)
    have HB9 := hid (HB7.out.trans (hb79.mono HB7.out.size))
    have IU := (ho8.below hb9).ints (by omega)
    have ID := ((HO7.out.below hb79).ints (by omega))
    have y2 := (hb79.block w6.heap.size (by omega)).trans HZ2.out
    have y3 := World.alloc_heap_new w8 (.cells #[.int .i64 m, .slice b8 ul.length c8] 24)
    have hz9 : (w8.alloc (.cells #[.int .i64 m, .slice b8 ul.length c8] 24)).heap.size = w8.heap.size + 1 := World.size_alloc ..
    obtain ⟨b0, off0, rfl, hcb⟩ : ∃ b0 off0, b6 = some ⟨b0, off0, none⟩ ∧ ∀ w', Below (w8.alloc (.cells #[.int .i64 m, .slice b8 ul.length c8] 24)).heap.size (w8.alloc (.cells #[.int .i64 m, .slice b8 ul.length c8] 24)) w' → w'.cell? ⟨b0, off0, none⟩ = some (.int .i64 (dl.getD 0 0 : Nat)) := by
      obtain ⟨q1, q2, q3, q4, q5⟩ := ID.nats
      obtain ⟨b0, off0, rfl, hbb, hcl⟩ := q5 (by omega)
      obtain ⟨rfl, rfl⟩ : b6 = some ⟨b0, off0, none⟩ ∧ c6 = q2 := by simpa using q3
      exact ⟨b0, off0, rfl, fun w' hb' => (hb'.cell (p := ⟨b0, off0, none⟩) hbb).trans (hcl 0 (by omega))⟩
    obtain ⟨b1, off1, rfl, hcu⟩ : ∃ b0 off0, b8 = some ⟨b0, off0, none⟩ ∧ ∀ w', Below (w8.alloc (.cells #[.int .i64 m, .slice b8 ul.length c8] 24)).heap.size (w8.alloc (.cells #[.int .i64 m, .slice b8 ul.length c8] 24)) w' → w'.cell? ⟨b0, off0, none⟩ = some (.int .i64 (ul.getD 0 0 : Nat)) := by
      obtain ⟨q1, q2, q3, q4, q5⟩ := IU.nats
      obtain ⟨b0, off0, rfl, hbb, hcl⟩ := q5 (by omega)
      obtain ⟨rfl, rfl⟩ : b8 = some ⟨b0, off0, none⟩ ∧ c8 = q2 := by simpa using q3
      exact ⟨b0, off0, rfl, fun w' hb' => (hb'.cell (p := ⟨b0, off0, none⟩) hbb).trans (hcl 0 (by omega))⟩
    obtain ⟨W, HWE⟩ : ∃ W, Hid (w8.alloc (.cells #[.int .i64 m, .slice (some ⟨b1, off1, none⟩) ul.length c8] 24) = W) := ⟨_, rfl⟩
    rw [HWE.out] at hcb hcu y2 y3 hz9 HB9
    have cU : ∀ x : Later W, x.now.cell? ⟨b1, off1, none⟩ = some (.int .i64 (ul.getD 0 0 : Nat)) := fun x => hcu _ x.kept
    have cD : ∀ x : Later W, x.now.cell? ⟨b0, off0, none⟩ = some (.int .i64 (dl.getD 0 0 : Nat)) := fun x => hcb _ x.kept
    have cu1 : ∀ x : Later W, x.now.cell? ⟨w8.heap.size, 1, none⟩ = some (.slice (some ⟨b1, off1, none⟩) ul.length c8) := fun x => (cells2 ((x.kept.block w8.heap.size (by omega)).trans y3)).2
    have cd1 : ∀ x : Later W, x.now.cell? ⟨w6.heap.size, 1, none⟩ = some (.slice (some ⟨b0, off0, none⟩) dl.length c6) := fun x => (cells2 ((x.kept.block w6.heap.size (by omega)).trans y2)).2
    have S1 := hid (fun w => Size_any cs w hcs8)
    have S2 := hid (fun w => Size_any (ul.getD 0 0) w hpu'.1)
    have S3 := hid (fun w => Size_any (dl.getD 0 0) w hpd.1)
    have hl0 : (0 : Int) < (ul.length : Int) := by omega
    have hl1 : (0 : Int) < (dl.length : Int) := by omega
    obtain ⟨hu1, hu2⟩ := hpu'
    obtain ⟨hd1, hd2⟩ := hpd
    rw [hu2] at S2
    rw [hd2] at S3
    have hp1 := pop_le cs hcs8
    have hp2 := pop_le _ hd1
    rw [hd2] at hp2
    clear hu2 hd2 hcb hcu y2 y3 hb79 hb9 hb8 ho8 IU ID HZ0 HZ2 HV7 HO7 HB7 U1 hpc x0 x1 x2 x3
    generalize ul.getD 0 0 = z1 at *
    generalize dl.getD 0 0 = z2 at *
    generalize pop cs = p1 at *
    have hsub : ((p1 + rd : Nat) : Int) - (rd : Int) = (p1 : Int) := by omega
    go_wp2_with fail
    rw [HWE.out]
    refine region_later (by kernel_rfl) (by kernel_rfl) ?_
    repeat (go_big_quiet_step ((first
      | (go_at_call 11; (with_reducible refine (S1.out _).mono ?_); rintro e w' ⟨rfl, hb9⟩; exact ⟨rfl, Later.on _ hb9⟩)
      | (go_at_call 11; (with_reducible refine (S2.out _).mono ?_); rintro e w' ⟨rfl, hb9⟩; exact ⟨rfl, Later.on _ hb9⟩)
      | (go_at_call 11; (with_reducible refine (S3.out _).mono ?_); rintro e w' ⟨rfl, hb9⟩; exact ⟨rfl, Later.on _ hb9⟩))))
    refine wpQuiet_nil ?_
    intro w6' hw'
    obtain ⟨⟨y6, hb6⟩, hw''⟩ := hw'
    dsimp only at hw''
    subst hw''
    have HBF := hid (HB9.out.trans (hb6.mono HB9.out.size))
    clear hb6 cU cD cu1 cd1
    go_wp2_with fail
    go_ret
    exact ⟨ret_bool (by simp), HBF.out⟩
  · have U1 := hid (Common_none n k _ _ zs ys w3 HV3.out HU3.out hq)
    generalize uniQ n zs k ys = q at *
    have hq' : (q == 0) = false := by rw [beq_eq_false_iff_ne]; exact hq
    go_wp2_with fail
    refine U1.out.mono ?_
    rintro e w6 ⟨rfl, hb6⟩
    have HB6 := hid (HB3.out.trans (hb6.mono HB3.out.size))
    clear hb6
    go_wp2_with fail
    go_ret
    exact ⟨rfl, HB6.out⟩
end Go.Proofs.Yteeopmbddeplcaa
