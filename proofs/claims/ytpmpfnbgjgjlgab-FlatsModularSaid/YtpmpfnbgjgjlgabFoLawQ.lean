/- rotakeep.FlatsModular. -/
import Derived.Test.YtpmpfnbgjgjlgabLngFQ
import Derived.Test.YtpmpfnbgjgjlgabFlJQ
import Derived.Test.YtpmpfnbgjgjlgabDelConQ
import Derived.Test.YtpmpfnbgjgjlgabPlainAll
import Derived.Test.YtpmpfnbgjgjlgabRefAxCQ
import Derived.Test.YtpmpfnbgjgjlgabOrdBQ
import Derived.Deep.DeepCutAuto
import Derived.Deep.RegionHeld3
namespace Go.Proofs.Ytpmpfnbgjgjlgab
open Go.RowKit

theorem mod_one1 : AnyNought 12 := fun x w => by
  go_enter Try.func12, Try.ntmps12
  go_wp2_with fail
  go_ret
  exact ⟨rfl, rfl⟩
theorem mod_one2 : AnyNought 14 := fun x w => by
  go_enter Try.func14, Try.ntmps14
  go_wp2_with fail
  go_ret
  exact ⟨rfl, rfl⟩
theorem enters_mod1 : Enters 12 := fun args w => enters_of Try.func12 (by kernel_rfl) rfl args w
theorem enters_mod2 : Enters 14 := fun args w => enters_of Try.func14 (by kernel_rfl) rfl args w
theorem two_mod : 15 ∈ fltL 4 (rk twoL) ∧ modB (fltL 4 (rk twoL)) (rk twoL) 15 = true := by decide +kernel
theorem mod_nat {f : Int} {l : List Nat} (h : memZ f (N l) = true) : ∃ k : Nat, f = k ∧ k ∈ l := by
  unfold memZ N at h
  rw [decide_eq_true_eq, List.mem_map] at h
  obtain ⟨k, h1, h2⟩ := h
  exact ⟨k, h2.symm, h1⟩
theorem any_map_range (f : Nat → Int) (T : Nat) : ((List.range T).map f).any (fun x => x != 0) = true ↔ ∃ i, i < T ∧ f i ≠ 0 := by
  rw [List.any_eq_true]
  constructor
  · rintro ⟨x, hx, h⟩
    obtain ⟨i, hi, rfl⟩ := List.mem_map.1 hx
    exact ⟨i, List.mem_range.1 hi, by simpa using h⟩
  · rintro ⟨i, hi, h⟩
    exact ⟨f i, List.mem_map.2 ⟨i, List.mem_range.2 hi, rfl⟩, by simpa using h⟩
/-- What the deleted one's polynomial is. -/
theorem del_chars (m f : Nat) (l : List Nat) (hm : m ≤ 8) (hb : Bas l) (hf : f < 2 ^ m) :
    rk (minL m l (dif (2 ^ m - 1) f) 0) (2 ^ pop (dif (2 ^ m - 1) (dif (2 ^ m - 1) f)) - 1) = rk l f ∧ chrS (rk (minL m l (dif (2 ^ m - 1) f) 0)) (rk l f) (2 ^ pop (dif (2 ^ m - 1) (dif (2 ^ m - 1) f))) = subC (rk l) m f :=
  ⟨(del_chr hm hb hf 0).1, funext fun i => (del_chr hm hb hf i).2⟩
set_option maxRecDepth 20000 in
set_option maxHeartbeats 8000000 in
theorem fmodular_law (n : Int) (v : Value) (zs : List Int) (f : Int) (w : World) (h : Ints w v zs) :
    Calls Try.prog 3 #[.agg #[.int .i64 n, v], .int .i64 f] w fun e w' => e = .returned (.bool true) ∧ Below w.heap.size w w' := by
  have HI := hid h
  obtain ⟨a, cap, rfl, -, -⟩ := h
  have hB0 := below_box w #[.int .i64 n, .slice a zs.length cap]
  have HB0 := hid hB0
  have HI0 := hid (HI.out.below hB0)
  have HX : Hid (∀ w2, Below (w.alloc (.cells #[.int .i64 n, .slice a zs.length cap] 24)).heap.size (w.alloc (.cells #[.int .i64 n, .slice a zs.length cap] 24)) w2 → _) := fun w2 hb => box_cells hb
  clear hB0 HI
  go_enter Try.func3, Try.ntmps3
  go_wp2_with fail
  refine (two_any _).mono ?_
  rintro e w1 ⟨v1, rfl, hi1, hb1⟩
  have C1 := hid (Modular_ok 4 15 v1 twoL w1 (by omega) two_fam two_bas hi1 two_mod.1)
  rw [two_mod.2] at C1
  have e15 : Value.int .i64 ((15 : Nat) : Int) = Value.int .i64 15 := rfl
  rw [e15] at C1
  go_wp2_with fail
  refine C1.out.mono ?_
  rintro e w4 ⟨rfl, hb4⟩
  have hb14 := hb1.trans (hb4.mono hb1.size)
  have X4 := hid (HX.out w4 hb14)
  obtain ⟨x0, x1⟩ := X4.out
  have hs4 : w.heap.size < w4.heap.size := by have := hb14.size; simp at this; omega
  have HB4 := hid (HB0.out.trans (hb14.mono HB0.out.size))
  have HI4 := hid (HI0.out.below hb14)
  clear hb1 hb4 hb14 hi1 C1 HX HB0 HI0
  by_cases hq : chkR n zs = 0
  · obtain ⟨m, l, rfl, hm, rfl, hf, hb⟩ := chk_of hq
    rw [N_len] at *
    cases hmz : memZ f (N (fltL m (rk l)))
    · have C1 := hid (Modular_arg m f _ l w4 hm hf hb HI4.out hmz)
      go_wp2_with fail
      refine C1.out.mono ?_
      rintro e w5 ⟨rfl, hb5⟩
      have HB5 := hid (HB4.out.trans (hb5.mono HB4.out.size))
      clear hb5
      go_wp2_with fail
      go_ret
      exact ⟨rfl, HB5.out⟩
    · obtain ⟨kf, rfl, hkf⟩ := mod_nat hmz
      have C1 := hid (Modular_ok m kf _ l w4 hm hf hb HI4.out hkf)
      cases hmd : modB (fltL m (rk l)) (rk l) kf
      · rw [hmd] at C1
        go_wp2_with fail
        refine C1.out.mono ?_
        rintro e w5 ⟨rfl, hb5⟩
        have HB5 := hid (HB4.out.trans (hb5.mono HB4.out.size))
        clear hb5
        go_wp2_with fail
        go_ret
        exact ⟨rfl, HB5.out⟩
      · rw [hmd] at C1
        obtain ⟨hkT, hkff⟩ := flt_mem.1 hkf
        have hmod : ∀ g ∈ fltL m (rk l), rk l kf + rk l g = rk l (kf &&& g) + rk l (kf ||| g) := fun g hg => by
          unfold modB at hmd
          rw [List.all_eq_true] at hmd
          exact beq_iff_eq.1 (hmd g hg)
        have hgT : dif (2 ^ m - 1) kf < 2 ^ m := kept_ltn m kf
        have DL := hid (fun v2 w2 hI => Delete_ok m (dif (2 ^ m - 1) kf) v2 l w2 hm hf hb hI hgT)
        obtain ⟨dc1, dc2⟩ := del_chars m kf l hm hb hkT
        have CD := hid (fun v2 w2 hI => Characteristic_ok (pop (dif (2 ^ m - 1) (dif (2 ^ m - 1) kf))) v2 (minL m l (dif (2 ^ m - 1) kf) 0) w2 (kept_le hm _) (min_fam m l _ 0) (min_bas hm hb _ 0) hI)
        rw [dc1, dc2] at CD
        have CM := hid (fun w2 hI => Characteristic_ok m (.slice a l.length cap) l w2 hm hf hb hI)
        have hl8 : (minL m l (dif (2 ^ m - 1) kf) 0).length ≤ 256 := fam_len (kept_le hm _) (min_fam m l _ 0)
        have AL := hid (fun w => All_nat m w hm)
        have AN : bits .andNot .i64 ((2 ^ m - 1 : Nat) : Int) (kf : Int) = ((dif (2 ^ m - 1) kf : Nat) : Int) := i64_andNot_nat _ _ (by have := lt256 hm (full_lt m); omega) (by have := lt256 hm hkT; omega)
        have hAR : rk l kf ≤ rk l (2 ^ m - 1) := rk_below hb.rk hkT
        have hR8 := rk_small hm hf (2 ^ m - 1)
        have ST : Hid (chrS (rk l) (rk l (2 ^ m - 1)) (2 ^ m) = cvS (quoC (rk l) m kf) (subC (rk l) m kf) (rk l kf) (rk l (2 ^ m - 1) - rk l kf + 1)) := funext fun j => stanley hm hb.rk hkT hmod j
        have HQS : Hid (∀ i, -256 ≤ quoC (rk l) m kf i ∧ quoC (rk l) m kf i ≤ 256) := fun i => quo_small hm
        have HAS : Hid (∀ i, -256 ≤ subC (rk l) m kf i ∧ subC (rk l) m kf i ≤ 256) := fun i => subC_small hm
        have HLP : Hid (loopS (rk l) m = 0 ∨ ∀ j, j ≤ rk l (2 ^ m - 1) → chrS (rk l) (rk l (2 ^ m - 1)) (2 ^ m) j = 0) := by
          by_cases c : loopS (rk l) m = 0
          · exact .inl c
          · exact .inr fun j hj => chr_loops hm hb.rk c hj
        have HL1 : Hid (loopS (rk l) m = 0 → subC (rk l) m kf (rk l kf) = 1 ∧ chrS (rk l) (rk l (2 ^ m - 1)) (2 ^ m) (rk l (2 ^ m - 1)) = 1) := fun c => ⟨subC_lead hm hb.rk c, chr_lead hm hb.rk c⟩
        clear hq hf hb hmod hkT hkff hgT dc1 dc2 hmd hmz hkf
        generalize minL m l (dif (2 ^ m - 1) kf) 0 = l' at *
        generalize pop (dif (2 ^ m - 1) (dif (2 ^ m - 1) kf)) = k' at *
        generalize dif (2 ^ m - 1) kf = dk at *
        generalize quoC (rk l) m kf = qc at *
        generalize subC (rk l) m kf = ac at *
        generalize loopS (rk l) m = lo at *
        generalize hA : rk l kf = A at *
        generalize hRR : rk l (2 ^ m - 1) = R at *
        generalize chrS (rk l) R (2 ^ m) = cf at *
        generalize 2 ^ m - 1 = fm at *
        clear hA hRR
        go_wp2_with fail
        refine C1.out.mono ?_
        rintro e w5 ⟨rfl, hb5⟩
        obtain ⟨y0, y1⟩ : w5.cell? ⟨w.heap.size, 0, none⟩ = some (.int .i64 m) ∧ w5.cell? ⟨w.heap.size, 1, none⟩ = some (.slice a l.length cap) := ⟨(hb5.cell (p := ⟨w.heap.size, 0, none⟩) hs4).trans x0, (hb5.cell (p := ⟨w.heap.size, 1, none⟩) hs4).trans x1⟩
        have hs5 : w.heap.size < w5.heap.size := Nat.lt_of_lt_of_le hs4 hb5.size
        have HB5 := hid (HB4.out.trans (hb5.mono HB4.out.size))
        have I5 := hid (HI4.out.below hb5)
        clear hb5 x0 x1 C1 X4 HI4 HB4
        go_upto_region 7 with fail
        go_cut [9, 10] (fun b f W => ∃ bM r, b = .pointer (some ⟨bM, 0, none⟩) ∧ f = .int .i64 0 ∧ Hid (W.heap[bM]? = some (.cells #[.int .i64 k', r] 24 (0, 0))) ∧ Hid (Own w5.heap.size W r l') ∧ Hid (Below w5.heap.size w5 W))
        case first =>
          have CX := hid (fun w' (hb0 : Below w5.heap.size w5 w') => DL.out (.slice a l.length cap) w' (I5.out.below hb0))
          have hA : Hid (Below w5.heap.size w5 w5.drew) := (Below.refl _ _).drew
          have hB : Hid (Below w5.heap.size w5 (w5.alloc (.cells #[.int .i64 0, .slice none 0 0] 24)).drew) := ((Below.refl _ _).alloc (Nat.le_refl _) _).drew
          have zB : Hid (w5.heap.size < (w5.alloc (.cells #[.int .i64 0, .slice none 0 0] 24)).drew.heap.size ∧ (w5.alloc (.cells #[.int .i64 0, .slice none 0 0] 24)).drew.heap[w5.heap.size]? = some (.cells #[.int .i64 0, .slice none 0 0] 24 (0, 0))) := ⟨by show _ < (w5.alloc (.cells #[.int .i64 0, .slice none 0 0] 24)).heap.size; simp, World.alloc_heap_new w5 _⟩
          have q1 : ¬ w.heap.size = w5.heap.size := by omega
          have q2 : ¬ w5.heap.size = w.heap.size := by omega
          clear ST HQS HAS HLP HL1 CD CM
          go_region_held3 (fun w' => w'.cell? ⟨w.heap.size, 0, none⟩ = some (.int .i64 m) ∧ w'.cell? ⟨w.heap.size, 1, none⟩ = some (.slice a l.length cap)) (go_keep)
           (first
            | (go_at_call 9; refine (AL.out _).mono ?_; rintro e w' ⟨rfl, hw'⟩; obtain rfl := hw'.symm)
            | (go_at_call 8; refine (CX.out _ hA.out).mono ?_; rintro e w11 ⟨r11, rfl, ho11, hb11⟩; have H11 := hid (hA.out.trans (hb11.mono hA.out.size)); have O11 := hid (ho11.mono hA.out.size); have t0 := (H11.out.cell (p := ⟨w.heap.size, 0, none⟩) hs5).trans y0; have t1 := (H11.out.cell (p := ⟨w.heap.size, 1, none⟩) hs5).trans y1; have n11 := hid (World.alloc_heap_new w11 (.cells #[.int .i64 k', r11] 24)); obtain ⟨rb, rd, hr11⟩ := ownsRow_form' ho11; subst hr11; clear ho11 hb11)
            | (go_at_call 8; refine (CX.out _ hB.out).mono ?_; rintro e w11 ⟨r11, rfl, ho11, hb11⟩; have H11 := hid (hB.out.trans (hb11.mono hB.out.size)); have O11 := hid (ho11.mono hB.out.size); have OB := hid ho11; have t0 := (H11.out.cell (p := ⟨w.heap.size, 0, none⟩) hs5).trans y0; have t1 := (H11.out.cell (p := ⟨w.heap.size, 1, none⟩) hs5).trans y1; have n12 : w11.heap[w5.heap.size]? = some (.cells #[.int .i64 0, .slice none 0 0] 24 (0, 0)) := (hb11.block w5.heap.size zB.out.1).trans zB.out.2; have N12 := hid n12; obtain ⟨s0, s1, s2, s3⟩ := two_cells n12; obtain ⟨rb, rd, hr11⟩ := ownsRow_form' ho11; subst hr11; clear ho11 hb11 n12))
          all_goals first
            | (go_wp2_with fail; go_meet; exact ⟨w11.heap.size, _, rfl, rfl, n11, O11.out.below ((Below.refl _ _).alloc (Nat.le_refl _) _), H11.out.alloc H11.out.size _⟩)
            | (go_wp2_with fail; go_meet; exact ⟨w5.heap.size, _, rfl, rfl, set_one (set_nil N12.out), (OB.out.set2 (by show w5.heap.size < (w5.alloc (.cells #[.int .i64 0, .slice none 0 0] 24)).heap.size; simp)).mono hB.out.size, below_two H11.out (Nat.le_refl _)⟩)
        case rest =>
          obtain ⟨bM, r, rfl, rfl, NB, OR, BW⟩ := hcut
          obtain ⟨k0, k1, -, -⟩ := two_cells NB.out
          have hbM : bM < wc.heap.size := (Array.getElem?_eq_some_iff.1 NB.out).1
          have IR := hid (OR.out.ints (by omega))
          obtain ⟨ra, rc, hr⟩ := ownsRow_form' OR.out
          subst hr
          have I6 := hid (I5.out.below BW.out)
          have CD1 := hid (CD.out _ wc IR.out)
          have HB6 := hid (HB5.out.trans (BW.out.mono HB5.out.size))
          have z0 := (BW.out.cell (p := ⟨w.heap.size, 0, none⟩) hs5).trans y0
          have z1 := (BW.out.cell (p := ⟨w.heap.size, 1, none⟩) hs5).trans y1
          have hs6 : w.heap.size < wc.heap.size := Nat.lt_of_lt_of_le hs5 BW.out.size
          clear CD DL AL AN I5 HB5 BW OR IR NB y0 y1
          go_wp2_with fail
          refine CD1.out.mono ?_
          rintro e w7 ⟨av, rfl, ha7, hb7⟩
          have j0 := (hb7.cell (p := ⟨w.heap.size, 0, none⟩) hs6).trans z0
          have j1 := (hb7.cell (p := ⟨w.heap.size, 1, none⟩) hs6).trans z1
          have HA7 := hid ha7
          obtain ⟨ab, ao, acp, rfl, hab, -⟩ := ha7
          have CM1 := hid (CM.out w7 (I6.out.below hb7))
          have HB7 := hid (HB6.out.trans (hb7.mono HB6.out.size))
          clear hb7 CM CD1 z0 z1 I6 HB6 k0 k1
          go_wp2_with fail
          refine CM1.out.mono ?_
          rintro e w8 ⟨cv, rfl, hc8, hb8⟩
          have HA8 := hid (HA7.out.below hb8)
          have hab8 : ab < w8.heap.size := Nat.lt_of_lt_of_le hab hb8.size
          have HC8 := hid hc8
          have HB8 := hid (HB7.out.trans (hb8.mono HB7.out.size))
          have CF := hid (ContainsFuncL_any 12 cv _ w8 enters_mod1 (hc8.ints (by omega)) mod_one1)
          have CL := hid (CloneL_ok (R + 1) cf cv w8 hc8 (by omega))
          obtain ⟨cb, co, cc, rfl, hcb, -⟩ := hc8
          clear hb8 CM1 HA7 HB7 j0 j1
          rcases HLP.out with hlo | hz
          · obtain ⟨a1, c1⟩ := HL1.out hlo
            have hany : ((List.range (R + 1)).map cf).any (fun x => x != 0) = true := (any_map_range cf (R + 1)).2 ⟨R, by omega, by rw [c1]; decide⟩
            rw [hany] at CF
            clear hany hlo HLP HL1 HC8
            generalize hN1 : R + 1 = N1 at *
            go_wp2_with fail
            refine CF.out.mono ?_
            rintro e w9 ⟨rfl, h9⟩
            obtain rfl := h9.symm
            go_wp2_with fail
            refine CL.out.mono ?_
            rintro e w9 ⟨lv, rfl, ho9, hb9⟩
            have hN0 : 0 < ((List.range N1).map cf).length := by simp; omega
            obtain ⟨g, gc, hlv, hg, htb⟩ := ho9.tblZ hN0
            subst hlv
            rw [show ((List.range N1).map cf).length = N1 by simp] at *
            have HT9 := hid (htb.congr (f' := cvS qc ac A (R - A + 1)) (fun i hi => by
              rw [← ST.out]
              simp [List.getD, hi]))
            have HA9 := hid (HA8.out.below hb9)
            have HB9 := hid (HB8.out.trans (hb9.mono HB8.out.size))
            have hgA : ab < g := by omega
            have hs9 : w8.heap.size ≤ w9.heap.size := hb9.size
            have HB8s : Hid (w.heap.size ≤ w8.heap.size) := HB8.out.size
            clear htb ho9 hb9 CF CL HA8 HB8 ST c1
            obtain ⟨N2, hN2, hN2'⟩ : ∃ N2 : Nat, A + 1 = N2 ∧ (N2 : Int) - 1 = (A : Int) := ⟨A + 1, rfl, by omega⟩
            rw [hN2] at HA9
            have hk0 : (N1 : Int) - 1 = (A : Int) + ((R - A + 1 : Nat) : Int) - 1 := by omega
            obtain ⟨kk, hkk, HKK⟩ : ∃ kk : Int, (N1 : Int) - 1 = kk ∧ Hid (kk = (A : Int) + ((R - A + 1 : Nat) : Int) - 1) := ⟨_, rfl, hk0⟩
            clear hk0
            go_wp2_with fail
            go_loopw [16, 17, 18] (fun i _ _ wr => ∃ E : Nat, E ≤ R - A + 1 ∧ i = .int .i64 ((A : Int) + (E : Int) - 1) ∧ Hid (TblZ g wr N1 (cvS qc ac A E)) ∧ Hid (Save (fun b => b = g) w9 wr)) (fun i _ _ _ => ((intOf i) + 1).toNat)
            case atStart => exact ⟨R - A + 1, Nat.le_refl _, by rw [HKK.out], HT9.out, Save.refl _ _⟩
            case round =>
              obtain ⟨E, hE, rfl, HK, HSV⟩ := hrel
              have hgr : g < wr.heap.size := HK.out.size
              by_cases hE0 : E = 0
              · have hge : ¬ (A : Int) ≤ (A : Int) + (E : Int) - 1 := by omega
                have hz : ((List.range N1).map (fun _ => (0 : Int))).any (fun x => x != 0) = false := by
                  rw [Bool.eq_false_iff]
                  intro hc
                  obtain ⟨i, _, hi⟩ := (any_map_range (fun _ => (0 : Int)) N1).1 hc
                  exact hi rfl
                have I9 := (HK.out.congr (f' := fun _ => (0 : Int)) (fun i _ => by rw [hE0]; rfl)).rkZ (cap := gc)
                have CF := hid (ContainsFuncL_any 14 _ _ wr enters_mod2 (I9.ints (by omega)) mod_one2)
                rw [hz] at CF
                have HF := hid (HSV.out.below HB9.out HB9.out.size (fun k e => by have := HB8s.out; omega))
                clear I9 hz hE0 HK HSV
                go_wp2_with fail
                refine CF.out.mono ?_
                rintro e w10 ⟨rfl, h10⟩
                obtain rfl := h10.symm
                go_wp2_with fail
                go_ret
                exact ⟨rfl, HF.out⟩
              · obtain ⟨D, hD⟩ : ∃ D, E = D + 1 := ⟨E - 1, by omega⟩
                subst hD
                have hge : (A : Int) ≤ (A : Int) + ((D + 1 : Nat) : Int) - 1 := by omega
                obtain ⟨kd, hkd, hkd2⟩ : ∃ kd : Nat, (A : Int) + ((D + 1 : Nat) : Int) - 1 = (kd : Int) ∧ kd = A + D := ⟨A + D, by omega, rfl⟩
                have hkN : kd < N1 := by omega
                have hkNi : (kd : Int) < (N1 : Int) := by omega
                have p1 := HK.out.cell kd hkN
                have hlead : cvS qc ac A (D + 1) kd = qc D := by rw [hkd2, cv_lead, a1, Int.mul_one]
                rw [hlead] at p1
                have K0 := hid (HK.out.congr (f' := inS qc ac A D 0) (fun i _ => in_zero qc ac A D i))
                have ISM := hid (fun t x => in_small (A := A) (show D ≤ 8 by omega) HQS.out HAS.out t x)
                have INS := hid (fun t (ht : t ≤ A) x => in_step (q := qc) (a := ac) (D := D) ht x)
                have INE := hid (fun x => in_end qc ac A D x)
                have qD := HQS.out D
                rw [hkd] at hge
                rw [hkd]
                clear hlead HK HKK hE0
                have hmeas2 : ((kd : Int) - 1 + 1).toNat < ((kd : Int) + 1).toNat := by omega
                obtain ⟨q, HQD⟩ : ∃ q, Hid (qc D = q) := ⟨_, rfl⟩
                rw [HQD.out] at p1 qD
                have HK2 := hid hkd2
                have HN2 := hid hN2
                clear hkd2 hkd hN2
                go_wp2_with fail
                go_loopw [18, 95] (fun _ i wr' => ∃ t : Nat, t ≤ N2 ∧ i = .int .i64 t ∧ Hid (TblZ g wr' N1 (inS qc ac A D t)) ∧ Hid (Save (fun b => b = g) w9 wr')) (fun _ i _ => N2 - (intOf i).toNat)
                case atStart => exact ⟨0, Nat.zero_le _, rfl, K0.out, HSV.out⟩
                case round =>
                  obtain ⟨t, ht, rfl, HT, HU⟩ := hrel
                  by_cases hlt : t < N2
                  · have htA : t ≤ A := by have := HN2.out; omega
                    obtain ⟨x, hx, HXX⟩ : ∃ x : Nat, (kd : Int) - (t : Int) = (x : Int) ∧ Hid (A + D - t = x) := ⟨A + D - t, by have := HK2.out; omega, rfl⟩
                    obtain ⟨y, hy, HYY⟩ : ∃ y : Nat, (A : Int) - (t : Int) = (y : Int) ∧ Hid (A - t = y) := ⟨A - t, by omega, rfl⟩
                    have hxN : x < N1 := by have := HXX.out; omega
                    have hyN : y < N2 := by have := HYY.out; have := HN2.out; omega
                    have hxi : (x : Int) < (N1 : Int) := by omega
                    have hyi : (y : Int) < (N2 : Int) := by omega
                    have hwx : IntKind.i64.wrap (x : Int) = (x : Int) := IntWalk.i64_in _ (by omega)
                    have hwy : IntKind.i64.wrap (y : Int) = (y : Int) := IntWalk.i64_in _ (by omega)
                    have hwA : IntKind.i64.wrap (A : Int) = (A : Int) := IntWalk.i64_in _ (by omega)
                    have c1 := HT.out.cell x hxN
                    have c2 := HT.out.frozen x
                    have c3 : wr.cell? ⟨ab, ao + y, none⟩ = some (.int .i64 (ac y)) := (World.cell?_of_block (w := w9) (a := ⟨ab, ao + y, none⟩) (HU.out.block ab (by omega) (by omega))).trans (HA9.out.cellAt (Below.refl _ _) hyN)
                    have b1 := ISM.out t x
                    have b2 := HAS.out y
                    have b3 := mul_256 qD b2
                    have STP := hid (INS.out t htA)
                    rw [HXX.out, HYY.out, HQD.out] at STP
                    obtain ⟨pq, hpq, HPQ⟩ : ∃ pq, q * ac y = pq ∧ Hid (q * ac y = pq) := ⟨_, rfl, rfl⟩
                    rw [HPQ.out] at b3 STP
                    have hw1 : IntKind.i64.wrap pq = pq := IntWalk.i64_in _ (by omega)
                    have hw2 : IntKind.i64.wrap (inS qc ac A D t x - pq) = inS qc ac A D t x - pq := IntWalk.i64_in _ (by omega)
                    have G : Hid (∀ m, TblZ g ((wr.drewN m).setCell ⟨g, x, none⟩ (.int .i64 (inS qc ac A D t x - pq))) N1 (inS qc ac A D (t + 1))) := fun m => (HT.out.drewN m).set x _ hxN (fun i _ => by
                      rw [STP.out]
                      by_cases e : x = i
                      · rw [if_pos e, if_pos e, e]
                      · rw [if_neg e, if_neg e])
                    have SS : Hid (∀ (m : Nat) (u : Value), Save (fun b => b = g) w9 ((wr.drewN m).setCell ⟨g, x, none⟩ u)) := fun m u => (HU.out.trans (Save.of_below (drewN_below _ _ m))).setCell (p := ⟨g, x, none⟩) (.inl rfl) u
                    clear HT STP HXX HYY HU htA
                    generalize inS qc ac A D t x = ix at *
                    generalize ac y = ay at *
                    go_wp2_with fail
                    go_region_with fail
                    all_goals go_wp2_with fail
                    all_goals exact ⟨⟨t + 1, by omega, by go_num, G.out _, SS.out _ _⟩, by simp [intOf]; omega⟩
                  · have htN : t = N2 := by omega
                    have F1 := hid (HT.out.congr (f' := cvS qc ac A D) (fun i hi => by rw [htN, ← HN2.out, INE.out]))
                    have hnx : (kd : Int) - 1 = (A : Int) + (D : Int) - 1 := by have := HK2.out; omega
                    obtain ⟨kn, hkn, HKN⟩ : ∃ kn : Int, (kd : Int) - 1 = kn ∧ Hid (kn = (A : Int) + (D : Int) - 1) := ⟨_, rfl, hnx⟩
                    have hms : (kn + 1).toNat < ((kd : Int) + 1).toNat := by omega
                    have hkb : -1 ≤ kn ∧ kn ≤ 100 := by omega
                    clear HT hnx htN
                    go_wp2_with fail
                    go_roundw
                    case rel => exact ⟨D, by omega, by rw [HKN.out], F1.out, HU.out⟩
                    case measure => simpa [intOf] using hms
          · have hany : ((List.range (R + 1)).map cf).any (fun x => x != 0) = false := by
              rw [Bool.eq_false_iff]
              intro hc
              obtain ⟨i, hi, hne⟩ := (any_map_range cf (R + 1)).1 hc
              exact hne (hz i (by omega))
            rw [hany] at CF
            clear hany hz HLP HL1 HC8 CL
            go_wp2_with fail
            refine CF.out.mono ?_
            rintro e w9 ⟨rfl, h9⟩
            obtain rfl := h9.symm
            go_wp2_with fail
            go_ret
            exact ⟨rfl, HB8.out⟩
  · have C1 := hid (Modular_bad n f _ zs w4 HI4.out hq)
    generalize chkR n zs = q at *
    have hq' : (q == 0) = false := by rw [beq_eq_false_iff_ne]; exact hq
    go_wp2_with fail
    refine C1.out.mono ?_
    rintro e w5 ⟨rfl, hb5⟩
    have HB5 := hid (HB4.out.trans (hb5.mono HB4.out.size))
    clear hb5
    go_wp2_with fail
    go_ret
    exact ⟨rfl, HB5.out⟩
end Go.Proofs.Ytpmpfnbgjgjlgab
