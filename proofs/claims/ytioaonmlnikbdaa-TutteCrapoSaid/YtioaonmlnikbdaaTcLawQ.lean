/- rotakeep.TutteCrapo. -/
import Derived.Test.YtioaonmlnikbdaaTtDQ
import Derived.Test.YtioaonmlnikbdaaRefQ
import Derived.Test.YtioaonmlnikbdaaFuncAnyQ
import Derived.Deep.RegionHeld3
import Derived.Deep.CutRange
import Derived.Deep.DeepCutAuto
namespace Go.Proofs.Ytioaonmlnikbdaa
open Go.RowKit

theorem two_act : actI twoL 3 4 = 3 ∧ actO twoL 3 4 = 0 := by decide +kernel
theorem RWithin_is (a b : Nat) (w : World) (ha : a < 256) (hb : b < 256) : Calls Try.prog 8 #[.int .i64 a, .int .i64 b] w fun e w' => e = .returned (.bool (subB a b)) ∧ w' = w := by
  have h1 : bits .or .i64 (a : Int) (b : Int) = ((a ||| b : Nat) : Int) := i64_or_nat a b (by omega) (by omega)
  have HQ : Hid (((a ||| b : Nat) : Int) == (b : Int)) = Hid (((a ||| b : Nat) : Int) == (b : Int)) := rfl
  have HS : Hid ((((a ||| b : Nat) : Int) == (b : Int)) = subB a b) := by
    show _ = _
    rw [Bool.eq_iff_iff, beq_iff_eq, subB_iff]
    constructor
    · intro h i hi
      have h' : a ||| b = b := by omega
      rw [← h', Nat.testBit_or, hi]; rfl
    · intro h
      have : a ||| b = b := Nat.eq_of_testBit_eq fun i => by
        rw [Nat.testBit_or]
        have := h i
        cases h1 : a.testBit i <;> cases h2 : b.testBit i <;> simp_all
      omega
  generalize a ||| b = c at *
  go_enter Try.func8, Try.ntmps8
  go_wp2_with fail
  go_ret
  exact ⟨ret_bool HS.out, rfl⟩
/-- in how many of the first k places s is -/
def scn (n : Nat) (l : List Nat) (k s : Nat) : Nat := ((l.take k).filter fun b => btB l n b s).length
theorem scn_zero (n : Nat) (l : List Nat) (s : Nat) : scn n l 0 s = 0 := rfl
theorem scn_step {n : Nat} {l : List Nat} {k : Nat} (hk : k < l.length) (s : Nat) : scn n l (k + 1) s = if btB l n (l.getD k 0) s = true then scn n l k s + 1 else scn n l k s := by
  unfold scn
  have e : l.getD k 0 = l[k] := by simp [List.getD, hk]
  rw [List.take_succ_eq_append_getElem hk, List.filter_append, List.length_append, e, List.filter_cons]
  by_cases h : btB l n l[k] s = true
  · rw [if_pos h, if_pos h]; rfl
  · rw [if_neg h, if_neg h]; rfl
theorem scn_le (n : Nat) (l : List Nat) (k s : Nat) : scn n l k s ≤ l.length := Nat.le_trans (List.length_filter_le _ _) (by rw [List.length_take]; omega)
theorem tal_cntC (p : Nat → Bool) : ∀ l : List Nat, tal (fun s => if p s = true then 1 else 0) l = ((l.filter p).length : Int)
  | [] => rfl
  | a :: l => by
    simp only [tal, tal_cntC p l, List.filter_cons]
    cases h : p a
    · simp
    · simp; omega
theorem scn_one {n : Nat} {l : List Nat} (hn : n ≤ 8) (hf : Fam n l) (hb : Bas l) {s : Nat} (hs : s < 2 ^ n) : scn n l l.length s = 1 := by
  have h1 := see_one n l hn hf hb s hs
  unfold seeZ at h1
  rw [tal_cntC] at h1
  unfold scn
  rw [List.take_length]
  omega
theorem crp_one (x : Int) (w : World) : Calls Try.prog 12 #[.int .i64 x] w fun e w' => e = .returned (.bool (x != 1)) ∧ w' = w := by
  go_enter Try.func12, Try.ntmps12
  go_wp2_with fail
  go_ret
  exact ⟨rfl, rfl⟩
theorem enters_crp : Enters 12 := fun args w => enters_of Try.func12 (by kernel_rfl) rfl args w
theorem ones_list (T : Nat) : (List.range T).map (fun _ => (1 : Int)) = N (List.replicate T 1) := by
  unfold N
  rw [List.map_replicate]
  induction T with
  | zero => rfl
  | succ T ih => rw [List.range_succ, List.map_append, ih, List.replicate_succ']; rfl
theorem TblM.other {g : Nat} {w : World} {N M : Nat} {f : Nat → Nat → Int} (h : TblM g w N M f) (p : Addr) (v : Value) (hp : g + N < p.block) : TblM g (w.setCell p v) N M f :=
  ⟨fun i hi => (World.cell?_setCell_other _ _ _ _ (fun e => by have := congrArg Addr.block e; simp at this; omega)).trans (h.head i hi), fun i hi => (h.row i hi).other p v (by omega), by rw [World.size_setCell]; exact h.size⟩
/-- the places while the next one is counted -/
def sch (n : Nat) (l : List Nat) (k j s : Nat) : Nat := if s < j then scn n l (k + 1) s else scn n l k s
theorem sch_zero (n : Nat) (l : List Nat) (k s : Nat) : sch n l k 0 s = scn n l k s := by unfold sch; rw [if_neg (by omega)]
theorem sch_full {n : Nat} {l : List Nat} {k j s : Nat} (h : s < j) : sch n l k j s = scn n l (k + 1) s := by unfold sch; rw [if_pos h]
theorem sch_at (n : Nat) (l : List Nat) (k j : Nat) : sch n l k j j = scn n l k j := by unfold sch; rw [if_neg (by omega)]
theorem sch_step (n : Nat) (l : List Nat) (k j s : Nat) : sch n l k (j + 1) s = if j = s then scn n l (k + 1) j else sch n l k j s := by
  unfold sch
  by_cases h : j = s
  · subst h; simp
  · rw [if_neg h]
    by_cases h2 : s < j
    · rw [if_pos h2, if_pos (by omega)]
    · rw [if_neg h2, if_neg (by omega)]
set_option maxRecDepth 20000 in
set_option maxHeartbeats 4000000 in
theorem tcrapo_law (n : Int) (v : Value) (zs : List Int) (w : World) (h : Ints w v zs) :
    Calls Try.prog 3 #[.agg #[.int .i64 n, v]] w fun e w' => e = .returned (.bool true) ∧ Below w.heap.size w w' := by
  have HI := hid h
  obtain ⟨a, cap, rfl, -, -⟩ := h
  have hB0 := below_box w #[.int .i64 n, .slice a zs.length cap]
  have HB0 := hid hB0
  have HI0 := hid (HI.out.below hB0)
  have HX : Hid (∀ w2, Below (w.alloc (.cells #[.int .i64 n, .slice a zs.length cap] 24)).heap.size (w.alloc (.cells #[.int .i64 n, .slice a zs.length cap] 24)) w2 → _) := fun w2 hb => box_cells hb
  clear hB0 HI
  go_enter Try.func3, Try.ntmps3
  go_wp2_with fail
  refine (two_any _).mono ?_
  rintro e w1 ⟨v1, rfl, hi1, hb1⟩
  have C1 := hid (Activities_ok 4 v1 twoL 3 w1 (by omega) two_fam two_bas (by decide) hi1)
  rw [two_act.1, two_act.2] at C1
  clear hi1
  go_wp2_with fail
  refine C1.out.mono ?_
  rintro e w4 ⟨rfl, hb4⟩
  have hb14 := hb1.trans (hb4.mono hb1.size)
  obtain ⟨x0, x1⟩ := HX.out w4 hb14
  have hs4 : w.heap.size + 1 ≤ w4.heap.size := by have := hb14.size; simpa using this
  have HB4 := hid (HB0.out.trans (hb14.mono HB0.out.size))
  have HI4 := hid (HI0.out.below hb14)
  clear hb4 hb14 hb1 HX HB0 HI0 C1
  by_cases hq : chkR n zs = 0
  · obtain ⟨m, l, rfl, hm, rfl, hf, hb⟩ := chk_of hq
    rw [N_len] at x1 HI4 ⊢
    have PO := hid (Polynomial_ok m _ l w4 hm hf hb HI4.out)
    have HAC := hid (fun b w hbl h => Activities_ok m (.slice a l.length cap) l b w hm hf hb hbl h)
    have HIN : Hid (∀ k, k < l.length → l.getD k 0 ∈ l) := fun k hk => by simp [List.getD, hk]
    have HBI := hid (fun b hbl => actI_pop (b := b) hf hb hbl)
    have HBO := hid (fun b hbl => actO_pop (b := b) hm hf hb hbl)
    have HB8 := hid hb.lt
    have HS1 := hid (fun s hs => scn_one (s := s) hm hf hb hs)
    have hRm := rank_n hm hb
    have hlen := fam_lenT hm hf
    have hl0 : 0 < l.length := List.length_pos_iff.2 hb.ne
    clear hq hf hb
    obtain ⟨R, HR⟩ : ∃ R, Hid (rk l (2 ^ m - 1) = R) := ⟨_, rfl⟩
    rw [HR.out] at PO HBI HBO hRm
    obtain ⟨N1, HN⟩ : ∃ N1, Hid (R + 1 = N1) := ⟨_, rfl⟩
    obtain ⟨M1, HM⟩ : ∃ M1, Hid (m - R + 1 = M1) := ⟨_, rfl⟩
    rw [HN.out, HM.out] at PO
    have hN9 : N1 ≤ 9 := by rw [← HN.out]; omega
    have hM9 : M1 ≤ 9 := by rw [← HM.out]; omega
    have hN0 : 0 < N1 := by rw [← HN.out]; omega
    have hmk1 := fun w => run_make_row' (P := Try.prog) 29 32 (.slice none 0 0) 24 Try.undRows64 Try.infoRow64 rfl .i64 .i64 N1 (by omega) (by omega) w
    have hmk2 := fun w => run_make_row' (P := Try.prog) 32 2 (.int .i64 0) 8 Try.underlying32 Try.infoLong rfl .i64 .i64 M1 (by omega) (by omega) w
    go_wp2_with fail
    refine PO.out.mono ?_
    rintro e w5 ⟨gt, rfl, hgt, htm, hb5⟩
    have hgt5 := htm.size
    have y0 := (hb5.cell (p := ⟨w.heap.size, 0, none⟩) (by show w.heap.size < _; omega)).trans x0
    have y1 := (hb5.cell (p := ⟨w.heap.size, 1, none⟩) (by show w.heap.size < _; omega)).trans x1
    have HT5 := hid htm
    have HI5 := hid (HI4.out.below hb5)
    have HB5 := hid (HB4.out.trans (hb5.mono HB4.out.size))
    have hs5 : w.heap.size + 1 ≤ w5.heap.size := Nat.le_trans hs4 hb5.size
    have TH := TblH.new w5 N1 M1 32
    have hB6 := (Below.refl _ _).alloc (Nat.le_refl w5.heap.size) (.cells (madeCells #[.slice none 0 0] N1) 32)
    obtain ⟨W1, hW1⟩ : ∃ W1, w5.alloc (.cells (madeCells #[.slice none 0 0] N1) 32) = W1 := ⟨_, rfl⟩
    rw [hW1] at TH hB6
    have HTH := hid TH
    have HB6 := hid hB6
    clear htm hb5 PO TH hB6 x0 x1 HI4 HB4
    go_wp2_with fail
    clear hmk1 hW1
    go_loopw [9, 48] (fun _ i wr => ∃ k : Nat, k ≤ N1 ∧ i = .int .i64 k ∧ Hid (TblH w5.heap.size wr N1 M1 k) ∧ Hid (Below w5.heap.size w5 wr)) (fun _ i _ => N1 - (intOf i).toNat)
    case atStart => exact ⟨0, Nat.zero_le _, rfl, HTH.out, HB6.out⟩
    case round =>
      obtain ⟨k, hk, rfl, HK, HW⟩ := hrel
      by_cases hlt : k < N1
      · have hki : (k : Int) < (N1 : Int) := by omega
        have t0 := HK.out.todo k (Nat.le_refl _) hlt
        have f0 := HK.out.frozen k
        have ST := hid (HK.out.step hlt 2)
        have hsz := HK.out.size
        have t1 := (((Below.refl _ wr).alloc (Nat.le_refl _) (.cells (madeCells #[.int .i64 0] M1) 2)).cell (p := ⟨w5.heap.size, k, none⟩) (by show w5.heap.size < _; omega)).trans t0
        have f1 := (froz_below ((Below.refl _ wr).alloc (Nat.le_refl _) (.cells (madeCells #[.int .i64 0] M1) 2)) (b := w5.heap.size) (off := k) (by omega)).trans f0
        have HW2 := hid ((HW.out.alloc (by omega) (.cells (madeCells #[.int .i64 0] M1) 2)).setCell (p := ⟨w5.heap.size, k, none⟩) (by simp) (.slice (some ⟨wr.heap.size, 0, none⟩) M1 M1))
        have z0 := (HT5.out.below HW.out).head k hlt
        have HSZ := hid hsz
        clear hsz
        go_wp2_with fail
        go_roundw
        case rel => exact ⟨k + 1, by omega, by go_num, ST.out, HW2.out⟩
        case measure => simp [intOf]; omega
      · obtain rfl : N1 = k := by omega
        have HT := hid HK.out.full
        have hsz := HK.out.size
        obtain ⟨T, HTT, hT2, HTW, hT0⟩ : ∃ T : Nat, Hid (2 ^ m = T) ∧ T ≤ 256 ∧ Hid (wrap64 (2 ^ m) = (T : Int)) ∧ 1 ≤ T := ⟨2 ^ m, rfl, (pow_wrap _ hm).2, (pow_wrap _ hm).1, Nat.one_le_two_pow⟩
        have hmk3 := fun w => run_make_row' (P := Try.prog) 22 3 (.int .i64 0) 8 Try.underlying22 Try.infoInt rfl .i64 .i64 T (by omega) (by omega) w
        have q0 := (HW.out.cell (p := ⟨w.heap.size, 0, none⟩) (by show w.heap.size < _; omega)).trans y0
        have q1 := (((HW.out.alloc (by omega) (.cells (madeCells #[.int .i64 0] T) 3))).cell (p := ⟨w.heap.size, 1, none⟩) (by show w.heap.size < _; omega)).trans y1
        have TS := TblZ.new wr T 3
        have hB8 := HW.out.alloc (by omega) (.cells (madeCells #[.int .i64 0] T) 3)
        have TN := HT.out.below ((Below.refl _ wr).alloc (Nat.le_refl _) (.cells (madeCells #[.int .i64 0] T) 3))
        obtain ⟨W2, hW2⟩ : ∃ W2, wr.alloc (.cells (madeCells #[.int .i64 0] T) 3) = W2 := ⟨_, rfl⟩
        rw [hW2] at TS hB8 TN q1
        rw [hsz] at TS
        have HTS := hid TS
        have HTN := hid TN
        have HB8' := hid hB8
        clear HK HTH HB6 hmk2 TS hB8 TN HT
        have hT := HTW.out
        clear HTW
        go_wp2_with fail
        clear hmk3 hW2 q0 q1 HW hT
        go_loopw [12, 13, 14, 15, 16, 68] (fun _ _ _ _ _ i wr => ∃ t : Nat, t ≤ l.length ∧ i = .int .i64 t ∧ Hid (TblM w5.heap.size wr N1 M1 (fun i j => (tcn m l t i j : Int))) ∧ Hid (TblZ (w5.heap.size + 1 + N1) wr T (fun s => (scn m l t s : Int))) ∧ Hid (Below w5.heap.size w5 wr)) (fun _ _ _ _ _ i _ => l.length - (intOf i).toNat)
        case atStart => exact ⟨0, Nat.zero_le _, rfl, HTN.out.congr fun i _ j _ => by rw [tcn_zero]; rfl, HTS.out.congr fun i _ => by rw [scn_zero]; rfl, HB8'.out⟩
        case round =>
          obtain ⟨t, ht, rfl, HK, HZ, HV⟩ := hrel
          by_cases hlt' : t < l.length
          · have hti : (t : Int) < (l.length : Int) := by omega
            have hbl := HIN.out t hlt'
            have x0 := (HV.out.cell (p := ⟨w.heap.size, 0, none⟩) (by show w.heap.size < _; omega)).trans y0
            have x1 := (HV.out.cell (p := ⟨w.heap.size, 1, none⟩) (by show w.heap.size < _; omega)).trans y1
            obtain ⟨va, vc, hva, -, hcc⟩ := (HI5.out.below HV.out).nats
            obtain ⟨vb, off, rfl, hvb, hcell⟩ := hcc hl0
            obtain ⟨rfl, rfl⟩ : a = some ⟨vb, off, none⟩ ∧ cap = vc := by simpa using hva
            have z1 := hcell t hlt'
            have b8 := HB8.out _ hbl
            have bI := HBI.out _ hbl
            have bO := HBO.out _ hbl
            have AC := hid (HAC.out _ wr hbl (HI5.out.below HV.out))
            have TS := hid (fun i j => tcn_step (n := m) hlt' i j)
            have SS := hid (fun s => scn_step (n := m) hlt' s)
            have TL := hid (tcn_le m l t)
            have SL := hid (scn_le m l t)
            have hI8 := lt256 hm (actI_lt l (l.getD t 0) m)
            have hO8 := lt256 hm (actO_lt l (l.getD t 0) m)
            have hIs := actI_sub l (l.getD t 0) m
            have hOo := actO_out l (l.getD t 0) m
            have BTT : Hid (∀ s, btB l m (l.getD t 0) s = (subB (dif (l.getD t 0) (actI l (l.getD t 0) m)) s && subB s (l.getD t 0 ||| actO l (l.getD t 0) m))) := fun s => rfl
            clear hcell hcc hva hbl HAC HIN
            generalize l.getD t 0 = b at *
            generalize actI l b m = ai at *
            generalize actO l b m = ao at *
            go_wp2_with fail
            refine AC.out.mono ?_
            rintro e w6 ⟨rfl, hb6⟩
            have hand : bits .and .i64 (ao : Int) (b : Int) = 0 := by rw [i64_and_nat _ _ (by omega) (by omega), hOo]; rfl
            obtain ⟨pi, HPI, hpi2⟩ : ∃ pi, Hid (pop ai = pi) ∧ pi < N1 := ⟨_, rfl, by rw [← HN.out]; omega⟩
            obtain ⟨pj, HPJ, hpj2⟩ : ∃ pj, Hid (pop ao = pj) ∧ pj < M1 := ⟨_, rfl, by rw [← HM.out]; omega⟩
            have S1 := hid (fun w => Size_any ai w hI8)
            have S2 := hid (fun w => Size_any ao w hO8)
            rw [HPI.out] at S1
            rw [HPJ.out] at S2
            have WI := hid (fun w => RWithin_is ai b w hI8 b8)
            rw [hIs] at WI
            have HK6 := hid (HK.out.below hb6)
            have HZ6 := hid (HZ.out.below hb6)
            have HV6 := hid (HV.out.trans (hb6.mono HV.out.size))
            have hd0 : ∀ z : Later w6, z.now.cell? ⟨w5.heap.size, 0, none⟩ = some (.slice (some ⟨w5.heap.size + 1 + 0, 0, none⟩) M1 M1) := fun z => (HK6.out.below z.kept).head 0 hN0
            have hpi3 : decide ((N1 : Int) ≤ (pi : Int)) = false := by rw [decide_eq_false_iff_not]; omega
            have hpj3 : decide ((M1 : Int) ≤ (pj : Int)) = false := by rw [decide_eq_false_iff_not]; omega
            have hpi4 : decide (N1 ≤ pi) = false := by rw [decide_eq_false_iff_not]; omega
            have hpj4 : decide (M1 ≤ pj) = false := by rw [decide_eq_false_iff_not]; omega
            have hN0i : (0 : Int) < (N1 : Int) := by omega
            clear hb6 HK HZ HV bI bO AC x0 x1 z1
            go_wp2_with fail
            refine region_later (by kernel_rfl) (by kernel_rfl) ?_
            repeat (go_big_quiet_step ((first
              | (go_at_call 8; (refine (WI.out _).mono ?_); rintro e w' ⟨rfl, rfl⟩; exact ⟨rfl, _, rfl⟩)
              | (go_at_call_of 9 (Value.int IntKind.i64 (ai : Int)); (with_reducible refine (S1.out _).mono ?_); rintro e w' ⟨rfl, h4⟩; exact ⟨rfl, Later.on _ h4⟩)
              | (go_at_call_of 9 (Value.int IntKind.i64 (ao : Int)); (with_reducible refine (S2.out _).mono ?_); rintro e w' ⟨rfl, h4⟩; exact ⟨rfl, Later.on _ h4⟩))))
            refine wpQuiet_nil ?_
            intro w7 hw'
            obtain ⟨⟨y7, hb7⟩, hw''⟩ := hw'
            dsimp only at hw''
            subst hw''
            have HK7 := hid (HK6.out.below hb7)
            have HZ7 := hid (HZ6.out.below hb7)
            have HV7 := hid (HV6.out.trans (hb7.mono HV6.out.size))
            have q1 := HK7.out.head pi hpi2
            have q2 := (HK7.out.row pi hpi2).cell pj hpj2
            have q3 := (HK7.out.row pi hpi2).frozen pj
            have TLE := TL.out pi pj
            have hpi5 : (pi : Int) < (N1 : Int) := by omega
            have hpj5 : (pj : Int) < (M1 : Int) := by omega
            have hwrap2 : IntKind.i64.wrap ((tcn m l t pi pj : Int) + 1) = ((tcn m l t pi pj + 1 : Nat) : Int) := by
              rw [show (tcn m l t pi pj : Int) + 1 = ((tcn m l t pi pj + 1 : Nat) : Int) by omega]
              exact wrap_i64_nat _ (by omega)
            clear hb7 HK6 HZ6 HV6 hd0 hpi3 hpj3 hpi4 hpj4
            go_wp2_with fail
            have KP : Hid (∀ w' w'', Below w7.heap.size w7 w' → Below w'.heap.size w' w'' → (w''.cell? ⟨w5.heap.size, pi, none⟩ = some (.slice (some ⟨w5.heap.size + 1 + pi, 0, none⟩) M1 M1) ∧ w''.cell? ⟨w5.heap.size + 1 + pi, pj, none⟩ = some (.int .i64 (tcn m l t pi pj : Int))) ∧ Below w7.heap.size w7 w'' ∧ w''.frozen? ⟨w5.heap.size + 1 + pi, pj, none⟩ = false) := fun w' w'' h1 h2 => by
              have h3 := h1.trans (h2.mono h1.size)
              exact ⟨⟨(HK7.out.below h3).head pi hpi2, ((HK7.out.below h3).row pi hpi2).cell pj hpj2⟩, h3, ((HK7.out.below h3).row pi hpi2).frozen pj⟩
            have TN : Hid (∀ w9, Below w7.heap.size w7 w9 → TblM w5.heap.size (w9.setCell ⟨w5.heap.size + 1 + pi, pj, none⟩ (.int .i64 ((tcn m l t pi pj : Int) + 1))) N1 M1 (fun i j => (tcn m l (t + 1) i j : Int)) ∧ TblZ (w5.heap.size + 1 + N1) (w9.setCell ⟨w5.heap.size + 1 + pi, pj, none⟩ (.int .i64 ((tcn m l t pi pj : Int) + 1))) T (fun s => (scn m l t s : Int)) ∧ Below w5.heap.size w5 (w9.setCell ⟨w5.heap.size + 1 + pi, pj, none⟩ (.int .i64 ((tcn m l t pi pj : Int) + 1)))) := fun w9 hb9 => by
              refine ⟨(HK7.out.below hb9).set pi pj _ hpi2 hpj2 fun i _ j _ => ?_, (HZ7.out.below hb9).other _ _ (by show w5.heap.size + 1 + pi ≠ _; omega), (HV7.out.trans (hb9.mono HV7.out.size)).setCell (p := ⟨w5.heap.size + 1 + pi, pj, none⟩) (by show w5.heap.size ≤ w5.heap.size + 1 + pi; omega) _⟩
              rw [TS.out, HPI.out, HPJ.out]
              by_cases hq : pi = i ∧ pj = j
              · obtain ⟨rfl, rfl⟩ := hq; simp
              · rw [if_neg hq, if_neg hq]
            go_cut [12] from 109 to 119 (fun b' W => b' = .int .i64 (b : Nat) ∧ Hid (TblM w5.heap.size W N1 M1 (fun i j => (tcn m l (t + 1) i j : Int))) ∧ Hid (TblZ (w5.heap.size + 1 + N1) W T (fun s => (scn m l t s : Int))) ∧ Hid (Below w5.heap.size w5 W))
            case first =>
              go_region_with (first
                | (go_at_call_of 9 (Value.int IntKind.i64 (ai : Int)); (with_reducible refine (S1.out _).mono ?_); rintro e w8 ⟨rfl, h8⟩; have kk8 := KP.out _ w8 (by first | exact kk9.2.1 | exact (Below.refl _ _).drew) h8; have kk81 := kk8.1.1; have kk82 := kk8.1.2; have kk83 := kk8.2.2; clear h8)
                | (go_at_call_of 9 (Value.int IntKind.i64 (ao : Int)); (with_reducible refine (S2.out _).mono ?_); rintro e w9 ⟨rfl, h9⟩; have kk9 := KP.out _ w9 (by first | exact kk8.2.1 | exact (Below.refl _ _).drew) h9; have kk91 := kk9.1.1; have kk92 := kk9.1.2; have kk93 := kk9.2.2; clear h9))
              all_goals go_wp2_with fail
              all_goals go_meet
              all_goals first | exact ⟨rfl, (TN.out _ kk9.2.1).1, (TN.out _ kk9.2.1).2.1, (TN.out _ kk9.2.1).2.2⟩ | exact ⟨rfl, (TN.out _ kk8.2.1).1, (TN.out _ kk8.2.1).2.1, (TN.out _ kk8.2.1).2.2⟩
            case rest =>
              obtain ⟨rfl, HKc, HZc, HVc⟩ := hcut
              clear TN KP HK7 HZ7 HV7 q1 q2 q3 hwrap2 S1 S2 WI
              go_wp2_with fail
              go_loopw [16, 122] (fun _ i wr => ∃ j : Nat, j ≤ T ∧ i = .int .i64 j ∧ Hid (TblM w5.heap.size wr N1 M1 (fun i j => (tcn m l (t + 1) i j : Int))) ∧ Hid (TblZ (w5.heap.size + 1 + N1) wr T (fun s => (sch m l t j s : Int))) ∧ Hid (Below w5.heap.size w5 wr)) (fun _ i _ => T - (intOf i).toNat)
              case atStart => exact ⟨0, Nat.zero_le _, rfl, HKc.out, HZc.out.congr fun s _ => by rw [sch_zero], HVc.out⟩
              case round =>
                clear HKc HZc HVc
                obtain ⟨j, hj, rfl, HK, HZ, HV⟩ := hrel
                by_cases hj2 : j < T
                · have hji : (j : Int) < (T : Int) := by omega
                  have hdif : bits .andNot .i64 (b : Int) (ai : Int) = ((dif b ai : Nat) : Int) := i64_andNot_nat b ai (by omega) (by omega)
                  have hor : bits .or .i64 (b : Int) (ao : Int) = ((b ||| ao : Nat) : Int) := i64_or_nat b ao (by omega) (by omega)
                  have hd8 : dif b ai < 256 := dif_lt b8
                  have ho8 : b ||| ao < 256 := or_lt b8 hO8
                  have W1 := hid (fun w => RWithin_is (dif b ai) j w hd8 (by omega))
                  have W2' := hid (fun w => RWithin_is j (b ||| ao) w (by omega) ho8)
                  have z1 := HZ.out.cell j hj2
                  have z2 := HZ.out.frozen j
                  rw [sch_at] at z1
                  have SLE := SL.out j
                  have STP := SS.out j
                  rw [BTT.out] at STP
                  have HSTP := hid STP
                  have SST := hid (fun s => sch_step m l t j s)
                  clear STP
                  generalize dif b ai = d at *
                  generalize b ||| ao = o at *
                  obtain ⟨cx, HCX⟩ : ∃ cx, Hid (scn m l t j = cx) := ⟨_, rfl⟩
                  rw [HCX.out] at z1 SLE HSTP
                  have hw1 : (cx : Int) + 1 = ((cx + 1 : Nat) : Int) := by omega
                  have HSZ := hid HZ.out.size
                  rcases hA : subB d j with _ | _
                  · rw [hA] at W1 HSTP
                    have NZ : Hid (TblZ (w5.heap.size + 1 + N1) wr T (fun s => (sch m l t (j + 1) s : Int))) := HZ.out.congr fun s _ => by
                      rw [SST.out]
                      by_cases e : j = s
                      · subst e; rw [if_pos rfl, HSTP.out, sch_at, HCX.out]; rfl
                      · rw [if_neg e]
                    clear hA HSTP
                    go_wp2_with (go_at_call 8; refine (W1.out _).mono ?_; rintro e w' ⟨rfl, rfl⟩)
                    go_roundw
                    case rel => exact ⟨j + 1, by omega, by go_num, HK.out, NZ.out, HV.out⟩
                    case measure => simp [intOf]; omega
                  · rcases hB : subB j o with _ | _
                    · rw [hA] at W1 HSTP
                      rw [hB] at W2' HSTP
                      have NZ : Hid (TblZ (w5.heap.size + 1 + N1) wr T (fun s => (sch m l t (j + 1) s : Int))) := HZ.out.congr fun s _ => by
                        rw [SST.out]
                        by_cases e : j = s
                        · subst e; rw [if_pos rfl, HSTP.out, sch_at, HCX.out]; rfl
                        · rw [if_neg e]
                      clear hA hB HSTP
                      go_wp2_with (first | (go_at_call_of 8 (Value.int IntKind.i64 (d : Int)); (with_reducible refine (W1.out _).mono ?_); rintro e w' ⟨rfl, rfl⟩) | (go_at_call 8; (with_reducible refine (W2'.out _).mono ?_); rintro e w' ⟨rfl, rfl⟩))
                      go_roundw
                      case rel => exact ⟨j + 1, by omega, by go_num, HK.out, NZ.out, HV.out⟩
                      case measure => simp [intOf]; omega
                    · rw [hA] at W1 HSTP
                      rw [hB] at W2' HSTP
                      have NZ : Hid (TblZ (w5.heap.size + 1 + N1) (wr.setCell ⟨w5.heap.size + 1 + N1, j, none⟩ (.int .i64 ((cx : Int) + 1))) T (fun s => (sch m l t (j + 1) s : Int))) := HZ.out.set j _ hj2 fun s _ => by
                        rw [SST.out]
                        by_cases e : j = s
                        · subst e; rw [if_pos rfl, if_pos rfl, HSTP.out]; simp
                        · rw [if_neg e, if_neg e]
                      clear hA hB HSTP hw1
                      go_wp2_with (first | (go_at_call_of 8 (Value.int IntKind.i64 (d : Int)); (with_reducible refine (W1.out _).mono ?_); rintro e w' ⟨rfl, rfl⟩) | (go_at_call 8; (with_reducible refine (W2'.out _).mono ?_); rintro e w' ⟨rfl, rfl⟩))
                      go_roundw
                      case rel => exact ⟨j + 1, by omega, by go_num, HK.out.other _ _ (by show w5.heap.size + N1 < w5.heap.size + 1 + N1; omega), NZ.out, HV.out.setCell (p := ⟨w5.heap.size + 1 + N1, j, none⟩) (by show w5.heap.size ≤ w5.heap.size + 1 + N1; omega) _⟩
                      case measure => simp [intOf]; omega
                · obtain rfl : T = j := by omega
                  have NZ : Hid (TblZ (w5.heap.size + 1 + N1) wr T (fun s => (scn m l (t + 1) s : Int))) := HZ.out.congr fun s hs => by rw [sch_full hs]
                  go_wp2_with fail
                  go_roundw
                  case rel => exact ⟨t + 1, by omega, by go_num, HK.out, NZ.out, HV.out⟩
                  case measure => simp [intOf]; omega
          · obtain rfl : t = l.length := by omega
            have TT : Hid (TblM w5.heap.size wr N1 M1 fun i j => (ttN m l i j : Int)) := HK.out.congr fun i _ j _ => by rw [tcn_full]
            have Z1 : Hid (TblZ (w5.heap.size + 1 + N1) wr T fun _ => 1) := HZ.out.congr fun s hs => by rw [HS1.out s (by rw [HTT.out]; exact hs)]; rfl
            have RS := hid (Rows_same _ _ N1 M1 _ wr (by omega) (by omega) (TT.out.rows (cap := N1)) ((HT5.out.below HV.out).rows (cap := N1)))
            have HF := hid (HB5.out.trans (HV.out.mono HB5.out.size))
            have CF : Hid (∀ w8, Below wr.heap.size wr w8 → Calls Try.prog 11 #[.slice (some ⟨w5.heap.size + 1 + N1, 0, none⟩) T T, .func (.func 12) #[] #[]] w8 fun e w' => e = .returned (.bool false) ∧ Below w8.heap.size w8 w') := fun w8 hb8 => by
              have hi := ((Z1.out.below hb8).rkZ (cap := T)).ints (by omega)
              rw [ones_list] at hi
              have := ContainsFunc_any 12 #[] _ (List.replicate T 1) (fun x => ((x : Int) != 1)) w8 enters_crp hi (fun x hx w1 hb1 hs1 => (crp_one x w1).mono fun e w' h => ⟨h.1, by rw [h.2]; exact Below.refl _ _⟩)
              rw [show (List.replicate T 1).any (fun x : Nat => ((x : Int) != 1)) = false by
                rw [List.any_eq_false]; intro x hx; rw [List.eq_of_mem_replicate hx]; simp] at this
              exact this
            clear HK HZ HV
            go_wp2_with fail
            refine RS.out.mono ?_
            rintro e w7 ⟨rfl, hb7⟩
            have HB7 := hid hb7
            clear hb7
            go_wp2_with fail
            refine (CF.out _ HB7.out).mono ?_
            rintro e w8 ⟨rfl, hb8⟩
            have HB9 := hid (HF.out.trans ((HB7.out.trans (hb8.mono HB7.out.size)).mono HF.out.size))
            clear hb8
            go_wp2_with fail
            go_ret
            exact ⟨rfl, HB9.out⟩
  · have C1 := hid (Polynomial_bad n _ zs w4 HI4.out hq)
    generalize chkR n zs = q at *
    have hq' : (q == 0) = false := by rw [beq_eq_false_iff_ne]; exact hq
    go_wp2_with fail
    refine C1.out.mono ?_
    rintro e w5 ⟨rfl, hb5⟩
    have HB5 := hid (HB4.out.trans (hb5.mono HB4.out.size))
    clear hb5
    go_wp2_with fail
    go_ret
    exact ⟨rfl, HB5.out⟩
end Go.Proofs.Ytioaonmlnikbdaa
