/- join.coversBegin. -/
import Derived.Test.YthbcnolpjcppoabShrW
import Derived.Test.YthbcnolpjcppoabPlainAll
import Derived.Test.YthbcnolpjcppoabRanksWQ
import Derived.Test.YthbcnolpjcppoabSingQ
namespace Go.Proofs.Ythbcnolpjcppoab
open Go.RowKit

/-- A row being filled: what is below k, what stands at k, nought beyond. -/
def ftab (k : Nat) (a : Nat → Nat) (b : Nat) (i : Nat) : Nat := if i < k then a i else if i = k then b else 0
theorem ftab_lt {k i b : Nat} {a : Nat → Nat} (h : i < k) : ftab k a b i = a i := if_pos h
theorem ftab_at {k b : Nat} {a : Nat → Nat} : ftab k a b k = b := by unfold ftab; simp
theorem ftab_set {k b b' : Nat} {a : Nat → Nat} (i : Nat) : ftab k a b' i = if k = i then b' else ftab k a b i := by
  unfold ftab
  by_cases h : k = i
  · subst h
    simp
  · have h2 : ¬ i = k := fun e => h e.symm
    simp [h, h2]
theorem ftab_up {k : Nat} {a : Nat → Nat} (i : Nat) : ftab (k + 1) a 0 i = ftab k a (a k) i := by
  unfold ftab
  by_cases h : i < k
  · rw [if_pos h, if_pos (by omega)]
  · by_cases h2 : i = k
    · subst h2
      simp
    · have h3 : ¬ i < k + 1 := by omega
      simp [h, h2, h3]
theorem Tbl.other {g g' : Nat} {w : World} {T : Nat} {f : Nat → Nat} (h : Tbl g w T f) (j : Nat) (x : Value) (hne : g ≠ g') : Tbl g (w.setCell ⟨g', j, none⟩ x) T f :=
  ⟨fun i hi => by rw [World.cell?_setCell_other _ _ _ _ (by simp)]; exact h.cell i hi, fun i => (World.frozen?_setCell _ _ _ _).trans (h.frozen i), by simpa using h.size⟩
theorem cand_dif {r : Nat → Nat} {s t : Nat} (h0 : s ≠ 0) (hs : s < 256) (h : candB r s t = true) : dif s t < s := by
  have hc := (cand_iff h0).1 h
  have h1 := subB_le (dif_subl s t)
  rcases Nat.lt_or_ge (dif s t) s with g | g
  · exact g
  · have e : dif s t = s := by omega
    have := dif_bit s t (tz s)
    rw [e, tz_in s hs (by omega), hc.1] at this
    simp at this
set_option maxRecDepth 20000 in
set_option maxHeartbeats 4000000 in
theorem covers_any (v : Value) (m : Nat) (r : Nat → Nat) (w : World) (hm : m ≤ 8) (hr : RkOn m r) (hl : NoLoop m r) (h : RkAt w v (2 ^ m) r) :
    Calls Try.prog 87 #[v] w fun e w' => ∃ u, e = .returned u ∧ RkAt w' u (2 ^ m) (cvF r) ∧ Below w.heap.size w w' := by
  obtain ⟨T, HT, hT2, hT1⟩ : ∃ T : Nat, Hid (2 ^ m = T) ∧ T ≤ 256 ∧ 1 ≤ T := ⟨2 ^ m, Eq.refl (2 ^ m), (pow_wrap _ hm).2, Nat.one_le_two_pow⟩
  have HEND : Hid (∀ k, k < T → k ≠ 0 → cvS r k (k + 1) = (cvF r k, cvN r k)) := fun k hk h0 => cvS_end hm hr hl (by rw [HT.out]; exact hk) h0
  have HN8 : Hid (∀ k, k < T → cvN r k ≤ 8) := fun k hk => Nat.le_trans (cvN_spec hm hr hl (by rw [HT.out]; exact hk)).2.2 (pop_le k (by omega))
  have HS8 : Hid (∀ k j, k < T → (cvS r k j).2 ≤ 9) := fun k j hk => Nat.le_trans (cvS_inv r k j).1 (by have := pop_le k (by omega); omega)
  rw [HT.out] at h ⊢
  have IA := hid (fun t w' (ht : t < T) (hb' : Below w.heap.size w w') => isInd_q v T r t w' hT2 ht (h.below hb'))
  obtain ⟨b, off, cap, rfl, -, -⟩ := h
  have hmk := fun w => run_make_row' (P := Try.prog) 22 3 (.int .i64 0) 8 Try.underlying22 Try.infoInt rfl .i64 .i64 T (by omega) (by omega) w
  have hF0 : ∀ i, ftab 1 (cvF r) 0 i = 0 := fun i => by
    unfold ftab
    by_cases h : i < 1
    · obtain rfl : i = 0 := by omega
      rw [if_pos h, cvF_zero]
    · rw [if_neg h]
      simp
  have hC0 : ∀ i, ftab 1 (cvN r) 0 i = 0 := fun i => by
    unfold ftab
    by_cases h : i < 1
    · obtain rfl : i = 0 := by omega
      rw [if_pos h, cvN_zero]
    · rw [if_neg h]
      simp
  have HF0 := hid hF0
  have HC0 := hid hC0
  clear hF0 hC0 hr hl HT
  go_enter Try.func87, Try.ntmps87
  go_wp2_with fail
  go_region
  all_goals go_wp2_with fail
  · obtain ⟨W1, hW1⟩ : ∃ W1, (w.alloc (.cells (madeCells #[.int .i64 0] T) 3)).alloc (.cells (madeCells #[.int .i64 0] T) 3) = W1 := ⟨_, rfl⟩
    have t0 : Tbl w.heap.size W1 T (fun _ => 0) := by
      rw [← hW1]
      have := Tbl.new w T
      refine ⟨fun i hi => cellA _ (this.cell i hi), fun i => ?_, by simp; omega⟩
      rw [World.frozen?, Below.heap_alloc _ _ _ (by simp)]
      exact this.frozen i
    have t1 : Tbl (w.heap.size + 1) W1 T (fun _ => 0) := by
      have := Tbl.new (w.alloc (.cells (madeCells #[.int .i64 0] T) 3)) T
      rw [World.size_alloc, hW1] at this
      exact this
    have HB0 : Hid (Below w.heap.size w W1) := by
      show Below _ _ _
      rw [← hW1]
      exact ((Below.refl _ w).alloc (Nat.le_refl _) _).alloc (by simp) _
    obtain ⟨gF, gC, eF, eC, hne, hgF, hgC⟩ : ∃ gF gC, gF = w.heap.size ∧ gC = w.heap.size + 1 ∧ gF ≠ gC ∧ w.heap.size ≤ gF ∧ w.heap.size ≤ gC := ⟨_, _, rfl, rfl, by omega, by omega, by omega⟩
    rw [← eC] at t1 ⊢
    rw [← eF] at t0 ⊢
    rw [hW1]
    have HTF : Hid (Tbl gF W1 T (ftab 1 (cvF r) 0)) := t0.congr (fun i _ => HF0.out i)
    have HTC : Hid (Tbl gC W1 T (ftab 1 (cvN r) 0)) := t1.congr (fun i _ => HC0.out i)
    clear t0 t1 eF eC hW1 hmk
    go_loopw [5] (fun i wr => ∃ k : Nat, 1 ≤ k ∧ k ≤ T ∧ i = .int .i64 k ∧ Hid (Tbl gF wr T (ftab k (cvF r) 0)) ∧ Hid (Tbl gC wr T (ftab k (cvN r) 0)) ∧ Hid (Below w.heap.size w wr)) (fun i _ => T - (intOf i).toNat)
    case atStart => exact ⟨1, Nat.le_refl _, hT1, rfl, HTF.out.drew, HTC.out.drew, HB0.out.drew⟩
    case round =>
      obtain ⟨k, hk1, hk, rfl, KF, KC, KB⟩ := hrel
      by_cases hlt : k < T
      · have hkk : k < 256 := by omega
        have SZ := hid (size_any k wr hkk)
        have hp8 := pop_le k hkk
        have cK := KC.out.cell k hlt
        have fK := KC.out.frozen k
        go_wp2_with fail
        refine SZ.out.mono ?_
        rintro e w' ⟨rfl, rfl⟩
        have KC2 : Hid (Tbl gC (w'.setCell ⟨gC, k, none⟩ (.int .i64 ((pop k : Nat) + 1))) T (ftab k (cvN r) (cvS r k 0).2)) := KC.out.set k (pop k + 1) hlt (fun i _ => ftab_set i)
        have KF2 : Hid (Tbl gF (w'.setCell ⟨gC, k, none⟩ (.int .i64 ((pop k : Nat) + 1))) T (ftab k (cvF r) (cvS r k 0).1)) := KF.out.other k _ hne
        have KB2 := hid (KB.out.setCell (p := ⟨gC, k, none⟩) hgC (.int .i64 ((pop k : Nat) + 1)))
        clear SZ KF KC KB
        go_wp2_with fail
        clear cK fK
        go_loopw [28] (fun i wr => ∃ j : Nat, j ≤ k + 1 ∧ i = .int .i64 j ∧ Hid (Tbl gF wr T (ftab k (cvF r) (cvS r k j).1)) ∧ Hid (Tbl gC wr T (ftab k (cvN r) (cvS r k j).2)) ∧ Hid (Below w.heap.size w wr)) (fun i _ => k + 1 - (intOf i).toNat)
        case atStart => exact ⟨0, Nat.zero_le _, rfl, KF2, KC2, KB2⟩
        case round =>
          rename_i wr0 _
          clear KF2 KC2 KB2
          obtain ⟨j, hj, rfl, JF, JC, JB⟩ := hrel
          by_cases hlj : j < k + 1
          · have hj8 : j < 256 := by omega
            have LO := hid (low_any k wr hkk (by omega))
            have hbt : bt (tz k) < 256 := by
              unfold bt
              exact pow_lt256 (tz_lt k hkk (by omega))
            have W1' := hid (within_any (bt (tz k)) j wr hbt hj8)
            have W2' := hid (within_any j k wr hj8 hkk)
            have I3 := hid (IA.out j wr (by omega) JB.out)
            have CD : Hid (candB r k j = (subB (bt (tz k)) j && subB j k && r j == pop j)) := by
              show _ = _
              unfold candB lowS bt
              rw [if_neg (by omega)]
            have ST : Hid (cvS r k (j + 1) = if candB r k j = true ∧ cvN r (dif k j) + 1 < (cvS r k j).2 then (j, cvN r (dif k j) + 1) else cvS r k j) := rfl
            have DL := hid (fun h => cand_dif (r := r) (s := k) (t := j) (by omega) hkk h)
            have hdn : bits .andNot .i64 (k : Int) (j : Int) = ((dif k j : Nat) : Int) := i64_andNot_nat k j (by omega) (by omega)
            generalize subB (bt (tz k)) j = b1 at *
            generalize subB j k = b2 at *
            generalize (r j == pop j) = b3 at *
            generalize bt (tz k) = z at *
            rcases b1 with _ | _
            · have SAME : Hid (cvS r k (j + 1) = cvS r k j) := by show _ = _; rw [ST.out, CD.out]; simp
              clear ST CD DL
              go_wp2_with fail
              refine LO.out.mono ?_
              rintro e w' ⟨rfl, rfl⟩
              go_wp2_with fail
              refine W1'.out.mono ?_
              rintro e w' ⟨rfl, rfl⟩
              go_wp2_with fail
              go_quiet (fail)
              go_wp2_with fail
              go_roundw
              case rel => exact ⟨j + 1, by omega, by go_num, by rw [SAME.out]; exact JF.out.drewN _, by rw [SAME.out]; exact JC.out.drewN _, below_drewN JB.out _⟩
              case measure => simp [intOf]; omega
            · rcases b2 with _ | _
              · have SAME : Hid (cvS r k (j + 1) = cvS r k j) := by show _ = _; rw [ST.out, CD.out]; simp
                clear ST CD DL
                go_wp2_with fail
                refine LO.out.mono ?_
                rintro e w' ⟨rfl, rfl⟩
                go_wp2_with fail
                refine W1'.out.mono ?_
                rintro e w' ⟨rfl, rfl⟩
                go_wp2_with fail
                refine W2'.out.mono ?_
                rintro e w' ⟨rfl, rfl⟩
                go_wp2_with fail
                go_quiet (fail)
                go_wp2_with fail
                go_roundw
                case rel => exact ⟨j + 1, by omega, by go_num, by rw [SAME.out]; exact JF.out.drewN _, by rw [SAME.out]; exact JC.out.drewN _, below_drewN JB.out _⟩
                case measure => simp [intOf]; omega
              · rcases b3 with _ | _
                · have SAME : Hid (cvS r k (j + 1) = cvS r k j) := by show _ = _; rw [ST.out, CD.out]; simp
                  clear ST CD DL
                  go_wp2_with fail
                  refine LO.out.mono ?_
                  rintro e w' ⟨rfl, rfl⟩
                  go_wp2_with fail
                  refine W1'.out.mono ?_
                  rintro e w' ⟨rfl, rfl⟩
                  go_wp2_with fail
                  refine W2'.out.mono ?_
                  rintro e w' ⟨rfl, rfl⟩
                  go_wp2_with fail
                  refine I3.out.mono ?_
                  rintro e w' ⟨rfl, d, rfl⟩
                  go_wp2_with fail
                  go_quiet (fail)
                  go_wp2_with fail
                  go_roundw
                  case rel => exact ⟨j + 1, by omega, by go_num, by rw [SAME.out]; exact JF.out.drewN _, by rw [SAME.out]; exact JC.out.drewN _, below_drewN JB.out _⟩
                  case measure => simp [intOf]; omega
                · have hd := DL.out (by rw [CD.out]; rfl)
                  have cD : ∀ n, (wr.drewN n).cell? ⟨gC, dif k j, none⟩ = some (.int .i64 (cvN r (dif k j) : Nat)) := fun n => by
                    have := (JC.out.drewN n).cell (dif k j) (by omega)
                    rwa [ftab_lt hd] at this
                  have cK : ∀ n, (wr.drewN n).cell? ⟨gC, k, none⟩ = some (.int .i64 ((cvS r k j).2 : Nat)) := fun n => by
                    have := (JC.out.drewN n).cell k hlt
                    rwa [ftab_at] at this
                  have cF : ∀ n, (wr.drewN n).cell? ⟨gF, k, none⟩ = some (.int .i64 ((cvS r k j).1 : Nat)) := fun n => by
                    have := (JF.out.drewN n).cell k hlt
                    rwa [ftab_at] at this
                  have fK : ∀ n, (wr.drewN n).frozen? ⟨gC, k, none⟩ = false := fun n => (JC.out.drewN n).frozen k
                  have fF : ∀ n, (wr.drewN n).frozen? ⟨gF, k, none⟩ = false := fun n => (JF.out.drewN n).frozen k
                  have hn8 := HN8.out (dif k j) (by omega)
                  have hs9 := HS8.out k j hlt
                  rw [CD.out] at ST
                  clear CD DL
                  by_cases hless : cvN r (dif k j) + 1 < (cvS r k j).2
                  · have NEW : Hid (cvS r k (j + 1) = (j, cvN r (dif k j) + 1)) := by show _ = _; rw [ST.out, if_pos ⟨rfl, hless⟩]
                    have JF2 : Hid (∀ n (x : Value), Tbl gF (((wr.drewN n).setCell ⟨gF, k, none⟩ (.int .i64 (j : Nat))).setCell ⟨gC, k, none⟩ x) T (ftab k (cvF r) (cvS r k (j + 1)).1)) := fun n x => by
                      rw [NEW.out]
                      exact ((JF.out.drewN n).set k j hlt (fun i _ => ftab_set i)).other k x hne
                    have JC2 : Hid (∀ n (x : Value), Tbl gC (((wr.drewN n).setCell ⟨gF, k, none⟩ x).setCell ⟨gC, k, none⟩ (.int .i64 ((cvN r (dif k j) : Nat) + 1))) T (ftab k (cvN r) (cvS r k (j + 1)).2)) := fun n x => by
                      rw [NEW.out]
                      exact ((JC.out.drewN n).other k x (Ne.symm hne)).set k (cvN r (dif k j) + 1) hlt (fun i _ => ftab_set i)
                    clear ST NEW
                    generalize cvN r (dif k j) = c at *
                    generalize (cvS r k j).2 = c2 at *
                    generalize (cvS r k j).1 = c1 at *
                    generalize dif k j = dd at *
                    have hless' : (c : Int) + 1 < (c2 : Int) := by omega
                    have hdd : (dd : Int) < (T : Int) := by omega
                    go_wp2_with fail
                    refine LO.out.mono ?_
                    rintro e w' ⟨rfl, rfl⟩
                    go_wp2_with fail
                    refine W1'.out.mono ?_
                    rintro e w' ⟨rfl, rfl⟩
                    go_wp2_with fail
                    refine W2'.out.mono ?_
                    rintro e w' ⟨rfl, rfl⟩
                    go_wp2_with fail
                    refine I3.out.mono ?_
                    rintro e w' ⟨rfl, d, rfl⟩
                    go_wp2_with fail
                    go_quiet (fail)
                    go_wp2_with fail
                    refine ⟨⟨j + 1, by omega, by go_num, JF2.out _ _, JC2.out _ _, ?_⟩, by simp [intOf]; omega⟩
                    exact ((below_drewN JB.out _).setCell (p := ⟨gF, k, none⟩) hgF _).setCell (p := ⟨gC, k, none⟩) hgC _
                  · have SAME : Hid (cvS r k (j + 1) = cvS r k j) := by show _ = _; rw [ST.out, if_neg (fun h => hless h.2)]
                    clear ST
                    generalize cvN r (dif k j) = c at *
                    generalize hc2 : (cvS r k j).2 = c2 at cK hs9 hless
                    generalize dif k j = dd at *
                    have hless' : ¬ (c : Int) + 1 < (c2 : Int) := by omega
                    have hdd : (dd : Int) < (T : Int) := by omega
                    clear hc2 hless
                    go_wp2_with fail
                    refine LO.out.mono ?_
                    rintro e w' ⟨rfl, rfl⟩
                    go_wp2_with fail
                    refine W1'.out.mono ?_
                    rintro e w' ⟨rfl, rfl⟩
                    go_wp2_with fail
                    refine W2'.out.mono ?_
                    rintro e w' ⟨rfl, rfl⟩
                    go_wp2_with fail
                    refine I3.out.mono ?_
                    rintro e w' ⟨rfl, d, rfl⟩
                    go_wp2_with fail
                    go_quiet (fail)
                    go_wp2_with fail
                    go_roundw
                    case rel => exact ⟨j + 1, by omega, by go_num, by rw [SAME.out]; exact JF.out.drewN _, by rw [SAME.out]; exact JC.out.drewN _, below_drewN JB.out _⟩
                    case measure => simp [intOf]; omega
          · obtain rfl : j = k + 1 := by omega
            have he := HEND.out k hlt (by omega)
            rw [he] at JF JC
            have NF : Hid (Tbl gF wr T (ftab (k + 1) (cvF r) 0)) := JF.out.congr (fun i _ => ftab_up i)
            have NC : Hid (Tbl gC wr T (ftab (k + 1) (cvN r) 0)) := JC.out.congr (fun i _ => ftab_up i)
            clear he JF JC
            go_wp2_with fail
            go_roundw
            case rel => exact ⟨k + 1, by omega, by omega, by go_num, NF, NC, JB⟩
            case measure => simp [intOf]; omega
      · obtain rfl : k = T := by omega
        have NF := hid (KF.out.congr (f' := cvF r) (fun i hi => (ftab_lt hi).symm))
        go_wp2_with fail
        go_ret
        exact ⟨_, rfl, NF.out.rkAt, KB.out⟩
  · obtain ⟨W1, hW1⟩ : ∃ W1, (w.alloc (.cells (madeCells #[.int .i64 0] T) 3)).alloc (.cells (madeCells #[.int .i64 0] T) 3) = W1 := ⟨_, rfl⟩
    have t0 : Tbl w.heap.size W1 T (fun _ => 0) := by
      rw [← hW1]
      have := Tbl.new w T
      refine ⟨fun i hi => cellA _ (this.cell i hi), fun i => ?_, by simp; omega⟩
      rw [World.frozen?, Below.heap_alloc _ _ _ (by simp)]
      exact this.frozen i
    have t1 : Tbl (w.heap.size + 1) W1 T (fun _ => 0) := by
      have := Tbl.new (w.alloc (.cells (madeCells #[.int .i64 0] T) 3)) T
      rw [World.size_alloc, hW1] at this
      exact this
    have HB0 : Hid (Below w.heap.size w W1) := by
      show Below _ _ _
      rw [← hW1]
      exact ((Below.refl _ w).alloc (Nat.le_refl _) _).alloc (by simp) _
    obtain ⟨gF, gC, eF, eC, hne, hgF, hgC⟩ : ∃ gF gC, gF = w.heap.size + 1 ∧ gC = w.heap.size ∧ gF ≠ gC ∧ w.heap.size ≤ gF ∧ w.heap.size ≤ gC := ⟨_, _, rfl, rfl, by omega, by omega, by omega⟩
    rw [← eF] at t1 ⊢
    rw [← eC] at t0 ⊢
    rw [hW1]
    have HTF : Hid (Tbl gF W1 T (ftab 1 (cvF r) 0)) := t1.congr (fun i _ => HF0.out i)
    have HTC : Hid (Tbl gC W1 T (ftab 1 (cvN r) 0)) := t0.congr (fun i _ => HC0.out i)
    clear t0 t1 eF eC hW1 hmk
    go_loopw [5] (fun i wr => ∃ k : Nat, 1 ≤ k ∧ k ≤ T ∧ i = .int .i64 k ∧ Hid (Tbl gF wr T (ftab k (cvF r) 0)) ∧ Hid (Tbl gC wr T (ftab k (cvN r) 0)) ∧ Hid (Below w.heap.size w wr)) (fun i _ => T - (intOf i).toNat)
    case atStart => exact ⟨1, Nat.le_refl _, hT1, rfl, HTF.out.drew, HTC.out.drew, HB0.out.drew⟩
    case round =>
      obtain ⟨k, hk1, hk, rfl, KF, KC, KB⟩ := hrel
      by_cases hlt : k < T
      · have hkk : k < 256 := by omega
        have SZ := hid (size_any k wr hkk)
        have hp8 := pop_le k hkk
        have cK := KC.out.cell k hlt
        have fK := KC.out.frozen k
        go_wp2_with fail
        refine SZ.out.mono ?_
        rintro e w' ⟨rfl, rfl⟩
        have KC2 : Hid (Tbl gC (w'.setCell ⟨gC, k, none⟩ (.int .i64 ((pop k : Nat) + 1))) T (ftab k (cvN r) (cvS r k 0).2)) := KC.out.set k (pop k + 1) hlt (fun i _ => ftab_set i)
        have KF2 : Hid (Tbl gF (w'.setCell ⟨gC, k, none⟩ (.int .i64 ((pop k : Nat) + 1))) T (ftab k (cvF r) (cvS r k 0).1)) := KF.out.other k _ hne
        have KB2 := hid (KB.out.setCell (p := ⟨gC, k, none⟩) hgC (.int .i64 ((pop k : Nat) + 1)))
        clear SZ KF KC KB
        go_wp2_with fail
        clear cK fK
        go_loopw [28] (fun i wr => ∃ j : Nat, j ≤ k + 1 ∧ i = .int .i64 j ∧ Hid (Tbl gF wr T (ftab k (cvF r) (cvS r k j).1)) ∧ Hid (Tbl gC wr T (ftab k (cvN r) (cvS r k j).2)) ∧ Hid (Below w.heap.size w wr)) (fun i _ => k + 1 - (intOf i).toNat)
        case atStart => exact ⟨0, Nat.zero_le _, rfl, KF2, KC2, KB2⟩
        case round =>
          rename_i wr0 _
          clear KF2 KC2 KB2
          obtain ⟨j, hj, rfl, JF, JC, JB⟩ := hrel
          by_cases hlj : j < k + 1
          · have hj8 : j < 256 := by omega
            have LO := hid (low_any k wr hkk (by omega))
            have hbt : bt (tz k) < 256 := by
              unfold bt
              exact pow_lt256 (tz_lt k hkk (by omega))
            have W1' := hid (within_any (bt (tz k)) j wr hbt hj8)
            have W2' := hid (within_any j k wr hj8 hkk)
            have I3 := hid (IA.out j wr (by omega) JB.out)
            have CD : Hid (candB r k j = (subB (bt (tz k)) j && subB j k && r j == pop j)) := by
              show _ = _
              unfold candB lowS bt
              rw [if_neg (by omega)]
            have ST : Hid (cvS r k (j + 1) = if candB r k j = true ∧ cvN r (dif k j) + 1 < (cvS r k j).2 then (j, cvN r (dif k j) + 1) else cvS r k j) := rfl
            have DL := hid (fun h => cand_dif (r := r) (s := k) (t := j) (by omega) hkk h)
            have hdn : bits .andNot .i64 (k : Int) (j : Int) = ((dif k j : Nat) : Int) := i64_andNot_nat k j (by omega) (by omega)
            generalize subB (bt (tz k)) j = b1 at *
            generalize subB j k = b2 at *
            generalize (r j == pop j) = b3 at *
            generalize bt (tz k) = z at *
            rcases b1 with _ | _
            · have SAME : Hid (cvS r k (j + 1) = cvS r k j) := by show _ = _; rw [ST.out, CD.out]; simp
              clear ST CD DL
              go_wp2_with fail
              refine LO.out.mono ?_
              rintro e w' ⟨rfl, rfl⟩
              go_wp2_with fail
              refine W1'.out.mono ?_
              rintro e w' ⟨rfl, rfl⟩
              go_wp2_with fail
              go_quiet (fail)
              go_wp2_with fail
              go_roundw
              case rel => exact ⟨j + 1, by omega, by go_num, by rw [SAME.out]; exact JF.out.drewN _, by rw [SAME.out]; exact JC.out.drewN _, below_drewN JB.out _⟩
              case measure => simp [intOf]; omega
            · rcases b2 with _ | _
              · have SAME : Hid (cvS r k (j + 1) = cvS r k j) := by show _ = _; rw [ST.out, CD.out]; simp
                clear ST CD DL
                go_wp2_with fail
                refine LO.out.mono ?_
                rintro e w' ⟨rfl, rfl⟩
                go_wp2_with fail
                refine W1'.out.mono ?_
                rintro e w' ⟨rfl, rfl⟩
                go_wp2_with fail
                refine W2'.out.mono ?_
                rintro e w' ⟨rfl, rfl⟩
                go_wp2_with fail
                go_quiet (fail)
                go_wp2_with fail
                go_roundw
                case rel => exact ⟨j + 1, by omega, by go_num, by rw [SAME.out]; exact JF.out.drewN _, by rw [SAME.out]; exact JC.out.drewN _, below_drewN JB.out _⟩
                case measure => simp [intOf]; omega
              · rcases b3 with _ | _
                · have SAME : Hid (cvS r k (j + 1) = cvS r k j) := by show _ = _; rw [ST.out, CD.out]; simp
                  clear ST CD DL
                  go_wp2_with fail
                  refine LO.out.mono ?_
                  rintro e w' ⟨rfl, rfl⟩
                  go_wp2_with fail
                  refine W1'.out.mono ?_
                  rintro e w' ⟨rfl, rfl⟩
                  go_wp2_with fail
                  refine W2'.out.mono ?_
                  rintro e w' ⟨rfl, rfl⟩
                  go_wp2_with fail
                  refine I3.out.mono ?_
                  rintro e w' ⟨rfl, d, rfl⟩
                  go_wp2_with fail
                  go_quiet (fail)
                  go_wp2_with fail
                  go_roundw
                  case rel => exact ⟨j + 1, by omega, by go_num, by rw [SAME.out]; exact JF.out.drewN _, by rw [SAME.out]; exact JC.out.drewN _, below_drewN JB.out _⟩
                  case measure => simp [intOf]; omega
                · have hd := DL.out (by rw [CD.out]; rfl)
                  have cD : ∀ n, (wr.drewN n).cell? ⟨gC, dif k j, none⟩ = some (.int .i64 (cvN r (dif k j) : Nat)) := fun n => by
                    have := (JC.out.drewN n).cell (dif k j) (by omega)
                    rwa [ftab_lt hd] at this
                  have cK : ∀ n, (wr.drewN n).cell? ⟨gC, k, none⟩ = some (.int .i64 ((cvS r k j).2 : Nat)) := fun n => by
                    have := (JC.out.drewN n).cell k hlt
                    rwa [ftab_at] at this
                  have cF : ∀ n, (wr.drewN n).cell? ⟨gF, k, none⟩ = some (.int .i64 ((cvS r k j).1 : Nat)) := fun n => by
                    have := (JF.out.drewN n).cell k hlt
                    rwa [ftab_at] at this
                  have fK : ∀ n, (wr.drewN n).frozen? ⟨gC, k, none⟩ = false := fun n => (JC.out.drewN n).frozen k
                  have fF : ∀ n, (wr.drewN n).frozen? ⟨gF, k, none⟩ = false := fun n => (JF.out.drewN n).frozen k
                  have hn8 := HN8.out (dif k j) (by omega)
                  have hs9 := HS8.out k j hlt
                  rw [CD.out] at ST
                  clear CD DL
                  by_cases hless : cvN r (dif k j) + 1 < (cvS r k j).2
                  · have NEW : Hid (cvS r k (j + 1) = (j, cvN r (dif k j) + 1)) := by show _ = _; rw [ST.out, if_pos ⟨rfl, hless⟩]
                    have JF2 : Hid (∀ n (x : Value), Tbl gF (((wr.drewN n).setCell ⟨gF, k, none⟩ (.int .i64 (j : Nat))).setCell ⟨gC, k, none⟩ x) T (ftab k (cvF r) (cvS r k (j + 1)).1)) := fun n x => by
                      rw [NEW.out]
                      exact ((JF.out.drewN n).set k j hlt (fun i _ => ftab_set i)).other k x hne
                    have JC2 : Hid (∀ n (x : Value), Tbl gC (((wr.drewN n).setCell ⟨gF, k, none⟩ x).setCell ⟨gC, k, none⟩ (.int .i64 ((cvN r (dif k j) : Nat) + 1))) T (ftab k (cvN r) (cvS r k (j + 1)).2)) := fun n x => by
                      rw [NEW.out]
                      exact ((JC.out.drewN n).other k x (Ne.symm hne)).set k (cvN r (dif k j) + 1) hlt (fun i _ => ftab_set i)
                    clear ST NEW
                    generalize cvN r (dif k j) = c at *
                    generalize (cvS r k j).2 = c2 at *
                    generalize (cvS r k j).1 = c1 at *
                    generalize dif k j = dd at *
                    have hless' : (c : Int) + 1 < (c2 : Int) := by omega
                    have hdd : (dd : Int) < (T : Int) := by omega
                    go_wp2_with fail
                    refine LO.out.mono ?_
                    rintro e w' ⟨rfl, rfl⟩
                    go_wp2_with fail
                    refine W1'.out.mono ?_
                    rintro e w' ⟨rfl, rfl⟩
                    go_wp2_with fail
                    refine W2'.out.mono ?_
                    rintro e w' ⟨rfl, rfl⟩
                    go_wp2_with fail
                    refine I3.out.mono ?_
                    rintro e w' ⟨rfl, d, rfl⟩
                    go_wp2_with fail
                    go_quiet (fail)
                    go_wp2_with fail
                    refine ⟨⟨j + 1, by omega, by go_num, JF2.out _ _, JC2.out _ _, ?_⟩, by simp [intOf]; omega⟩
                    exact ((below_drewN JB.out _).setCell (p := ⟨gF, k, none⟩) hgF _).setCell (p := ⟨gC, k, none⟩) hgC _
                  · have SAME : Hid (cvS r k (j + 1) = cvS r k j) := by show _ = _; rw [ST.out, if_neg (fun h => hless h.2)]
                    clear ST
                    generalize cvN r (dif k j) = c at *
                    generalize hc2 : (cvS r k j).2 = c2 at cK hs9 hless
                    generalize dif k j = dd at *
                    have hless' : ¬ (c : Int) + 1 < (c2 : Int) := by omega
                    have hdd : (dd : Int) < (T : Int) := by omega
                    clear hc2 hless
                    go_wp2_with fail
                    refine LO.out.mono ?_
                    rintro e w' ⟨rfl, rfl⟩
                    go_wp2_with fail
                    refine W1'.out.mono ?_
                    rintro e w' ⟨rfl, rfl⟩
                    go_wp2_with fail
                    refine W2'.out.mono ?_
                    rintro e w' ⟨rfl, rfl⟩
                    go_wp2_with fail
                    refine I3.out.mono ?_
                    rintro e w' ⟨rfl, d, rfl⟩
                    go_wp2_with fail
                    go_quiet (fail)
                    go_wp2_with fail
                    go_roundw
                    case rel => exact ⟨j + 1, by omega, by go_num, by rw [SAME.out]; exact JF.out.drewN _, by rw [SAME.out]; exact JC.out.drewN _, below_drewN JB.out _⟩
                    case measure => simp [intOf]; omega
          · obtain rfl : j = k + 1 := by omega
            have he := HEND.out k hlt (by omega)
            rw [he] at JF JC
            have NF : Hid (Tbl gF wr T (ftab (k + 1) (cvF r) 0)) := JF.out.congr (fun i _ => ftab_up i)
            have NC : Hid (Tbl gC wr T (ftab (k + 1) (cvN r) 0)) := JC.out.congr (fun i _ => ftab_up i)
            clear he JF JC
            go_wp2_with fail
            go_roundw
            case rel => exact ⟨k + 1, by omega, by omega, by go_num, NF, NC, JB⟩
            case measure => simp [intOf]; omega
      · obtain rfl : k = T := by omega
        have NF := hid (KF.out.congr (f' := cvF r) (fun i hi => (ftab_lt hi).symm))
        go_wp2_with fail
        go_ret
        exact ⟨_, rfl, NF.out.rkAt, KB.out⟩
end Go.Proofs.Ythbcnolpjcppoab
