/- join.packsBegin. -/
import Derived.Test.YthbcnolpjcppoabCoBQ
import Derived.Test.YthbcnolpjcppoabPlainAll
import Derived.Test.YthbcnolpjcppoabEqQ
namespace Go.Proofs.Ythbcnolpjcppoab
open Go.RowKit

theorem pk_dif {n R : Nat} {l : List Nat} (h : Pk n l R) {s b : Nat} (hb : b ∈ l) (hbs : subB b s = true) : dif s b < s := by
  have h1 := subB_le (dif_subl s b)
  rcases Nat.lt_or_ge (dif s b) s with g | g
  · exact g
  · have e : dif s b = s := by omega
    have p := pop_split hbs
    have h2 := h.one b hb
    have h3 := h.pos
    rw [e] at p
    omega
set_option maxRecDepth 20000 in
set_option maxHeartbeats 4000000 in
theorem packs_any (v : Value) (m R : Nat) (l : List Nat) (w : World) (hP : Pk m l R) (h : Ints w v (N l)) :
    Calls Try.prog 89 #[.agg #[.int .i64 m, v]] w fun e w' => ∃ u, e = .returned u ∧ RkAt w' u (2 ^ m) (pkF l) ∧ Below w.heap.size w w' := by
  have hm := hP.n8
  obtain ⟨T, HT, hT2, hT1, hw1⟩ : ∃ T : Nat, Hid (2 ^ m = T) ∧ T ≤ 256 ∧ 1 ≤ T ∧ wrap64 (2 ^ m) = (T : Int) := ⟨2 ^ m, Eq.refl (2 ^ m), (pow_wrap _ hm).2, Nat.one_le_two_pow, (pow_wrap _ hm).1⟩
  have hw2 : wrap64 (2 ^ min m 64) = (T : Int) := by rw [Nat.min_eq_left (by omega)]; exact hw1
  have hnn : ¬ (m : Int) < 0 := by omega
  have HEND : Hid (∀ k, k < T → pkS l k l.length = (pkF l k, pkN l k)) := fun k hk => pkS_end hP (by rw [HT.out]; exact hk)
  have HN8 : Hid (∀ k, k < T → pkN l k ≤ 8) := fun k hk => pkN_le hP (by rw [HT.out]; exact hk)
  have HS9 : Hid (∀ k j, k < T → (pkS l k j).2 ≤ 9) := fun k j hk => by
    rcases (pkS_inv l k j).2 with e | ⟨i, _, _, c, d, _⟩
    · rw [e]; omega
    · rw [d]
      have := pkN_le hP (s := dif k (l.getD i 0)) (by rw [HT.out]; exact Nat.lt_of_le_of_lt (subB_le (dif_subl _ _)) hk)
      omega
  have HDL : Hid (∀ k j, k < T → j < l.length → subB (l.getD j 0) k = true → dif k (l.getD j 0) < k) := fun k j hk hj hs => pk_dif hP (getD_inL hj) hs
  have hl8 := hP.fam.lt256 hm
  have hlen : l.length ≤ 256 := fam_len hm hP.fam
  rw [HT.out]
  obtain ⟨a, cap, rfl, hlc, hc⟩ := h.nats
  clear h
  have hmk := fun w => run_make_row' (P := Try.prog) 22 3 (.int .i64 0) 8 Try.underlying22 Try.infoInt rfl .i64 .i64 T (by omega) (by omega) w
  have HF0 : Hid (∀ i, ftab 0 (pkF l) 0 i = 0) := fun i => by unfold ftab; simp
  have HC0 : Hid (∀ i, ftab 0 (pkN l) 0 i = 0) := fun i => by unfold ftab; simp
  have HP := hid hP
  clear HT hP
  go_enter Try.func89, Try.ntmps89
  go_wp2_with fail
  go_region
  all_goals go_wp2_with fail
  · obtain ⟨W1, hW1⟩ : ∃ W1, ((w.alloc (.cells #[.int .i64 m, .slice a l.length cap] 24)).alloc (.cells (madeCells #[.int .i64 0] T) 3)).alloc (.cells (madeCells #[.int .i64 0] T) 3) = W1 := ⟨_, rfl⟩
    have t0 : Tbl (w.heap.size + 1) W1 T (fun _ => 0) := by
      rw [← hW1]
      have := Tbl.new (w.alloc (.cells #[.int .i64 m, .slice a l.length cap] 24)) T
      rw [World.size_alloc] at this
      refine ⟨fun i hi => cellA _ (this.cell i hi), fun i => ?_, by simp⟩
      rw [World.frozen?, Below.heap_alloc _ _ _ (by simp)]
      exact this.frozen i
    have t1 : Tbl (w.heap.size + 1 + 1) W1 T (fun _ => 0) := by
      have := Tbl.new ((w.alloc (.cells #[.int .i64 m, .slice a l.length cap] 24)).alloc (.cells (madeCells #[.int .i64 0] T) 3)) T
      rw [World.size_alloc, World.size_alloc, hW1] at this
      exact this
    have hB0 : Below w.heap.size w W1 := by
      rw [← hW1]
      exact (((Below.refl _ w).alloc (Nat.le_refl _) _).alloc (by simp) _).alloc (by simp; omega) _
    have hx1 : W1.cell? ⟨w.heap.size, 1, none⟩ = some (.slice a l.length cap) := by
      rw [← hW1]
      exact cellA _ (cellA _ (by rw [World.cell?_alloc_at _ _ _ _ rfl]; rfl))
    have hsz1 : w.heap.size + 1 + 1 + 1 = W1.heap.size := by rw [← hW1]; simp
    obtain ⟨gF, gC, eF, eC, hne, hgF, hgC⟩ : ∃ gF gC, gF = w.heap.size + 1 ∧ gC = w.heap.size + 1 + 1 ∧ gF ≠ gC ∧ w.heap.size + 1 ≤ gF ∧ w.heap.size + 1 ≤ gC := ⟨_, _, rfl, rfl, by omega, by omega, by omega⟩
    rw [← eC] at t1 ⊢
    rw [← eF] at t0 ⊢
    rw [hW1]
    first | rw [hw2] | rw [hw1]
    have HB0 := hid hB0
    have HTF : Hid (Tbl gF W1 T (ftab 0 (pkF l) 0)) := t0.congr (fun i _ => HF0.out i)
    have HTC : Hid (Tbl gC W1 T (ftab 0 (pkN l) 0)) := t1.congr (fun i _ => HC0.out i)
    have HX1 := hid hx1
    have HSZ1 := hid hsz1
    clear t0 t1 eF eC hW1 hmk hB0 hx1 hsz1
    go_loopw [18] (fun i wr => ∃ k : Nat, k ≤ T ∧ i = .int .i64 k ∧ Hid (Tbl gF wr T (ftab k (pkF l) 0)) ∧ Hid (Tbl gC wr T (ftab k (pkN l) 0)) ∧ Hid (Below (w.heap.size + 1) W1 wr)) (fun i _ => T - (intOf i).toNat)
    case atStart => exact ⟨0, Nat.zero_le _, rfl, HTF.out.drew, HTC.out.drew, (Below.refl _ _).drew⟩
    case round =>
      obtain ⟨k, hk, rfl, KF, KC, KB⟩ := hrel
      by_cases hlt : k < T
      · have hkk : k < 256 := by omega
        have c1 := (KB.out.cell (p := ⟨w.heap.size, 1, none⟩) (by show w.heap.size < _; omega)).trans HX1.out
        go_wp2_with fail
        clear c1
        go_loopw [24] (fun i wr => ∃ j : Nat, j ≤ l.length ∧ i = .int .i64 j ∧ Hid (Tbl gF wr T (ftab k (pkF l) (pkS l k j).1)) ∧ Hid (Tbl gC wr T (ftab k (pkN l) (pkS l k j).2)) ∧ Hid (Below (w.heap.size + 1) W1 wr)) (fun i _ => l.length - (intOf i).toNat)
        case atStart => exact ⟨0, Nat.zero_le _, rfl, KF, KC, KB⟩
        case round =>
          rename_i wr0 _
          clear KF KC KB
          obtain ⟨j, hj, rfl, JF, JC, JB⟩ := hrel
          by_cases hlj : j < l.length
          · obtain ⟨b, off, rfl, hb, hcell⟩ := hc (by omega)
            have hck : wr.cell? ⟨b, off + j, none⟩ = some (.int .i64 (l.getD j 0 : Nat)) := (JB.out.cell (p := ⟨b, off + j, none⟩) (by show b < _; omega)).trans ((HB0.out.cell (p := ⟨b, off + j, none⟩) hb).trans (hcell j hlj))
            have hx8 : l.getD j 0 < 256 := getD_lt hl8 j
            have ST : Hid (pkS l k (j + 1) = if subB (l.getD j 0) k = true ∧ (pkS l k j).2 < pkN l (dif k (l.getD j 0)) + 1 then (l.getD j 0, pkN l (dif k (l.getD j 0)) + 1) else pkS l k j) := rfl
            have DL := hid (HDL.out k j hlt hlj)
            have hlj' : (j : Int) < (l.length : Int) := by omega
            clear hcell
            generalize l.getD j 0 = x at *
            have W1' := hid (fun w' => within_any x k w' hx8 hkk)
            have hdn : bits .andNot .i64 (k : Int) (x : Int) = ((dif k x : Nat) : Int) := i64_andNot_nat k x (by omega) (by omega)
            generalize subB x k = b1 at *
            rcases b1 with _ | _
            · have SAME : Hid (pkS l k (j + 1) = pkS l k j) := by show _ = _; rw [ST.out]; simp
              clear ST DL
              go_wp2_with fail
              go_quiet ((go_at_call 104; refine (W1'.out _).mono ?_; rintro e w' ⟨rfl, rfl⟩; exact ⟨rfl, _, rfl⟩))
              go_wp2_with fail
              go_roundw
              case rel => exact ⟨j + 1, by omega, by go_num, by rw [SAME.out]; exact JF.out.drewN _, by rw [SAME.out]; exact JC.out.drewN _, below_drewN JB.out _⟩
              case measure => simp [intOf]; omega
            · have hd := DL.out rfl
              have cD : ∀ n, (wr.drewN n).cell? ⟨gC, dif k x, none⟩ = some (.int .i64 (pkN l (dif k x) : Nat)) := fun n => by
                have := (JC.out.drewN n).cell (dif k x) (by omega)
                rwa [ftab_lt hd] at this
              have cK : ∀ n, (wr.drewN n).cell? ⟨gC, k, none⟩ = some (.int .i64 ((pkS l k j).2 : Nat)) := fun n => by
                have := (JC.out.drewN n).cell k hlt
                rwa [ftab_at] at this
              have cF : ∀ n, (wr.drewN n).cell? ⟨gF, k, none⟩ = some (.int .i64 ((pkS l k j).1 : Nat)) := fun n => by
                have := (JF.out.drewN n).cell k hlt
                rwa [ftab_at] at this
              have fK : ∀ n, (wr.drewN n).frozen? ⟨gC, k, none⟩ = false := fun n => (JC.out.drewN n).frozen k
              have fF : ∀ n, (wr.drewN n).frozen? ⟨gF, k, none⟩ = false := fun n => (JF.out.drewN n).frozen k
              have cD0 : wr.cell? ⟨gC, dif k x, none⟩ = some (.int .i64 (pkN l (dif k x) : Nat)) := cD 0
              have cK0 : wr.cell? ⟨gC, k, none⟩ = some (.int .i64 ((pkS l k j).2 : Nat)) := cK 0
              have hn8 := HN8.out (dif k x) (by omega)
              have hs9 := HS9.out k j hlt
              clear DL
              by_cases hless : (pkS l k j).2 < pkN l (dif k x) + 1
              · have NEW : Hid (pkS l k (j + 1) = (x, pkN l (dif k x) + 1)) := by show _ = _; rw [ST.out, if_pos ⟨rfl, hless⟩]
                have JF2 : Hid (∀ n (y : Value), Tbl gF (((wr.drewN n).setCell ⟨gF, k, none⟩ (.int .i64 (x : Nat))).setCell ⟨gC, k, none⟩ y) T (ftab k (pkF l) (pkS l k (j + 1)).1)) := fun n y => by
                  rw [NEW.out]
                  exact ((JF.out.drewN n).set k x hlt (fun i _ => ftab_set i)).other k y hne
                have JC2 : Hid (∀ n (y : Value), Tbl gC (((wr.drewN n).setCell ⟨gF, k, none⟩ y).setCell ⟨gC, k, none⟩ (.int .i64 ((pkN l (dif k x) : Nat) + 1))) T (ftab k (pkN l) (pkS l k (j + 1)).2)) := fun n y => by
                  rw [NEW.out]
                  exact ((JC.out.drewN n).other k y (Ne.symm hne)).set k (pkN l (dif k x) + 1) hlt (fun i _ => ftab_set i)
                clear ST NEW
                generalize pkN l (dif k x) = c at *
                generalize (pkS l k j).2 = c2 at *
                generalize (pkS l k j).1 = c1 at *
                generalize dif k x = dd at *
                have hless' : (c2 : Int) < (c : Int) + 1 := by omega
                have hdd : (dd : Int) < (T : Int) := by omega
                go_wp2_with fail
                go_quiet ((go_at_call 104; refine (W1'.out _).mono ?_; rintro e w' ⟨rfl, rfl⟩; exact ⟨rfl, _, rfl⟩))
                go_wp2_with fail
                refine ⟨⟨j + 1, by omega, by go_num, JF2.out _ _, JC2.out _ _, ?_⟩, by simp [intOf]; omega⟩
                exact ((below_drewN JB.out _).setCell (p := ⟨gF, k, none⟩) hgF _).setCell (p := ⟨gC, k, none⟩) hgC _
              · have SAME : Hid (pkS l k (j + 1) = pkS l k j) := by show _ = _; rw [ST.out, if_neg (fun h => hless h.2)]
                clear ST
                generalize pkN l (dif k x) = c at *
                generalize hc2 : (pkS l k j).2 = c2 at cK cK0 hs9 hless
                generalize dif k x = dd at *
                have hless' : ¬ (c2 : Int) < (c : Int) + 1 := by omega
                have hdd : (dd : Int) < (T : Int) := by omega
                clear hc2 hless
                go_wp2_with fail
                go_quiet ((go_at_call 104; refine (W1'.out _).mono ?_; rintro e w' ⟨rfl, rfl⟩; exact ⟨rfl, _, rfl⟩))
                go_wp2_with fail
                go_roundw
                case rel => exact ⟨j + 1, by omega, by go_num, by rw [SAME.out]; exact JF.out.drewN _, by rw [SAME.out]; exact JC.out.drewN _, below_drewN JB.out _⟩
                case measure => simp [intOf]; omega
          · obtain rfl : j = l.length := by omega
            have he := HEND.out k hlt
            rw [he] at JF JC
            have NF : Hid (Tbl gF wr T (ftab (k + 1) (pkF l) 0)) := JF.out.congr (fun i _ => ftab_up i)
            have NC : Hid (Tbl gC wr T (ftab (k + 1) (pkN l) 0)) := JC.out.congr (fun i _ => ftab_up i)
            clear he JF JC
            go_wp2_with fail
            go_roundw
            case rel => exact ⟨k + 1, by omega, by go_num, NF, NC, JB⟩
            case measure => simp [intOf]; omega
      · obtain rfl : k = T := by omega
        have NF := hid (KF.out.congr (f' := pkF l) (fun i hi => (ftab_lt hi).symm))
        have HBF := hid (HB0.out.trans (KB.out.mono (by omega : w.heap.size ≤ w.heap.size + 1)))
        go_wp2_with fail
        go_ret
        exact ⟨_, rfl, NF.out.rkAt, HBF.out⟩
  · obtain ⟨W1, hW1⟩ : ∃ W1, ((w.alloc (.cells #[.int .i64 m, .slice a l.length cap] 24)).alloc (.cells (madeCells #[.int .i64 0] T) 3)).alloc (.cells (madeCells #[.int .i64 0] T) 3) = W1 := ⟨_, rfl⟩
    have t0 : Tbl (w.heap.size + 1) W1 T (fun _ => 0) := by
      rw [← hW1]
      have := Tbl.new (w.alloc (.cells #[.int .i64 m, .slice a l.length cap] 24)) T
      rw [World.size_alloc] at this
      refine ⟨fun i hi => cellA _ (this.cell i hi), fun i => ?_, by simp⟩
      rw [World.frozen?, Below.heap_alloc _ _ _ (by simp)]
      exact this.frozen i
    have t1 : Tbl (w.heap.size + 1 + 1) W1 T (fun _ => 0) := by
      have := Tbl.new ((w.alloc (.cells #[.int .i64 m, .slice a l.length cap] 24)).alloc (.cells (madeCells #[.int .i64 0] T) 3)) T
      rw [World.size_alloc, World.size_alloc, hW1] at this
      exact this
    have hB0 : Below w.heap.size w W1 := by
      rw [← hW1]
      exact (((Below.refl _ w).alloc (Nat.le_refl _) _).alloc (by simp) _).alloc (by simp; omega) _
    have hx1 : W1.cell? ⟨w.heap.size, 1, none⟩ = some (.slice a l.length cap) := by
      rw [← hW1]
      exact cellA _ (cellA _ (by rw [World.cell?_alloc_at _ _ _ _ rfl]; rfl))
    have hsz1 : w.heap.size + 1 + 1 + 1 = W1.heap.size := by rw [← hW1]; simp
    obtain ⟨gF, gC, eF, eC, hne, hgF, hgC⟩ : ∃ gF gC, gF = w.heap.size + 1 + 1 ∧ gC = w.heap.size + 1 ∧ gF ≠ gC ∧ w.heap.size + 1 ≤ gF ∧ w.heap.size + 1 ≤ gC := ⟨_, _, rfl, rfl, by omega, by omega, by omega⟩
    rw [← eF] at t1 ⊢
    rw [← eC] at t0 ⊢
    rw [hW1]
    first | rw [hw2] | rw [hw1]
    have HB0 := hid hB0
    have HTF : Hid (Tbl gF W1 T (ftab 0 (pkF l) 0)) := t1.congr (fun i _ => HF0.out i)
    have HTC : Hid (Tbl gC W1 T (ftab 0 (pkN l) 0)) := t0.congr (fun i _ => HC0.out i)
    have HX1 := hid hx1
    have HSZ1 := hid hsz1
    clear t0 t1 eF eC hW1 hmk hB0 hx1 hsz1
    go_loopw [18] (fun i wr => ∃ k : Nat, k ≤ T ∧ i = .int .i64 k ∧ Hid (Tbl gF wr T (ftab k (pkF l) 0)) ∧ Hid (Tbl gC wr T (ftab k (pkN l) 0)) ∧ Hid (Below (w.heap.size + 1) W1 wr)) (fun i _ => T - (intOf i).toNat)
    case atStart => exact ⟨0, Nat.zero_le _, rfl, HTF.out.drew, HTC.out.drew, (Below.refl _ _).drew⟩
    case round =>
      obtain ⟨k, hk, rfl, KF, KC, KB⟩ := hrel
      by_cases hlt : k < T
      · have hkk : k < 256 := by omega
        have c1 := (KB.out.cell (p := ⟨w.heap.size, 1, none⟩) (by show w.heap.size < _; omega)).trans HX1.out
        go_wp2_with fail
        clear c1
        go_loopw [24] (fun i wr => ∃ j : Nat, j ≤ l.length ∧ i = .int .i64 j ∧ Hid (Tbl gF wr T (ftab k (pkF l) (pkS l k j).1)) ∧ Hid (Tbl gC wr T (ftab k (pkN l) (pkS l k j).2)) ∧ Hid (Below (w.heap.size + 1) W1 wr)) (fun i _ => l.length - (intOf i).toNat)
        case atStart => exact ⟨0, Nat.zero_le _, rfl, KF, KC, KB⟩
        case round =>
          rename_i wr0 _
          clear KF KC KB
          obtain ⟨j, hj, rfl, JF, JC, JB⟩ := hrel
          by_cases hlj : j < l.length
          · obtain ⟨b, off, rfl, hb, hcell⟩ := hc (by omega)
            have hck : wr.cell? ⟨b, off + j, none⟩ = some (.int .i64 (l.getD j 0 : Nat)) := (JB.out.cell (p := ⟨b, off + j, none⟩) (by show b < _; omega)).trans ((HB0.out.cell (p := ⟨b, off + j, none⟩) hb).trans (hcell j hlj))
            have hx8 : l.getD j 0 < 256 := getD_lt hl8 j
            have ST : Hid (pkS l k (j + 1) = if subB (l.getD j 0) k = true ∧ (pkS l k j).2 < pkN l (dif k (l.getD j 0)) + 1 then (l.getD j 0, pkN l (dif k (l.getD j 0)) + 1) else pkS l k j) := rfl
            have DL := hid (HDL.out k j hlt hlj)
            have hlj' : (j : Int) < (l.length : Int) := by omega
            clear hcell
            generalize l.getD j 0 = x at *
            have W1' := hid (fun w' => within_any x k w' hx8 hkk)
            have hdn : bits .andNot .i64 (k : Int) (x : Int) = ((dif k x : Nat) : Int) := i64_andNot_nat k x (by omega) (by omega)
            generalize subB x k = b1 at *
            rcases b1 with _ | _
            · have SAME : Hid (pkS l k (j + 1) = pkS l k j) := by show _ = _; rw [ST.out]; simp
              clear ST DL
              go_wp2_with fail
              go_quiet ((go_at_call 104; refine (W1'.out _).mono ?_; rintro e w' ⟨rfl, rfl⟩; exact ⟨rfl, _, rfl⟩))
              go_wp2_with fail
              go_roundw
              case rel => exact ⟨j + 1, by omega, by go_num, by rw [SAME.out]; exact JF.out.drewN _, by rw [SAME.out]; exact JC.out.drewN _, below_drewN JB.out _⟩
              case measure => simp [intOf]; omega
            · have hd := DL.out rfl
              have cD : ∀ n, (wr.drewN n).cell? ⟨gC, dif k x, none⟩ = some (.int .i64 (pkN l (dif k x) : Nat)) := fun n => by
                have := (JC.out.drewN n).cell (dif k x) (by omega)
                rwa [ftab_lt hd] at this
              have cK : ∀ n, (wr.drewN n).cell? ⟨gC, k, none⟩ = some (.int .i64 ((pkS l k j).2 : Nat)) := fun n => by
                have := (JC.out.drewN n).cell k hlt
                rwa [ftab_at] at this
              have cF : ∀ n, (wr.drewN n).cell? ⟨gF, k, none⟩ = some (.int .i64 ((pkS l k j).1 : Nat)) := fun n => by
                have := (JF.out.drewN n).cell k hlt
                rwa [ftab_at] at this
              have fK : ∀ n, (wr.drewN n).frozen? ⟨gC, k, none⟩ = false := fun n => (JC.out.drewN n).frozen k
              have fF : ∀ n, (wr.drewN n).frozen? ⟨gF, k, none⟩ = false := fun n => (JF.out.drewN n).frozen k
              have cD0 : wr.cell? ⟨gC, dif k x, none⟩ = some (.int .i64 (pkN l (dif k x) : Nat)) := cD 0
              have cK0 : wr.cell? ⟨gC, k, none⟩ = some (.int .i64 ((pkS l k j).2 : Nat)) := cK 0
              have hn8 := HN8.out (dif k x) (by omega)
              have hs9 := HS9.out k j hlt
              clear DL
              by_cases hless : (pkS l k j).2 < pkN l (dif k x) + 1
              · have NEW : Hid (pkS l k (j + 1) = (x, pkN l (dif k x) + 1)) := by show _ = _; rw [ST.out, if_pos ⟨rfl, hless⟩]
                have JF2 : Hid (∀ n (y : Value), Tbl gF (((wr.drewN n).setCell ⟨gF, k, none⟩ (.int .i64 (x : Nat))).setCell ⟨gC, k, none⟩ y) T (ftab k (pkF l) (pkS l k (j + 1)).1)) := fun n y => by
                  rw [NEW.out]
                  exact ((JF.out.drewN n).set k x hlt (fun i _ => ftab_set i)).other k y hne
                have JC2 : Hid (∀ n (y : Value), Tbl gC (((wr.drewN n).setCell ⟨gF, k, none⟩ y).setCell ⟨gC, k, none⟩ (.int .i64 ((pkN l (dif k x) : Nat) + 1))) T (ftab k (pkN l) (pkS l k (j + 1)).2)) := fun n y => by
                  rw [NEW.out]
                  exact ((JC.out.drewN n).other k y (Ne.symm hne)).set k (pkN l (dif k x) + 1) hlt (fun i _ => ftab_set i)
                clear ST NEW
                generalize pkN l (dif k x) = c at *
                generalize (pkS l k j).2 = c2 at *
                generalize (pkS l k j).1 = c1 at *
                generalize dif k x = dd at *
                have hless' : (c2 : Int) < (c : Int) + 1 := by omega
                have hdd : (dd : Int) < (T : Int) := by omega
                go_wp2_with fail
                go_quiet ((go_at_call 104; refine (W1'.out _).mono ?_; rintro e w' ⟨rfl, rfl⟩; exact ⟨rfl, _, rfl⟩))
                go_wp2_with fail
                refine ⟨⟨j + 1, by omega, by go_num, JF2.out _ _, JC2.out _ _, ?_⟩, by simp [intOf]; omega⟩
                exact ((below_drewN JB.out _).setCell (p := ⟨gF, k, none⟩) hgF _).setCell (p := ⟨gC, k, none⟩) hgC _
              · have SAME : Hid (pkS l k (j + 1) = pkS l k j) := by show _ = _; rw [ST.out, if_neg (fun h => hless h.2)]
                clear ST
                generalize pkN l (dif k x) = c at *
                generalize hc2 : (pkS l k j).2 = c2 at cK cK0 hs9 hless
                generalize dif k x = dd at *
                have hless' : ¬ (c2 : Int) < (c : Int) + 1 := by omega
                have hdd : (dd : Int) < (T : Int) := by omega
                clear hc2 hless
                go_wp2_with fail
                go_quiet ((go_at_call 104; refine (W1'.out _).mono ?_; rintro e w' ⟨rfl, rfl⟩; exact ⟨rfl, _, rfl⟩))
                go_wp2_with fail
                go_roundw
                case rel => exact ⟨j + 1, by omega, by go_num, by rw [SAME.out]; exact JF.out.drewN _, by rw [SAME.out]; exact JC.out.drewN _, below_drewN JB.out _⟩
                case measure => simp [intOf]; omega
          · obtain rfl : j = l.length := by omega
            have he := HEND.out k hlt
            rw [he] at JF JC
            have NF : Hid (Tbl gF wr T (ftab (k + 1) (pkF l) 0)) := JF.out.congr (fun i _ => ftab_up i)
            have NC : Hid (Tbl gC wr T (ftab (k + 1) (pkN l) 0)) := JC.out.congr (fun i _ => ftab_up i)
            clear he JF JC
            go_wp2_with fail
            go_roundw
            case rel => exact ⟨k + 1, by omega, by go_num, NF, NC, JB⟩
            case measure => simp [intOf]; omega
      · obtain rfl : k = T := by omega
        have NF := hid (KF.out.congr (f' := pkF l) (fun i hi => (ftab_lt hi).symm))
        have HBF := hid (HB0.out.trans (KB.out.mono (by omega : w.heap.size ≤ w.heap.size + 1)))
        go_wp2_with fail
        go_ret
        exact ⟨_, rfl, NF.out.rkAt, HBF.out⟩
end Go.Proofs.Ythbcnolpjcppoab
