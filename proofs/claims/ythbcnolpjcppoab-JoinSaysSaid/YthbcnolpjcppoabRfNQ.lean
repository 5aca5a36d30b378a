/- rotaref.Needs. -/
import Derived.Test.YthbcnolpjcppoabRefAxCQ
import Derived.Test.YthbcnolpjcppoabPlainAll
import Derived.Test.YthbcnolpjcppoabQBelW
namespace Go.Proofs.Ythbcnolpjcppoab
open Go.RowKit

/-- A block of T numbers, of whatever sign. -/
structure TblZ (g : Nat) (w : World) (T : Nat) (f : Nat → Int) : Prop where
  cell : ∀ i, i < T → w.cell? ⟨g, i, none⟩ = some (.int .i64 (f i))
  frozen : ∀ i, w.frozen? ⟨g, i, none⟩ = false
  size : g < w.heap.size
theorem TblZ.set {g : Nat} {w : World} {T : Nat} {f f' : Nat → Int} (h : TblZ g w T f) (j : Nat) (x : Int) (hj : j < T) (hf : ∀ i, i < T → f' i = if j = i then x else f i) : TblZ g (w.setCell ⟨g, j, none⟩ (.int .i64 x)) T f' := by
  refine ⟨fun i hi => ?_, fun i => (World.frozen?_setCell _ _ _ _).trans (h.frozen i), by simpa using h.size⟩
  rw [hf i hi]
  by_cases e : j = i
  · subst e
    rw [World.cell?_setCell_same _ _ _ (h.cell j hj)]; simp
  · rw [World.cell?_setCell_other _ _ _ _ (by simp), h.cell i hi]
    simp [e]
theorem TblZ.congr {g : Nat} {w : World} {T : Nat} {f f' : Nat → Int} (h : TblZ g w T f) (hf : ∀ i, i < T → f' i = f i) : TblZ g w T f' := ⟨fun i hi => by rw [hf i hi]; exact h.cell i hi, h.frozen, h.size⟩
theorem TblZ.below {g : Nat} {w w' : World} {T : Nat} {f : Nat → Int} (h : TblZ g w T f) (hb : Below w.heap.size w w') : TblZ g w' T f :=
  ⟨fun i hi => (hb.cell (p := ⟨g, i, none⟩) h.size).trans (h.cell i hi), fun i => (froz_below hb h.size).trans (h.frozen i), Nat.lt_of_lt_of_le h.size hb.size⟩
def RkZ (w : World) (v : Value) (T : Nat) (f : Nat → Int) : Prop := ∃ b off cap, v = .slice (some ⟨b, off, none⟩) T cap ∧ b < w.heap.size ∧ ∀ i, i < T → w.cell? ⟨b, off + i, none⟩ = some (.int .i64 (f i))
theorem RkZ.below {w w' : World} {v : Value} {T : Nat} {f : Nat → Int} (h : RkZ w v T f) (hb : Below w.heap.size w w') : RkZ w' v T f := by
  obtain ⟨b, off, cap, rfl, h1, h2⟩ := h
  exact ⟨b, off, cap, rfl, Nat.lt_of_lt_of_le h1 hb.size, fun i hi => (hb.cell (p := ⟨b, off + i, none⟩) h1).trans (h2 i hi)⟩
/-- A row being filled. -/
def ztab (k : Nat) (a : Nat → Int) (b : Int) (i : Nat) : Int := if i < k then a i else if i = k then b else 0
theorem ztab_lt {k i : Nat} {b : Int} {a : Nat → Int} (h : i < k) : ztab k a b i = a i := if_pos h
theorem ztab_at {k : Nat} {b : Int} {a : Nat → Int} : ztab k a b k = b := by unfold ztab; simp
theorem ztab_set {k : Nat} {b b' : Int} {a : Nat → Int} (i : Nat) : ztab k a b' i = if k = i then b' else ztab k a b i := by
  unfold ztab
  by_cases h : k = i
  · subst h
    simp
  · have h2 : ¬ i = k := fun e => h e.symm
    simp [h, h2]
theorem ztab_up {k : Nat} {a : Nat → Int} (i : Nat) : ztab (k + 1) a 0 i = ztab k a (a k) i := by
  unfold ztab
  by_cases h : i < k
  · rw [if_pos h, if_pos (by omega)]
  · by_cases h2 : i = k
    · subst h2
      simp
    · have h3 : ¬ i < k + 1 := by omega
      simp [h, h2, h3]
theorem nedZ_zero (r : Nat → Nat) : nedZ r 0 = 0 := by
  unfold nedZ freeS
  rw [els_zero, if_pos (by rfl), cvN_zero]
  rfl
set_option maxRecDepth 20000 in
set_option maxHeartbeats 4000000 in
theorem Needs_ok (m : Nat) (v : Value) (l : List Nat) (w : World) (hm : m ≤ 8) (hf : Fam m l) (hb : Bas l) (h : Ints w v (N l)) :
    Calls Try.prog 79 #[.agg #[.int .i64 m, v]] w fun e w' => ∃ u, e = .returned u ∧ RkZ w' u (2 ^ m) (nedZ (rk l)) ∧ Below w.heap.size w w' := by
  have HB0 := hid (below_box w #[.int .i64 m, v])
  have R1 := hid (Ranks_ref m v l _ hm (hf.lt256 hm) (h.below HB0.out))
  have hr := hb.rkOn m
  obtain ⟨T, HT, hT2, hT1, hw1⟩ : ∃ T : Nat, Hid (2 ^ m = T) ∧ T ≤ 256 ∧ 1 ≤ T ∧ wrap64 (2 ^ m) = (T : Int) := ⟨2 ^ m, Eq.refl (2 ^ m), (pow_wrap _ hm).2, Nat.one_le_two_pow, (pow_wrap _ hm).1⟩
  have hw2 : wrap64 (2 ^ min m 64) = (T : Int) := by rw [Nat.min_eq_left (by omega)]; exact hw1
  have hnn : ¬ (m : Int) < 0 := by omega
  have HEND : Hid (∀ k, k < T → k ≠ 0 → nedS (rk l) k (k + 1) = nedZ (rk l) k) := fun k hk h0 => nedS_end hm hr (by rw [HT.out]; exact hk) h0
  have HZ8 : Hid (∀ k, k < T → -1 ≤ nedZ (rk l) k ∧ nedZ (rk l) k ≤ 8) := fun k hk => nedZ_le hm hr (by rw [HT.out]; exact hk)
  have HS9 : Hid (∀ k j, k < T → -1 ≤ nedS (rk l) k j ∧ nedS (rk l) k j ≤ 9) := fun k j hk => by
    rcases (nedS_inv (rk l) k j).2 with e | ⟨t, _, ht, e⟩
    · rw [e]; omega
    · rw [e]
      have := nedZ_le hm hr (s := dif k t) (by rw [HT.out]; exact Nat.lt_of_le_of_lt (subB_le (dif_subl _ _)) hk)
      omega
  have HK := hid (rk_le8 l (hf.lt256 hm))
  rw [HT.out] at R1 ⊢
  have hmk := fun w => run_make_row' (P := Try.prog) 22 3 (.int .i64 0) 8 Try.underlying22 Try.infoInt rfl .i64 .i64 T (by omega) (by omega) w
  obtain ⟨a, cap, hv, -, -⟩ := h.nats
  subst hv
  clear h
  go_enter Try.func79, Try.ntmps79
  go_wp2_with fail
  refine R1.out.mono ?_
  rintro e w1 ⟨r1, rfl, hr1, hb1⟩
  have HR1 := hid hr1
  obtain ⟨rb, roff, rcap, rfl, -, -⟩ := hr1
  obtain ⟨x0, x1⟩ := box_cells hb1
  have HB1 := hid (HB0.out.trans (hb1.mono HB0.out.size))
  clear hb1
  have hsz1 := HB1.out.size
  have TB0 : Hid (TblZ w1.heap.size (w1.alloc (.cells (madeCells #[.int .i64 0] T) 3)) T (ztab 1 (nedZ (rk l)) 0)) := by
    have := Tbl.new w1 T
    refine ⟨fun i hi => (this.cell i hi).trans ?_, this.frozen, this.size⟩
    unfold ztab
    by_cases h : i < 1
    · obtain rfl : i = 0 := by omega
      rw [if_pos h, nedZ_zero]
      rfl
    · rw [if_neg h]
      simp
  have HB2 : Hid (Below w1.heap.size w1 (w1.alloc (.cells (madeCells #[.int .i64 0] T) 3))) := (Below.refl _ _).alloc (Nat.le_refl _) _
  go_wp2_with fail
  first | rw [hw2] | rw [hw1]
  clear x0 x1 hmk
  revert TB0 HB2
  generalize w1.alloc (.cells (madeCells #[.int .i64 0] T) 3) = W1
  intro TB0 HB2
  go_loopw [5] (fun i wr => ∃ k : Nat, 1 ≤ k ∧ k ≤ T ∧ i = .int .i64 k ∧ Hid (TblZ w1.heap.size wr T (ztab k (nedZ (rk l)) 0)) ∧ Hid (Below w1.heap.size w1 wr)) (fun i _ => T - (intOf i).toNat)
  case atStart => exact ⟨1, Nat.le_refl _, hT1, rfl, TB0, HB2⟩
  case round =>
    obtain ⟨k, hk1, hk, rfl, KT, KB⟩ := hrel
    by_cases hlt : k < T
    · have hkk : k < 256 := by omega
      have cK := KT.out.cell k hlt
      have fK := KT.out.frozen k
      have KT2 : Hid (TblZ w1.heap.size (wr.setCell ⟨w1.heap.size, k, none⟩ (.int .i64 (-1))) T (ztab k (nedZ (rk l)) (nedS (rk l) k 1))) := KT.out.set k (-1) hlt (fun i _ => by rw [show nedS (rk l) k 1 = -1 from rfl]; exact ztab_set i)
      have KB2 := hid (KB.out.setCell (p := ⟨w1.heap.size, k, none⟩) (Nat.le_refl _) (.int .i64 (-1)))
      clear KT KB
      go_wp2_with fail
      clear cK fK
      go_loopw [6] (fun i wr => ∃ j : Nat, 1 ≤ j ∧ j ≤ k + 1 ∧ i = .int .i64 j ∧ Hid (TblZ w1.heap.size wr T (ztab k (nedZ (rk l)) (nedS (rk l) k j))) ∧ Hid (Below w1.heap.size w1 wr)) (fun i _ => k + 1 - (intOf i).toNat)
      case atStart => exact ⟨1, Nat.le_refl _, by omega, rfl, KT2, KB2⟩
      case round =>
        rename_i wr0 _
        clear KT2 KB2
        obtain ⟨j, hj1, hj, rfl, JT, JB⟩ := hrel
        by_cases hlj : j ≤ k
        · have hj8 : j < 256 := by omega
          have jT : j < T := by omega
          have hji : (j : Int) ≤ (k : Int) := by omega
          have jTi : (j : Int) < (T : Int) := by omega
          have WI := hid (fun w' => Within_any j k w' hj8 hkk)
          have SK := hid (fun w' => Size_any j w' hj8)
          have cR : ∀ x : Later wr, x.now.cell? ⟨rb, roff + j, none⟩ = some (.int .i64 (rk l j : Nat)) := (HR1.out.below JB.out).later jT
          have ST : Hid (nedS (rk l) k (j + 1) = if j ≠ 0 ∧ subB j k = true ∧ rk l j = pop j ∧ 0 ≤ nedZ (rk l) (dif k j) ∧ (nedS (rk l) k j < 0 ∨ nedZ (rk l) (dif k j) + 1 < nedS (rk l) k j) then nedZ (rk l) (dif k j) + 1 else nedS (rk l) k j) := rfl
          have hr8 := HK.out j
          have hp8 := pop_le j hj8
          have s9 := HS9.out k j hlt
          have HSD := hid (sub_dif k hkk j hj8)
          by_cases h1 : subB j k = true
          · obtain ⟨e1, _⟩ := HSD.out h1
            have hdk : dif k j < k := by omega
            have hsub' : (k : Int) - (j : Int) = ((dif k j : Nat) : Int) := by omega
            have z8 := HZ8.out (dif k j) (by omega)
            rw [h1] at WI
            have cD : ∀ x : Later wr, x.now.cell? ⟨w1.heap.size, dif k j, none⟩ = some (.int .i64 (nedZ (rk l) (dif k j))) := fun x => by
              have := (JT.out.below x.kept).cell (dif k j) (by omega)
              rwa [ztab_lt hdk] at this
            have cK : ∀ x : Later wr, x.now.cell? ⟨w1.heap.size, k, none⟩ = some (.int .i64 (nedS (rk l) k j)) := fun x => by
              have := (JT.out.below x.kept).cell k hlt
              rwa [ztab_at] at this
            have hdT : ((dif k j : Nat) : Int) < (T : Int) := by omega
            by_cases h2 : rk l j = pop j
            · by_cases h3 : 0 ≤ nedZ (rk l) (dif k j)
              · by_cases h4 : nedS (rk l) k j < 0
                · have NEW : Hid (nedS (rk l) k (j + 1) = nedZ (rk l) (dif k j) + 1) := by show _ = _; rw [ST.out, if_pos ⟨by omega, h1, h2, h3, Or.inl h4⟩]
                  rw [h2] at cR
                  clear ST HSD h2
                  go_wp2_with fail
                  refine region_later (by kernel_rfl) (by kernel_rfl) ?_
                  repeat (go_big_quiet_step ((first
                    | (go_at_call 78; refine (WI.out _).mono ?_; rintro e w' ⟨rfl, rfl⟩; exact ⟨rfl, Later.on _ (Below.refl _ _)⟩)
                    | (go_at_call 12; refine (SK.out _).mono ?_; rintro e w' ⟨rfl, hb9⟩; exact ⟨rfl, Later.on _ hb9⟩))))
                  refine wpQuiet_nil ?_
                  intro w6' hw'
                  obtain ⟨⟨y6, hb6⟩, hw''⟩ := hw'
                  dsimp only at hw''
                  subst hw''
                  have HB6 := hid (JB.out.trans (hb6.mono (Nat.le_of_lt JT.out.size)))
                  have JT6 := hid (JT.out.below hb6)
                  clear hb6 cR cD cK
                  have c6 := JT6.out.cell k hlt
                  have g6 := JT6.out.frozen k
                  have d6 := JT6.out.cell (dif k j) (by omega)
                  rw [ztab_lt hdk] at d6
                  rw [ztab_at] at c6
                  have NT := hid (JT6.out.set k (nedZ (rk l) (dif k j) + 1) hlt (f' := ztab k (nedZ (rk l)) (nedS (rk l) k (j + 1))) (fun i _ => by rw [NEW.out]; exact ztab_set i))
                  have NB := hid (HB6.out.setCell (p := ⟨w1.heap.size, k, none⟩) (Nat.le_refl _) (.int .i64 (nedZ (rk l) (dif k j) + 1)))
                  clear NEW
                  generalize nedZ (rk l) (dif k j) = z at *
                  go_wp2_with fail
                  exact ⟨⟨j + 1, by omega, by omega, by go_num, NT, NB⟩, by simp [intOf]; omega⟩
                · have h4' : decide (nedS (rk l) k j < 0) = false := decide_eq_false h4
                  by_cases h5 : nedZ (rk l) (dif k j) + 1 < nedS (rk l) k j
                  · have NEW : Hid (nedS (rk l) k (j + 1) = nedZ (rk l) (dif k j) + 1) := by show _ = _; rw [ST.out, if_pos ⟨by omega, h1, h2, h3, Or.inr h5⟩]
                    rw [h2] at cR
                    clear ST HSD h2
                    go_wp2_with fail
                    refine region_later (by kernel_rfl) (by kernel_rfl) ?_
                    repeat (go_big_quiet_step ((first
                      | (go_at_call 78; refine (WI.out _).mono ?_; rintro e w' ⟨rfl, rfl⟩; exact ⟨rfl, Later.on _ (Below.refl _ _)⟩)
                      | (go_at_call 12; refine (SK.out _).mono ?_; rintro e w' ⟨rfl, hb9⟩; exact ⟨rfl, Later.on _ hb9⟩))))
                    refine wpQuiet_nil ?_
                    intro w6' hw'
                    obtain ⟨⟨y6, hb6⟩, hw''⟩ := hw'
                    dsimp only at hw''
                    subst hw''
                    have HB6 := hid (JB.out.trans (hb6.mono (Nat.le_of_lt JT.out.size)))
                    have JT6 := hid (JT.out.below hb6)
                    clear hb6 cR cD cK
                    have c6 := JT6.out.cell k hlt
                    have g6 := JT6.out.frozen k
                    have d6 := JT6.out.cell (dif k j) (by omega)
                    rw [ztab_lt hdk] at d6
                    rw [ztab_at] at c6
                    have NT := hid (JT6.out.set k (nedZ (rk l) (dif k j) + 1) hlt (f' := ztab k (nedZ (rk l)) (nedS (rk l) k (j + 1))) (fun i _ => by rw [NEW.out]; exact ztab_set i))
                    have NB := hid (HB6.out.setCell (p := ⟨w1.heap.size, k, none⟩) (Nat.le_refl _) (.int .i64 (nedZ (rk l) (dif k j) + 1)))
                    clear NEW
                    generalize nedZ (rk l) (dif k j) = z at *
                    go_wp2_with fail
                    exact ⟨⟨j + 1, by omega, by omega, by go_num, NT, NB⟩, by simp [intOf]; omega⟩
                  · have SAME : Hid (nedS (rk l) k (j + 1) = nedS (rk l) k j) := by show _ = _; rw [ST.out, if_neg (fun h => by rcases h.2.2.2.2 with g | g; exact h4 g; exact h5 g)]
                    have h5' : decide (nedZ (rk l) (dif k j) + 1 < nedS (rk l) k j) = false := decide_eq_false h5
                    rw [h2] at cR
                    clear ST HSD h2
                    go_wp2_with fail
                    refine region_later (by kernel_rfl) (by kernel_rfl) ?_
                    repeat (go_big_quiet_step ((first
                      | (go_at_call 78; refine (WI.out _).mono ?_; rintro e w' ⟨rfl, rfl⟩; exact ⟨rfl, Later.on _ (Below.refl _ _)⟩)
                      | (go_at_call 12; refine (SK.out _).mono ?_; rintro e w' ⟨rfl, hb9⟩; exact ⟨rfl, Later.on _ hb9⟩))))
                    refine wpQuiet_nil ?_
                    intro w6' hw'
                    obtain ⟨⟨y6, hb6⟩, hw''⟩ := hw'
                    dsimp only at hw''
                    subst hw''
                    have HB6 := hid (JB.out.trans (hb6.mono (Nat.le_of_lt JT.out.size)))
                    have JT6 := hid (JT.out.below hb6)
                    clear hb6 cR cD cK
                    go_wp2_with fail
                    go_roundw
                    case rel => exact ⟨j + 1, by omega, by omega, by go_num, by rw [SAME.out]; exact JT6, HB6⟩
                    case measure => simp [intOf]; omega
              · have SAME : Hid (nedS (rk l) k (j + 1) = nedS (rk l) k j) := by show _ = _; rw [ST.out, if_neg (fun h => h3 h.2.2.2.1)]
                have h3' : decide (0 ≤ nedZ (rk l) (dif k j)) = false := decide_eq_false h3
                rw [h2] at cR
                clear ST HSD h2
                go_wp2_with fail
                refine region_later (by kernel_rfl) (by kernel_rfl) ?_
                repeat (go_big_quiet_step ((first
                  | (go_at_call 78; refine (WI.out _).mono ?_; rintro e w' ⟨rfl, rfl⟩; exact ⟨rfl, Later.on _ (Below.refl _ _)⟩)
                  | (go_at_call 12; refine (SK.out _).mono ?_; rintro e w' ⟨rfl, hb9⟩; exact ⟨rfl, Later.on _ hb9⟩))))
                refine wpQuiet_nil ?_
                intro w6' hw'
                obtain ⟨⟨y6, hb6⟩, hw''⟩ := hw'
                dsimp only at hw''
                subst hw''
                have HB6 := hid (JB.out.trans (hb6.mono (Nat.le_of_lt JT.out.size)))
                have JT6 := hid (JT.out.below hb6)
                clear hb6 cR cD cK
                go_wp2_with fail
                go_roundw
                case rel => exact ⟨j + 1, by omega, by omega, by go_num, by rw [SAME.out]; exact JT6, HB6⟩
                case measure => simp [intOf]; omega
            · have SAME : Hid (nedS (rk l) k (j + 1) = nedS (rk l) k j) := by show _ = _; rw [ST.out, if_neg (fun h => h2 h.2.2.1)]
              have h2' : ((rk l j : Int) == (pop j : Int)) = false := by rw [beq_eq_false_iff_ne]; omega
              have h2'' : ¬ (rk l j : Int) = (pop j : Int) := by omega
              clear ST HSD h2
              go_wp2_with fail
              refine region_later (by kernel_rfl) (by kernel_rfl) ?_
              repeat (go_big_quiet_step ((first
                | (go_at_call 78; refine (WI.out _).mono ?_; rintro e w' ⟨rfl, rfl⟩; exact ⟨rfl, Later.on _ (Below.refl _ _)⟩)
                | (go_at_call 12; refine (SK.out _).mono ?_; rintro e w' ⟨rfl, hb9⟩; exact ⟨rfl, Later.on _ hb9⟩))))
              refine wpQuiet_nil ?_
              intro w6' hw'
              obtain ⟨⟨y6, hb6⟩, hw''⟩ := hw'
              dsimp only at hw''
              subst hw''
              have HB6 := hid (JB.out.trans (hb6.mono (Nat.le_of_lt JT.out.size)))
              have JT6 := hid (JT.out.below hb6)
              clear hb6 cR cD cK
              go_wp2_with fail
              go_roundw
              case rel => exact ⟨j + 1, by omega, by omega, by go_num, by rw [SAME.out]; exact JT6, HB6⟩
              case measure => simp [intOf]; omega
          · have SAME : Hid (nedS (rk l) k (j + 1) = nedS (rk l) k j) := by show _ = _; rw [ST.out, if_neg (fun h => h1 h.2.1)]
            have h1' : subB j k = false := by simpa using h1
            rw [h1'] at WI
            clear ST HSD h1 h1'
            go_wp2_with fail
            refine region_later (by kernel_rfl) (by kernel_rfl) ?_
            repeat (go_big_quiet_step ((first
              | (go_at_call 78; refine (WI.out _).mono ?_; rintro e w' ⟨rfl, rfl⟩; exact ⟨rfl, Later.on _ (Below.refl _ _)⟩)
              | (go_at_call 12; refine (SK.out _).mono ?_; rintro e w' ⟨rfl, hb9⟩; exact ⟨rfl, Later.on _ hb9⟩))))
            refine wpQuiet_nil ?_
            intro w6' hw'
            obtain ⟨⟨y6, hb6⟩, hw''⟩ := hw'
            dsimp only at hw''
            subst hw''
            have HB6 := hid (JB.out.trans (hb6.mono (Nat.le_of_lt JT.out.size)))
            have JT6 := hid (JT.out.below hb6)
            clear hb6 cR
            go_wp2_with fail
            go_roundw
            case rel => exact ⟨j + 1, by omega, by omega, by go_num, by rw [SAME.out]; exact JT6, HB6⟩
            case measure => simp [intOf]; omega
        · obtain rfl : j = k + 1 := by omega
          have he := HEND.out k hlt (by omega)
          rw [he] at JT
          have NT : Hid (TblZ w1.heap.size wr T (ztab (k + 1) (nedZ (rk l)) 0)) := JT.out.congr (fun i _ => ztab_up i)
          clear he JT
          go_wp2_with fail
          go_roundw
          case rel => exact ⟨k + 1, by omega, by omega, by go_num, NT, JB⟩
          case measure => simp [intOf]; omega
    · obtain rfl : k = T := by omega
      have NT := hid (KT.out.congr (f' := nedZ (rk l)) (fun i hi => (ztab_lt hi).symm))
      have HBF := hid (HB1.out.trans (KB.out.mono hsz1))
      go_wp2_with fail
      go_ret
      exact ⟨_, rfl, ⟨w1.heap.size, 0, k, rfl, NT.out.size, fun i hi => by rw [Nat.zero_add]; exact NT.out.cell i hi⟩, HBF.out⟩
end Go.Proofs.Ythbcnolpjcppoab
