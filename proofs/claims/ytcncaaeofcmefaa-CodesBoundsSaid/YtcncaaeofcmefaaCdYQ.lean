/- codes.countByPlaces. -/
import Derived.Test.YtcncaaeofcmefaaCdXQ
import Derived.Test.YtcncaaeofcmefaaTZQ
import Derived.Test.YtcncaaeofcmefaaBitsQ
namespace Go.Proofs.Ytcncaaeofcmefaa
open Go.RowKit

/-- What package codes refuses. -/
def codE (p c : Int) (R : List (List Int)) : Int := if matR p c R = 0 then (if p.toNat ^ (redL p c.toNat R).length ≤ 20000 then 0 else 2) else 1
theorem codE_cases (p c : Int) (R : List (List Int)) : codE p c R = 0 ∨ codE p c R = 1 ∨ codE p c R = 2 := by
  unfold codE
  split
  · split <;> simp
  · simp
theorem codE_ok {p c : Int} {R : List (List Int)} (h : codE p c R = 0) : ∃ P C : Nat, p = P ∧ c = C ∧ MatOK P C R ∧ P ^ (redL P C R).length ≤ 20000 := by
  unfold codE at h
  split at h
  · rename_i h1
    split at h
    · rename_i h2
      have hm := MatOK.of h1
      have hp := isP_pos hm.pr
      have hc := hm.c0
      obtain ⟨P, rfl⟩ : ∃ P : Nat, p = P := ⟨p.toNat, by omega⟩
      obtain ⟨C, rfl⟩ : ∃ C : Nat, c = C := ⟨c.toNat, by omega⟩
      rw [Int.toNat_natCast, Int.toNat_natCast] at h2
      exact ⟨P, C, rfl, rfl, hm, h2⟩
    · cases h
  · cases h
set_option maxRecDepth 20000 in
set_option maxHeartbeats 1000000 in
theorem words_bad (p c : Int) (v : Value) (R : List (List Int)) (w : World) (h : RowsI w v R) (hm : matR p c R = 1) :
    Calls Try.prog 20 #[.agg #[.int .i64 p, .int .i64 c, v]] w fun e w' => e = .returned (.tuple #[.slice none 0 0, .int .i64 1]) ∧ Below w.heap.size w w' := by
  obtain ⟨w0, hw0⟩ : ∃ w0, w.alloc (.cells #[.int .i64 p, .int .i64 c, v] 24) = w0 := ⟨_, rfl⟩
  have B0 : Hid (Below w.heap.size w w0) := by rw [← hw0]; exact (Below.refl _ _).alloc (Nat.le_refl _) _
  have X0 : Hid (w0.heap[w.heap.size]? = some (.cells #[.int .i64 p, .int .i64 c, v] 24 (0, 0))) := by rw [← hw0]; exact World.alloc_heap_new w _
  have RD := hid (Reduced_bad p c v R w0 (h.below B0.out) hm)
  obtain ⟨x0, x1, x2⟩ := three_cells X0.out
  clear h hm
  go_enter Try.func20, Try.ntmps20
  go_wp2_with fail
  clear hw0
  refine RD.out.mono ?_
  rintro e w1 ⟨rfl, hb1⟩
  have hsz := (Array.getElem?_eq_some_iff.1 X0.out).1
  have B1 := hid ((B0.out.trans (hb1.mono B0.out.size)).alloc (by have := B0.out.size; have := hb1.size; omega) (.cells #[.int .i64 0, .int .i64 0, .slice none 0 0] 24))
  clear hb1 RD
  go_wp2_with fail
  refine bodyPost_ret (v := .tuple #[.slice none 0 0, .int .i64 1]) (by simp [results, Try.f20, go_sem]) rfl ⟨rfl, B1.out⟩
/-- What words answers, whatever is handed in. -/
theorem words_any (p c : Int) (v : Value) (R : List (List Int)) (w : World) (h : RowsI w v R) :
    Calls Try.prog 20 #[.agg #[.int .i64 p, .int .i64 c, v]] w fun e w' => (codE p c R ≠ 0 → e = .returned (.tuple #[.slice none 0 0, .int .i64 (codE p c R)])) ∧ (∀ P C : Nat, codE p c R = 0 → p = P → c = C → ∃ u, e = .returned (.tuple #[u, .int .i64 0]) ∧ OwnW w.heap.size w' u P (redL P C R).length (rowF (redL P C R)) (P ^ (redL P C R).length)) ∧ Below w.heap.size w w' := by
  rcases matR_01 p c R with h1 | h1
  · have hm := MatOK.of h1
    have hp := isP_pos hm.pr
    have hc := hm.c0
    obtain ⟨P, rfl⟩ : ∃ P : Nat, p = P := ⟨p.toNat, by omega⟩
    obtain ⟨C, rfl⟩ : ∃ C : Nat, c = C := ⟨c.toNat, by omega⟩
    refine (words_ok P C v R w h hm).mono fun e w' ⟨h2, h3, h4⟩ => ⟨fun h5 => ?_, fun P' C' h5 e1 e2 => ?_, h4⟩
    · unfold codE at h5 ⊢
      rw [if_pos h1, Int.toNat_natCast, Int.toNat_natCast] at h5 ⊢
      by_cases h6 : P ^ (redL P C R).length ≤ 20000
      · rw [if_pos h6] at h5
        exact absurd rfl h5
      · rw [if_neg h6]
        exact h3 (by omega)
    · have e3 : P' = P := by omega
      have e4 : C' = C := by omega
      subst e3
      subst e4
      unfold codE at h5
      rw [if_pos h1, Int.toNat_natCast, Int.toNat_natCast] at h5
      by_cases h6 : P' ^ (redL P' C' R).length ≤ 20000
      · exact h2 h6
      · rw [if_neg h6] at h5
        cases h5
  · have e : codE p c R = 1 := by unfold codE; rw [h1, if_neg (by decide)]
    rw [e]
    exact (words_bad p c v R w h h1).mono fun e w' ⟨h2, h3⟩ => ⟨fun _ => h2, (fun _ _ h => absurd h (by decide)), h3⟩
/-- The places of a word. -/
def plS (P k : Nat) (g : Nat → Nat → Int) (i : Nat) : Nat := plN (wrdF P k g i) 8
/-- How many of the first m words have just the places of s. -/
def ctS (P k : Nat) (g : Nat → Nat → Int) (m s : Nat) : Int := (cnP (fun i => plS P k g i == s) m : Nat)
theorem ctS_zero (P k : Nat) (g : Nat → Nat → Int) (s : Nat) : ctS P k g 0 s = 0 := rfl
theorem ctS_succ (P k : Nat) (g : Nat → Nat → Int) (m s : Nat) : ctS P k g (m + 1) s = if plS P k g m = s then ctS P k g m s + 1 else ctS P k g m s := by
  unfold ctS
  rw [cnP_succ]
  by_cases h : plS P k g m = s
  · simp [h]
  · simp [h]
theorem ctS_le (P k : Nat) (g : Nat → Nat → Int) (m s : Nat) : 0 ≤ ctS P k g m s ∧ ctS P k g m s ≤ m := by
  unfold ctS
  have := cnP_le (fun i => plS P k g i == s) m
  omega
theorem plN_out {f : Nat → Nat} {C : Nat} (h : ∀ r, C ≤ r → f r = 0) : ∀ d, plN f (C + d) = plN f C
  | 0 => rfl
  | d + 1 => by
    show (if f (C + d) = 0 then plN f (C + d) else _) = _
    rw [if_pos (h _ (by omega)), plN_out h d]
theorem plS_lt {P k C i : Nat} {g : Nat → Nat → Int} (hp : isP (P : Int)) (hC : C ≤ 8) (h : ∀ j, j < k → ∀ r, C ≤ r → g j r = 0) : plS P k g i = plN (wrdF P k g i) C ∧ plS P k g i < 2 ^ C := by
  have e : plS P k g i = plN (wrdF P k g i) C := by
    unfold plS
    have := plN_out (C := C) (fun r hr => wrd_out hp (fun j hj => h j hj r hr) i) (8 - C)
    rwa [show C + (8 - C) = 8 by omega] at this
  exact ⟨e, by rw [e]; exact plN_lt _ _⟩
theorem red_out {P C : Nat} {R : List (List Int)} (hm : MatOK P C R) : ∀ j, j < (redL P C R).length → ∀ r, C ≤ r → rowF (redL P C R) j r = 0 := fun j hj r hr => by
  have hl := (redL_ok hm).len j hj
  show ((redL P C R).getD j []).getD r 0 = 0
  rw [List.getD_eq_getElem?_getD, List.getElem?_eq_none (by omega)]
  rfl
set_option maxRecDepth 20000 in
set_option maxHeartbeats 4000000 in
theorem count_any (p c : Int) (v : Value) (R : List (List Int)) (w : World) (h : RowsI w v R) :
    Calls Try.prog 12 #[.agg #[.int .i64 p, .int .i64 c, v]] w fun e w' => (codE p c R ≠ 0 → e = .returned (.tuple #[.slice none 0 0, .int .i64 (codE p c R)])) ∧ (∀ P C : Nat, codE p c R = 0 → p = P → c = C → ∃ u, e = .returned (.tuple #[u, .int .i64 0]) ∧ RkZ w' u (2 ^ C) (ctS P (redL P C R).length (rowF (redL P C R)) (P ^ (redL P C R).length))) ∧ Below w.heap.size w w' := by
  obtain ⟨w0, hw0⟩ : ∃ w0, w.alloc (.cells #[.int .i64 p, .int .i64 c, v] 24) = w0 := ⟨_, rfl⟩
  have B0 : Hid (Below w.heap.size w w0) := by rw [← hw0]; exact (Below.refl _ _).alloc (Nat.le_refl _) _
  have X0 : Hid (w0.heap[w.heap.size]? = some (.cells #[.int .i64 p, .int .i64 c, v] 24 (0, 0))) := by rw [← hw0]; exact World.alloc_heap_new w _
  have WA := hid (words_any p c v R w0 (h.below B0.out))
  obtain ⟨x0, x1, x2⟩ := three_cells X0.out
  clear h
  by_cases hE : codE p c R = 0
  rotate_left
  · obtain ⟨E, hEe⟩ : ∃ E, codE p c R = E := ⟨_, rfl⟩
    rw [hEe] at hE WA ⊢
    have hq1 : (E != 0) = true := by rw [bne_iff_ne]; exact hE
    have HE := hid hE
    clear hE hEe
    go_enter Try.func12, Try.ntmps12
    go_wp2_with fail
    clear hw0
    refine WA.out.mono ?_
    rintro e w1 ⟨h1, -, hb1⟩
    have h9 := h1 HE.out
    subst h9
    have B1 := hid (B0.out.trans (hb1.mono B0.out.size))
    clear h1 hb1 WA
    go_wp2_with fail
    refine bodyPost_ret (v := .tuple #[.slice none 0 0, .int .i64 E]) (by simp [results, Try.f12, go_sem]) rfl ⟨fun _ => rfl, fun _ _ h => absurd h HE.out, B1.out⟩
  obtain ⟨P, C, rfl, rfl, hm, hP2⟩ := codE_ok hE
  have HZ := hid hE
  have hp := isP_pos hm.pr
  have hC8 : C ≤ 8 := hm.c8'
  have PL := hid (fun i => plS_lt (i := i) hm.pr hC8 (red_out hm))
  have hP0 : 0 < P ^ (redL P C R).length := Nat.pow_pos (by omega)
  obtain ⟨M, hM⟩ : ∃ M, P ^ (redL P C R).length = M := ⟨_, rfl⟩
  have GOAL : Hid (∀ (e : Ending) (w' : World), (∃ u, e = .returned (.tuple #[u, .int .i64 0]) ∧ RkZ w' u (2 ^ C) (ctS P (redL P C R).length (rowF (redL P C R)) M)) → Below w.heap.size w w' → (codE P C R ≠ 0 → e = .returned (.tuple #[.slice none 0 0, .int .i64 (codE P C R)])) ∧ (∀ P' C' : Nat, codE P C R = 0 → (P : Int) = P' → (C : Int) = C' → ∃ u, e = .returned (.tuple #[u, .int .i64 0]) ∧ RkZ w' u (2 ^ C') (ctS P' (redL P' C' R).length (rowF (redL P' C' R)) (P' ^ (redL P' C' R).length))) ∧ Below w.heap.size w w') := fun e w' h1 h2 => ⟨fun h3 => absurd HZ.out h3, fun P' C' _ e1 e2 => by
    have e3 : P' = P := by omega
    have e4 : C' = C := by omega
    subst e3
    subst e4
    rw [hM]
    exact h1, h2⟩
  have WB : Hid (Calls Try.prog 20 #[.agg #[.int .i64 P, .int .i64 C, v]] w0 fun e w' => ∃ u, e = .returned (.tuple #[u, .int .i64 0]) ∧ OwnW w0.heap.size w' u P (redL P C R).length (rowF (redL P C R)) M ∧ Below w0.heap.size w0 w') := WA.out.mono fun e w' ⟨_, h2, h3⟩ => by
    obtain ⟨u, e1, e2⟩ := h2 P C HZ.out rfl rfl
    rw [hM] at e2
    exact ⟨u, e1, e2, h3⟩
  rw [hM] at hP0 hP2
  clear WA hM hE hm
  suffices HH : Calls Try.prog 12 #[.agg #[.int .i64 P, .int .i64 C, v]] w fun e w' => (∃ u, e = .returned (.tuple #[u, .int .i64 0]) ∧ RkZ w' u (2 ^ C) (ctS P (redL P C R).length (rowF (redL P C R)) M)) ∧ Below w.heap.size w w' from HH.mono fun e w' h => GOAL.out e w' h.1 h.2
  clear GOAL
  generalize redL P C R = RL at *
  generalize rowF RL = G at *
  generalize RL.length = k at *
  obtain ⟨T, HT, hT2, hTw⟩ : ∃ T : Nat, Hid (T = 2 ^ C) ∧ T ≤ 256 ∧ wrap64 (2 ^ C) = (T : Int) := ⟨2 ^ C, rfl, (pow_wrap _ hC8).2, (pow_wrap _ hC8).1⟩
  rw [← HT.out]
  have HPL : Hid (∀ i, plS P k G i < T) := fun i => by rw [HT.out]; exact (PL.out i).2
  have hmk := fun w => run_make_row' (P := Try.prog) 28 3 (.int .i64 0) 8 Try.underlying28 Try.infoInt rfl .i64 .i64 T (by omega) (by omega) w
  clear PL HZ
  go_enter Try.func12, Try.ntmps12
  go_wp2_with fail
  clear hw0
  refine WB.out.mono ?_
  rintro e w1 ⟨u, rfl, ho, hb1⟩
  obtain ⟨gb, gc, rfl, -, hgb, hgcell⟩ := ho.form hP0
  have OC : Hid (∀ W, Below w1.heap.size w1 W → ∀ i, i < M → ∀ r, r < 8 → W.cell? ⟨gb, i * 8 + r, none⟩ = some (.int .i64 (wrdF P k G i r : Nat))) := fun W hW i hi r hr => (hW.cell (p := ⟨gb, i * 8 + r, none⟩) hgb).trans (hgcell i hi r hr)
  clear hgcell hgb
  have B1 := hid (B0.out.trans (hb1.mono B0.out.size))
  have X1 := hid (box_keep X0.out hb1)
  have O1 := hid ho
  obtain ⟨z0, z1, z2⟩ := three_cells X1.out
  have tb := TblZ.new w1 T 3
  have hB3 : Below w1.heap.size w1 (w1.alloc (.cells (madeCells #[.int .i64 0] T) 3)) := (Below.refl _ _).alloc (Nat.le_refl _) _
  obtain ⟨W1, hW1⟩ : ∃ W1, w1.alloc (.cells (madeCells #[.int .i64 0] T) 3) = W1 := ⟨_, rfl⟩
  rw [hW1] at tb hB3
  have HTB := hid tb
  have HB3 := hid hB3
  have hC0 : ¬ (C : Int) < 0 := by omega
  clear hb1 ho tb hB3 WB
  go_wp2_with fail
  rw [hTw]
  clear hW1 hmk hTw z0 z1 z2 O1
  have HB1 := hid (B1.out.trans (HB3.out.mono B1.out.size))
  go_loopw [23] (fun i W => ∃ j : Nat, j ≤ M ∧ i = .int .i64 j ∧ Hid (TblZ w1.heap.size W T (ctS P k G j)) ∧ Hid (Below w1.heap.size W1 W)) (fun i _ => M - (intOf i).toNat)
  case atStart => exact ⟨0, Nat.zero_le _, rfl, HTB.out.congr fun i _ => ctS_zero P k G i, Below.refl _ _⟩
  case round =>
    obtain ⟨j, hj, rfl, HT2, HW⟩ := hrel
    by_cases hlt : j < M
    · have hji : (j : Int) < (M : Int) := by omega
      have HOC := OC.out wr (HB3.out.trans HW.out) j hlt
      have c0 := HOC 0 (by omega)
      have c1 := HOC 1 (by omega)
      have c2 := HOC 2 (by omega)
      have c3 := HOC 3 (by omega)
      have c4 := HOC 4 (by omega)
      have c5 := HOC 5 (by omega)
      have c6 := HOC 6 (by omega)
      have c7 := HOC 7 (by omega)
      rw [Nat.add_zero] at c0
      have ST := hid (ctS_succ P k G j)
      have hsT := HPL.out j
      have SD : Hid (plS P k G j = plN (wrdF P k G j) 8) := rfl
      obtain ⟨s, hs⟩ : ∃ s, plS P k G j = s := ⟨_, rfl⟩
      rw [hs] at ST hsT SD
      obtain ⟨F, hF⟩ : ∃ F, wrdF P k G j = F := ⟨_, rfl⟩
      rw [hF] at SD c0 c1 c2 c3 c4 c5 c6 c7
      have cb := ctS_le P k G j s
      obtain ⟨z, hz⟩ : ∃ z, ctS P k G j s = z := ⟨_, rfl⟩
      rw [hz] at cb
      have HZZ := hid hz
      obtain ⟨⟨y0, y1, y2, y3⟩, y4, y5, y6, y7⟩ := (WdAt.new wr F).eight
      have PC := hid (places_any F (wr.alloc (.cells (wdC F) 46)))
      have BA : Hid (Below wr.heap.size wr (wr.alloc (.cells (wdC F) 46))) := (Below.refl _ _).alloc (Nat.le_refl _) _
      rw [← SD.out] at PC
      unfold wdV wdC at PC
      unfold wdC at BA y0 y1 y2 y3 y4 y5 y6 y7
      have HJL := hid hlt
      have hsi : (s : Int) < (T : Int) := by omega
      have hwz : IntKind.i64.wrap (z + 1) = z + 1 := IntWalk.i64_in _ (by omega)
      have hk1 : w1.heap.size < wr.heap.size := HT2.out.size
      clear HOC hs hF hz hlt
      go_wp2_with fail
      refine PC.out.mono ?_
      rintro e w3 ⟨rfl, hb3⟩
      have hb4 := BA.out.trans (hb3.mono BA.out.size)
      have T3 := HT2.out.below hb4
      have q1 := T3.cell s hsT
      have q2 := T3.frozen s
      rw [HZZ.out] at q1
      have T4 := hid (T3.set (f' := ctS P k G (j + 1)) s (z + 1) hsT fun i _ => by
        rw [ST.out i]
        by_cases e : s = i
        · subst e; rw [if_pos rfl, if_pos rfl, HZZ.out]
        · rw [if_neg e, if_neg e])
      have F4 := hid ((HW.out.trans (hb4.mono (Nat.le_of_lt hk1))).setCell (p := ⟨w1.heap.size, s, none⟩) (Nat.le_refl _) (.int .i64 (z + 1)))
      clear hb3 hb4 T3 PC y0 y1 y2 y3 y4 y5 y6 y7
      go_wp2_with fail
      go_roundw
      case rel => exact ⟨j + 1, HJL.out, by go_num, T4.out, F4.out⟩
      case measure => have := HJL.out; simp [intOf]; omega
    · obtain rfl : j = M := by omega
      have hn : ¬ (j : Int) < (j : Int) := by omega
      have F5 := hid (HB1.out.trans (HW.out.mono (by have := B1.out.size; omega)))
      go_wp2_with fail
      refine bodyPost_ret (v := .tuple #[.slice (some ⟨w1.heap.size, 0, none⟩) T T, .int .i64 0]) (by simp [results, Try.f12, go_sem]) rfl ⟨⟨_, rfl, HT2.out.rkZ⟩, F5.out⟩
end Go.Proofs.Ytcncaaeofcmefaa
