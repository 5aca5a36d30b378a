/- minors.ofIndependents, for whatever function answers as p does. -/
import Derived.Test.YtlffapijdjcogabEq
import Derived.Test.YtlffapijdjcogabOldN
import Derived.Test.YtlffapijdjcogabQBel
namespace Go.Proofs.Ytlffapijdjcogab
open Go.RowKit

theorem ofIndQ_ok (s bR bI g q T : Nat) (cs : Array Value) (p : Nat → Bool) (w0 w : World) (hs : s < T) (hT : T ≤ 256) (eg : Enters g) (hg : AnswersTo w0.heap.size w0 g cs T p) (hb : Below w0.heap.size w0 w)
    (hR : w.cell? ⟨bR, 0, none⟩ = some (.int .i64 q)) (hI : w.cell? ⟨bI, 0, none⟩ = some (.func (.func g) #[] cs)) :
    Calls Try.prog 65 #[.int .i64 s, .pointer (some ⟨bR, 0, none⟩), .pointer (some ⟨bI, 0, none⟩)] w fun e w' => e = .returned (.bool (pop s == q && p s)) ∧ Below w.heap.size w w' := by
  have HS := hid (fun w' => size_any s w' (by omega))
  have hR' : ∀ x : Later w, x.now.cell? ⟨bR, 0, none⟩ = some (.int .i64 q) := fun x => (x.kept.cell (p := ⟨bR, 0, none⟩) (World.block_lt_of_cell? w _ hR)).trans hR
  have hI' : ∀ x : Later w, x.now.cell? ⟨bI, 0, none⟩ = some (.func (.func g) #[] cs) := fun x => (x.kept.cell (p := ⟨bI, 0, none⟩) (World.block_lt_of_cell? w _ hI)).trans hI
  have HG := hid (fun x : Later w => hg s hs x.now (hb.trans (x.kept.mono hb.size)) (Nat.le_trans hb.size x.kept.size))
  clear hg hR hI
  unfold Enters at eg
  generalize pop s = y at *
  by_cases hy : y = q
  · subst hy
    have hy' : ((y : Int) == (y : Int)) = true := by simp
    have hy2 : (y == y) = true := by simp
    rw [hy2]
    go_enter Try.func65, Try.ntmps65
    go_wp2_with fail
    refine region_later (by kernel_rfl) (by kernel_rfl) ?_
    repeat (go_big_quiet_step ((first
      | (go_at_call 49; refine (HS.out _).mono ?_; rintro e w' ⟨rfl, rfl⟩; exact ⟨rfl, Later.on _ (Below.refl _ _)⟩)
      | (refine (HG.out _).mono ?_; rintro e w' ⟨rfl, hb9⟩; exact ⟨rfl, Later.on _ hb9⟩))))
    refine wpQuiet_nil ?_
    intro w6 hw'
    obtain ⟨⟨y6, hb6⟩, hw''⟩ := hw'
    dsimp only at hw''
    subst hw''
    have HB := hid hb6
    clear hb6
    go_wp2_with fail
    go_ret
    exact ⟨rfl, HB.out⟩
  · have hy' : ((y : Int) == (q : Int)) = false := by rw [beq_eq_false_iff_ne]; omega
    have hy2 : (y == q) = false := by rw [beq_eq_false_iff_ne]; exact hy
    rw [hy2]
    go_enter Try.func65, Try.ntmps65
    go_wp2_with fail
    refine region_later (by kernel_rfl) (by kernel_rfl) ?_
    repeat (go_big_quiet_step ((go_at_call 49; refine (HS.out _).mono ?_; rintro e w' ⟨rfl, rfl⟩; exact ⟨rfl, Later.on _ (Below.refl _ _)⟩)))
    refine wpQuiet_nil ?_
    intro w6 hw'
    obtain ⟨⟨y6, hb6⟩, hw''⟩ := hw'
    dsimp only at hw''
    subst hw''
    have HB := hid hb6
    clear hb6
    go_wp2_with fail
    go_ret
    exact ⟨rfl, HB.out⟩

set_option maxHeartbeats 1600000 in
theorem ofInd_any (n g : Nat) (cs : Array Value) (p : Nat → Bool) (w : World) (hn : n ≤ 8) (eg : Enters g) (hg : AnswersTo w.heap.size w g cs (2 ^ n) p) :
    Calls Try.prog 41 #[.int .i64 n, .func (.func g) #[] cs] w fun e w' => ∃ r, e = .returned (.agg #[.int .i64 n, r]) ∧ Own w.heap.size w' r ((List.range (2 ^ n)).filter fun s => pop s == maxI p (2 ^ n) && p s) ∧ Below w.heap.size w w' := by
  have HG := hid hg
  clear hg
  have EG := hid eg
  unfold Enters at eg
  obtain ⟨T, HT, hT2, hT⟩ : ∃ T : Nat, Hid (T = 2 ^ n) ∧ T ≤ 256 ∧ wrap64 (2 ^ n) = (T : Int) := ⟨2 ^ n, rfl, (pow_wrap _ hn).2, (pow_wrap _ hn).1⟩
  rw [← HT.out] at HG ⊢
  go_enter Try.func41, Try.ntmps41
  go_wp2_with fail
  try rw [hT]
  have b0 := ((Boxed.new w 48 (.func (.func g) #[] cs)).alloc (.cells #[.int .i64 0, .slice none 0 0] 24)).alloc (.cells #[.int .i64 0] 3)
  have b1 : (((w.alloc (.cells #[.func (.func g) #[] cs] 48)).alloc (.cells #[.int .i64 0, .slice none 0 0] 24)).alloc (.cells #[.int .i64 0] 3)).heap[w.heap.size + 1]? = some (.cells #[.int .i64 0, .slice none 0 0] 24 (0, 0)) := by
    rw [Below.heap_alloc _ _ _ (by simp)]
    have := World.alloc_heap_new (w.alloc (.cells #[.func (.func g) #[] cs] 48)) (.cells #[.int .i64 0, .slice none 0 0] 24)
    rwa [World.size_alloc] at this
  have b2 := Boxed.new ((w.alloc (.cells #[.func (.func g) #[] cs] 48)).alloc (.cells #[.int .i64 0, .slice none 0 0] 24)) 3 (.int .i64 0)
  have hB0 : Below w.heap.size w (((w.alloc (.cells #[.func (.func g) #[] cs] 48)).alloc (.cells #[.int .i64 0, .slice none 0 0] 24)).alloc (.cells #[.int .i64 0] 3)) := (((Below.refl _ w).alloc (Nat.le_refl _) _).alloc (by simp) _).alloc (by simp; omega) _
  have hsz : (((w.alloc (.cells #[.func (.func g) #[] cs] 48)).alloc (.cells #[.int .i64 0, .slice none 0 0] 24)).alloc (.cells #[.int .i64 0] 3)).heap.size = w.heap.size + 3 := by simp
  rw [World.size_alloc, World.size_alloc] at b2
  revert b0 b1 b2 hB0 hsz
  generalize (((w.alloc (.cells #[.func (.func g) #[] cs] 48)).alloc (.cells #[.int .i64 0, .slice none 0 0] 24)).alloc (.cells #[.int .i64 0] 3)) = W0
  intro b0 b1 b2 hB0 hsz
  have H1 := hid b1
  have H0 := hid b0
  clear b0 b1
  go_loopw [10] (fun i wr => ∃ k : Nat, k ≤ T ∧ i = .int .i64 k ∧ Hid (Boxed wr (w.heap.size + 1 + 1) 3 (.int .i64 (maxI p k : Nat))) ∧ Hid (Below (w.heap.size + 2) W0 wr)) (fun i _ => T - (intOf i).toNat)
  case atStart => exact ⟨0, Nat.zero_le _, rfl, b2, Below.refl _ _⟩
  case round =>
    obtain ⟨k, hk, rfl, HR, HB⟩ := hrel
    have HW := hid (hB0.trans (HB.out.mono (by omega)))
    have hsw : w.heap.size + 3 ≤ wr.heap.size := by have := HB.out.size; omega
    have hf0 := (HB.out.cell (p := ⟨w.heap.size, 0, none⟩) (by show w.heap.size < _; omega)).trans H0.out.cell
    by_cases hlt : k < T
    · have G := hid (HG.out k hlt wr HW.out (by omega))
      have MS := hid (maxI_succ p k)
      rcases hq : p k with _ | _
      · have HQ := hid hq
        clear hq
        go_wp2_with fail
        refine G.out.mono ?_
        rw [HQ.out]
        rintro e w2 ⟨rfl, hb2⟩
        have R1 : Hid (Boxed w2 (w.heap.size + 1 + 1) 3 (.int .i64 (maxI p k : Nat))) := (hb2.block _ (by omega)).trans HR.out
        have R2 := hid (HB.out.trans (hb2.mono (by omega)))
        clear hb2
        go_wp2_with fail
        go_roundw
        case rel => exact ⟨k + 1, by omega, by go_num, by show Boxed _ _ _ _; rw [MS.out, HQ.out]; exact R1.out, R2⟩
        case measure => simp [intOf]; omega
      · have HQ := hid hq
        clear hq
        rw [HQ.out, if_pos rfl] at MS
        have hk8 : k < 256 := by omega
        go_wp2_with fail
        refine G.out.mono ?_
        rw [HQ.out]
        rintro e w2 ⟨rfl, hb2⟩
        have hbx : Boxed w2 (w.heap.size + 1 + 1) 3 (.int .i64 (maxI p k : Nat)) := (hb2.block _ (by omega)).trans HR.out
        have hcx := hbx.cell
        have hfx := hbx.frozen
        have R1 := hid hbx
        have R2 := hid (HB.out.trans (hb2.mono (by omega)))
        have HS := hid (fun w' => size_any k w' hk8)
        have FIN : Hid (∀ u : Nat, max (maxI p k) (pop k) = u → ∃ k_1 : Nat, k_1 ≤ T ∧ (Value.int IntKind.i64 ((k : Int) + 1)) = (Value.int IntKind.i64 (k_1 : Int)) ∧ Hid (Boxed (w2.setCell ⟨w.heap.size + 1 + 1, 0, none⟩ (.int .i64 (u : Nat))).drew (w.heap.size + 1 + 1) 3 (.int .i64 (maxI p k_1 : Nat))) ∧ Hid (Below (w.heap.size + 2) W0 (w2.setCell ⟨w.heap.size + 1 + 1, 0, none⟩ (.int .i64 (u : Nat))).drew)) := fun u hu => ⟨k + 1, by omega, by go_num, by show Boxed _ _ _ _; rw [MS.out, hu]; exact R1.out.set _, (R2.out.setCell (p := ⟨w.heap.size + 1 + 1, 0, none⟩) (Nat.le_refl _) _).drew⟩
        have hp8 := pop_le k hk8
        have hm8 : maxI p k ≤ 8 := maxI_le fun s hs _ => pop_le s (by omega)
        clear hb2 hbx
        generalize maxI p k = y at *
        generalize pop k = z at *
        go_wp2_with fail
        go_region_with (go_at_call 49; refine (HS.out _).mono ?_; rintro e w' ⟨rfl, rfl⟩)
        all_goals go_wp2_with fail
        all_goals rw [show (if y < z then (z : Int) else (y : Int)) = ((max y z : Nat) : Int) by split <;> omega]
        all_goals exact ⟨FIN.out _ rfl, by simp [intOf]; omega⟩
    · obtain rfl : k = T := by omega
      have SV := hid (Sieve_at n k 65 HT.out #[.pointer (some ⟨w.heap.size + 1 + 1, 0, none⟩), .pointer (some ⟨w.heap.size, 0, none⟩)] (fun s => pop s == maxI p k && p s) wr hn (fun args w => enters_of Try.func65 (by kernel_rfl) rfl args w)
        (fun x hx w1 hb1 _ => ofIndQ_ok x (w.heap.size + 1 + 1) w.heap.size g (maxI p k) k cs p w w1 hx hT2 EG.out HG.out (HW.out.trans (hb1.mono HW.out.size)) ((hb1.cell (p := ⟨w.heap.size + 1 + 1, 0, none⟩) (by show w.heap.size + 1 + 1 < _; omega)).trans HR.out.cell) ((hb1.cell (p := ⟨w.heap.size, 0, none⟩) (by show w.heap.size < _; omega)).trans hf0)))
      go_wp2_with fail
      refine SV.out.mono ?_
      rintro e w2 ⟨r, rfl, ho, hb2⟩
      have hx1 := (hb2.block (w.heap.size + 1) (by omega)).trans ((HB.out.block (w.heap.size + 1) (by omega)).trans H1.out)
      have HD0 := hid (HW.out.trans (hb2.mono HW.out.size))
      have HC := hid (set_two (x := .int .i64 n) (y := r) hx1)
      have HD := hid (below_two (b := w.heap.size + 1) (x := .int .i64 n) (y := r) HD0.out (by omega))
      have HII := hid ((ho.set2 (b := w.heap.size + 1) (x := .int .i64 n) (y := r) (by omega)).mono (by omega : w.heap.size ≤ _))
      obtain ⟨_, _, g2, g3⟩ := two_cells hx1
      obtain ⟨y2, y3, _, _⟩ := two_cells hx1
      have HF := hid (ownsRow_form' ho)
      obtain ⟨ra, rc, hr⟩ := HF.out
      subst hr
      clear hb2 ho hx1
      go_wp2_with fail
      obtain ⟨c0, c1⟩ := HC.out
      refine bodyPost_ret (v := .agg #[.int .i64 n, .slice ra _ rc]) ?_ rfl ⟨_, rfl, HII.out, HD.out⟩
      simp [results, Try.f41, go_sem, c0, c1]
end Go.Proofs.Ytlffapijdjcogab
