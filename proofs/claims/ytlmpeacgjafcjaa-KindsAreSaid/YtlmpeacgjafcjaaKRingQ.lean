/- kinds.hasRing. -/
import Derived.Test.YtlmpeacgjafcjaaPlainAll
import Derived.Test.YtlmpeacgjafcjaaFamsW
import Derived.Test.YtlmpeacgjafcjaaQBelW
import Derived.Test.YtlmpeacgjafcjaaEqQ
namespace Go.Proofs.Ytlmpeacgjafcjaa
open Go.RowKit

/-- v is a slice that holds the edges E. -/
def EdgesAt (w : World) (v : Value) (E : List (Nat × Nat)) : Prop := ∃ a cap, v = .slice a E.length cap ∧ E.length ≤ 8 ∧ (0 < E.length → ∃ b off, a = some ⟨b, off, none⟩ ∧ b < w.heap.size ∧ ∀ i, i < E.length → w.cell? ⟨b, off + i * 2, none⟩ = some (.int .i64 (ea E i : Nat)) ∧ w.cell? ⟨b, off + i * 2 + 1, none⟩ = some (.int .i64 (eb E i : Nat)))
theorem EdgesAt.below {w w' : World} {v : Value} {E : List (Nat × Nat)} (h : EdgesAt w v E) (hb : Below w.heap.size w w') : EdgesAt w' v E := by
  obtain ⟨a, cap, h1, h2, hc⟩ := h
  refine ⟨a, cap, h1, h2, fun hn => ?_⟩
  obtain ⟨b, off, h3, h4, h5⟩ := hc hn
  exact ⟨b, off, h3, Nat.lt_of_lt_of_le h4 hb.size, fun i hi => ⟨(hb.cell (p := ⟨b, off + i * 2, none⟩) h4).trans (h5 i hi).1, (hb.cell (p := ⟨b, off + i * 2 + 1, none⟩) h4).trans (h5 i hi).2⟩⟩
def boxG (w : World) (n : Int) (v : Value) : World := (w.alloc (.cells #[.int .i64 n, v] 24)).alloc (.cells #[.int .i64 0, .int .i64 0, .int .i64 0, .int .i64 0, .int .i64 0, .int .i64 0, .int .i64 0] 60)
theorem boxG_below (w : World) (n : Int) (v : Value) : Below w.heap.size w (boxG w n v) := ((Below.refl _ _).alloc (Nat.le_refl _) _).alloc (by simp) _
theorem boxG_size (w : World) (n : Int) (v : Value) : (boxG w n v).heap.size = w.heap.size + 2 := by unfold boxG; simp
theorem boxG_g (w : World) (n : Int) (v : Value) : (boxG w n v).heap[w.heap.size]? = some (.cells #[.int .i64 n, v] 24 (0, 0)) := by
  unfold boxG
  rw [Below.heap_alloc _ _ _ (by simp)]
  exact World.alloc_heap_new w _
theorem boxG_tbl (w : World) (n : Int) (v : Value) : Tbl (w.heap.size + 1) (boxG w n v) 7 (fun _ => 0) := by
  have h : (boxG w n v).heap[w.heap.size + 1]? = some (.cells #[.int .i64 0, .int .i64 0, .int .i64 0, .int .i64 0, .int .i64 0, .int .i64 0, .int .i64 0] 60 (0, 0)) := by
    unfold boxG
    have := World.alloc_heap_new (w.alloc (.cells #[.int .i64 n, v] 24)) (.cells #[.int .i64 0, .int .i64 0, .int .i64 0, .int .i64 0, .int .i64 0, .int .i64 0, .int .i64 0] 60)
    rwa [World.size_alloc] at this
  refine ⟨fun i hi => ?_, fun i => ?_, by rw [boxG_size]; omega⟩
  · rcases (by omega : i = 0 ∨ i = 1 ∨ i = 2 ∨ i = 3 ∨ i = 4 ∨ i = 5 ∨ i = 6) with rfl | rfl | rfl | rfl | rfl | rfl | rfl <;> simp [World.cell?, h]
  · simp [World.frozen?, h]
theorem Tbl.belowK {g : Nat} {w w' : World} {T : Nat} {f : Nat → Nat} (h : Tbl g w T f) (hb : Below w.heap.size w w') : Tbl g w' T f := by
  refine ⟨fun i hi => (hb.cell (p := ⟨g, i, none⟩) h.size).trans (h.cell i hi), fun i => ?_, Nat.lt_of_lt_of_le h.size hb.size⟩
  have h1 := h.frozen i
  have h2 := hb.block g h.size
  simp only [World.frozen?] at h1 ⊢
  rw [h2]
  exact h1
def mrg (f : Nat → Nat) (a b v : Nat) : Nat := if f v = b then a else f v
theorem parts_mrg {E : List (Nat × Nat)} {s k v : Nat} (hb : s.testBit k = true) (hv : v < 7) : (parts E s (k + 1)).getD v 0 = mrg (fun v => (parts E s k).getD v 0) ((parts E s k).getD (ea E k) 0) ((parts E s k).getD (eb E k) 0) v := by
  have e : parts E s (k + 1) = if s.testBit k = true then (parts E s k).map fun x => if x = (parts E s k).getD (eb E k) 0 then (parts E s k).getD (ea E k) 0 else x else parts E s k := rfl
  rw [e, if_pos hb, map_getD _ (by rw [parts_len]; exact hv)]
  rfl
theorem parts_stay {E : List (Nat × Nat)} {s k : Nat} (hb : s.testBit k = false) : parts E s (k + 1) = parts E s k := by
  have e : parts E s (k + 1) = if s.testBit k = true then (parts E s k).map fun x => if x = (parts E s k).getD (eb E k) 0 then (parts E s k).getD (ea E k) 0 else x else parts E s k := rfl
  rw [e, if_neg (by rw [hb]; simp)]
theorem parts_zero (E : List (Nat × Nat)) (s v : Nat) (hv : v < 7) : (parts E s 0).getD v 0 = v := by
  show (List.range 7).getD v 0 = v
  simp [List.getD, hv]
theorem ring_no {E : List (Nat × Nat)} {s : Nat} (h : ∀ i, i < E.length → ringAt E s i = false) : ringB E s = false := by
  unfold ringB
  rw [List.any_eq_false]
  intro i hi
  rw [h i (List.mem_range.1 hi)]
  simp
theorem ring_yes {E : List (Nat × Nat)} {s k : Nat} (hk : k < E.length) (h : ringAt E s k = true) : ringB E s = true := by
  unfold ringB
  exact List.any_eq_true.2 ⟨k, List.mem_range.2 hk, h⟩
theorem shr_fact : ∀ s : Nat, s < 256 → ∀ i : Nat, i < 8 → (bits BinOp.and IntKind.i64 ((s : Int) / 2 ^ i) 1 == 0) = !s.testBit i := by decide +kernel

set_option maxRecDepth 20000 in
set_option maxHeartbeats 4000000 in
theorem hasRing_any (n : Int) (v : Value) (E : List (Nat × Nat)) (s : Nat) (w : World) (hs : s < 256) (hE : ∀ j, j < E.length → ea E j < 7 ∧ eb E j < 7) (h : EdgesAt w v E) :
    Calls Try.prog 17 #[.agg #[.int .i64 n, v], .int .i64 s] w fun e w' => e = .returned (.bool (ringB E s)) ∧ Below w.heap.size w w' := by
  have HE := hid h
  obtain ⟨a, cap, rfl, hlen, hc⟩ := h
  have HB0 := hid (boxG_below w n (.slice a E.length cap))
  have HG := hid (boxG_g w n (.slice a E.length cap))
  have HT := hid (boxG_tbl w n (.slice a E.length cap))
  have HSZ := hid (boxG_size w n (.slice a E.length cap))
  go_enter Try.func17, Try.ntmps17
  go_wp2_with fail
  change Code.wp _ _ _ _ (boxG w n (.slice a E.length cap))
  revert HB0 HG HT HSZ
  generalize boxG w n (.slice a E.length cap) = W0
  intro HB0 HG HT HSZ
  have hsz := HSZ.out
  go_loopw [12] (fun i wr => ∃ k : Nat, k ≤ 7 ∧ i = .int .i64 k ∧ Hid (Tbl (w.heap.size + 1) wr 7 (fun v => if v < k then v else 0)) ∧ Hid (Below (w.heap.size + 1) W0 wr)) (fun i _ => 7 - (intOf i).toNat)
  case atStart => exact ⟨0, Nat.zero_le _, rfl, HT.out.congr fun i _ => by simp, Below.refl _ _⟩
  case round =>
    obtain ⟨k, hk, rfl, TB, HW⟩ := hrel
    by_cases hlt : k < 7
    · have hki : (k : Int) < 7 := by omega
      have hfz := TB.out.frozen k
      have hcl := TB.out.cell k hlt
      have T2 := hid (TB.out.set (f' := fun v => if v < k + 1 then v else 0) k k hlt fun i hi => by
        by_cases e : i = k
        · subst e; simp
        · have : (i < k + 1) = (i < k) := by rw [eq_iff_iff]; omega
          simp [this, Ne.symm e])
      have B2 := hid (HW.out.setCell (p := ⟨w.heap.size + 1, k, none⟩) (Nat.le_refl _) (.int .i64 k))
      go_wp2_with fail
      go_roundw
      case rel => exact ⟨k + 1, by omega, by go_num, T2, B2⟩
      case measure => simp [intOf]; omega
    · obtain rfl : k = 7 := by omega
      have hg0 := (HW.out.block w.heap.size (by omega)).trans HG.out
      obtain ⟨z0, z1, _, _⟩ := two_cells hg0
      have HW7 := hid HW.out
      have T7 : Hid (Tbl (w.heap.size + 1) wr 7 (fun v => (parts E s 0).getD v 0)) := TB.out.congr fun i hi => by rw [parts_zero E s i hi, if_pos hi]
      have HCE : Hid (∀ W, Below w.heap.size w W → ∀ k, k < E.length → ∃ b off, a = some ⟨b, off, none⟩ ∧ W.cell? ⟨b, off + k * 2, none⟩ = some (.int .i64 (ea E k : Nat)) ∧ W.cell? ⟨b, off + k * 2 + 1, none⟩ = some (.int .i64 (eb E k : Nat))) := fun W hW k hk => by
        obtain ⟨b, off, h3, h4, h5⟩ := hc (by omega)
        exact ⟨b, off, h3, (hW.cell (p := ⟨b, off + k * 2, none⟩) h4).trans (h5 k hk).1, (hW.cell (p := ⟨b, off + k * 2 + 1, none⟩) h4).trans (h5 k hk).2⟩
      have hs7 := HW.out.size
      clear hc TB HT
      go_wp2_with fail
      go_loopw [22] (fun i w2 => ∃ k : Nat, k ≤ E.length ∧ i = .int .i64 k ∧ Hid (Tbl (w.heap.size + 1) w2 7 (fun v => (parts E s k).getD v 0)) ∧ Hid (Below (w.heap.size + 1) W0 w2) ∧ Hid (∀ i, i < k → ringAt E s i = false)) (fun i _ => E.length - (intOf i).toNat)
      case atStart => exact ⟨0, Nat.zero_le _, rfl, T7, HW7, fun i hi => by omega⟩
      case round =>
        rename World => w2
        obtain ⟨k, hk, rfl, TB, HW2, NR⟩ := hrel
        have hs2 := HW2.out.size
        by_cases hlt : k < E.length
        · have hki : (k : Int) < (E.length : Int) := by omega
          have HB2 := hid (HB0.out.trans (HW2.out.mono (by omega : w.heap.size ≤ w.heap.size + 1)))
          obtain ⟨b, off, rfl, cA, cB⟩ := HCE.out w2 HB2.out k hlt
          obtain ⟨hA7, hB7⟩ := hE k hlt
          have SF := shr_fact s hs k (by omega)
          have RA : Hid (ringAt E s k = (s.testBit k && (parts E s k).getD (ea E k) 0 == (parts E s k).getD (eb E k) 0)) := rfl
          have hkw := below_alloc w2 (.cells #[.int .i64 (ea E k : Nat), .int .i64 (eb E k : Nat)] 35)
          have TB1 := hid (TB.out.belowK hkw)
          have BW1 := hid (HW2.out.trans (hkw.mono (by omega : w.heap.size + 1 ≤ w2.heap.size)))
          have hnew := World.alloc_heap_new w2 (.cells #[.int .i64 (ea E k : Nat), .int .i64 (eb E k : Nat)] 35)
          obtain ⟨n0, n1, _, _⟩ := two_cells hnew
          clear hkw hnew
          rcases hbit : s.testBit k with _ | _
          · rw [hbit] at SF RA
            have PS := hid (parts_stay (E := E) hbit)
            go_wp2_with fail
            go_roundw
            case rel => exact ⟨k + 1, by omega, by go_num, by show Tbl _ _ _ _; rw [PS.out]; exact TB1.out, BW1, fun i hi => by
              by_cases e : i = k
              · subst e; rw [RA.out]; rfl
              · exact NR.out i (by omega)⟩
            case measure => simp [intOf]; omega
          · rw [hbit] at SF RA
            have PM := hid (fun v hv => parts_mrg (E := E) (v := v) hbit hv)
            have pA := TB1.out.cell (ea E k) hA7
            have pB := TB1.out.cell (eb E k) hB7
            have hAi : ((ea E k : Nat) : Int) < 7 := by omega
            have hBi : ((eb E k : Nat) : Int) < 7 := by omega
            generalize ea E k = A at *
            generalize eb E k = B at *
            generalize hPA : (parts E s k).getD A 0 = PA at *
            generalize hPB : (parts E s k).getD B 0 = PB at *
            have W1s : (w2.alloc (.cells #[.int .i64 (A : Nat), .int .i64 (B : Nat)] 35)).heap.size = w2.heap.size + 1 := by simp
            by_cases hab : PA = PB
            · have hab' : ((PA : Int) == (PB : Int)) = true := by rw [hab]; simp
              have F : Hid (ringB E s = true) := ring_yes hlt (by rw [RA.out, hab]; simp)
              have HBF := hid (HB0.out.trans (BW1.out.mono (by omega : w.heap.size ≤ w.heap.size + 1)))
              go_wp2_with fail
              revert TB1 BW1 n0 n1 pA pB W1s HBF
              generalize (w2.alloc (.cells #[.int .i64 (A : Nat), .int .i64 (B : Nat)] 35)) = W1
              intro TB1 BW1 n0 n1 pA pB W1s HBF
              go_quiet (fail)
              go_wp2_with fail
              go_ret
              exact ⟨ret_bool F.out.symm, below_drewN HBF.out _⟩
            · have hab' : ((PA : Int) == (PB : Int)) = false := by rw [beq_eq_false_iff_ne]; omega
              have RF : Hid (ringAt E s k = false) := by show _ = _; rw [RA.out]; simp [hab]
              go_wp2_with fail
              revert TB1 BW1 n0 n1 pA pB W1s
              generalize (w2.alloc (.cells #[.int .i64 (A : Nat), .int .i64 (B : Nat)] 35)) = W1
              intro TB1 BW1 n0 n1 pA pB W1s
              go_quiet (fail)
              have TBq := hid (TB1.out.drewN nq)
              have BWq := hid (below_drewN BW1.out nq)
              clear n0 n1 pA pB TB1 BW1
              go_wp2_with fail
              generalize W1.drewN nq = W5 at *
              go_loopw [43] (fun i w6 => ∃ j : Nat, j ≤ 7 ∧ i = .int .i64 j ∧ Hid (Tbl (w.heap.size + 1) w6 7 (fun v => if v < j then mrg (fun v => (parts E s k).getD v 0) PA PB v else (parts E s k).getD v 0)) ∧ Hid (Below (w.heap.size + 1) W0 w6)) (fun i _ => 7 - (intOf i).toNat)
              case atStart => exact ⟨0, Nat.zero_le _, rfl, TBq.out.congr fun i _ => by simp, BWq⟩
              case round =>
                rename World => w6
                obtain ⟨j, hj, rfl, TB6, HW6⟩ := hrel
                by_cases hj7 : j < 7
                · have hji : (j : Int) < 7 := by omega
                  have hcl := TB6.out.cell j hj7
                  have hfz := TB6.out.frozen j
                  rw [if_neg (by omega : ¬ j < j)] at hcl
                  have SET : Hid (∀ x, mrg (fun v => (parts E s k).getD v 0) PA PB j = x → ∀ w7, Tbl (w.heap.size + 1) w7 7 (fun v => if j = v then x else if v < j then mrg (fun v => (parts E s k).getD v 0) PA PB v else (parts E s k).getD v 0) → Tbl (w.heap.size + 1) w7 7 (fun v => if v < j + 1 then mrg (fun v => (parts E s k).getD v 0) PA PB v else (parts E s k).getD v 0)) := fun x hx w7 h => h.congr fun v _ => by
                    by_cases e : j = v
                    · subst e; rw [if_pos (by omega : j < j + 1), if_pos rfl]; exact hx
                    · have : (v < j + 1) = (v < j) := by rw [eq_iff_iff]; omega
                      simp [this, e]
                  have MR : Hid (mrg (fun v => (parts E s k).getD v 0) PA PB j = if (parts E s k).getD j 0 = PB then PA else (parts E s k).getD j 0) := rfl
                  generalize (parts E s k).getD j 0 = y at *
                  by_cases hy : y = PB
                  · have hy' : ((y : Int) == (PB : Int)) = true := by rw [hy]; simp
                    rw [if_pos hy] at MR
                    have T8 := hid (SET.out PA MR.out _ (TB6.out.set (f' := fun v => if j = v then PA else if v < j then mrg (fun v => (parts E s k).getD v 0) PA PB v else (parts E s k).getD v 0) j PA hj7 fun i _ => rfl))
                    have B8 := hid (HW6.out.setCell (p := ⟨w.heap.size + 1, j, none⟩) (Nat.le_refl _) (.int .i64 PA))
                    go_wp2_with fail
                    go_roundw
                    case rel => exact ⟨j + 1, by omega, by go_num, T8, B8⟩
                    case measure => simp [intOf]; omega
                  · have hy' : ((y : Int) == (PB : Int)) = false := by rw [beq_eq_false_iff_ne]; omega
                    rw [if_neg hy] at MR
                    have T8 := hid (SET.out y MR.out _ (TB6.out.congr (f' := fun v => if j = v then y else if v < j then mrg (fun v => (parts E s k).getD v 0) PA PB v else (parts E s k).getD v 0) fun i hi => by
                      by_cases e : j = i
                      · subst e
                        have h1 := TB6.out.cell j hj7
                        rw [hcl] at h1
                        simp at h1
                        simp
                        omega
                      · simp [e]))
                    go_wp2_with fail
                    go_roundw
                    case rel => exact ⟨j + 1, by omega, by go_num, T8, HW6⟩
                    case measure => simp [intOf]; omega
                · have hji : ¬ (j : Int) < 7 := by omega
                  have T8 : Hid (Tbl (w.heap.size + 1) w6 7 (fun v => (parts E s (k + 1)).getD v 0)) := TB6.out.congr fun v hv => by
                    rw [if_pos (by omega : v < j), PM.out v hv]
                  go_wp2_with fail
                  go_roundw
                  case rel => exact ⟨k + 1, by omega, by go_num, T8, HW6, fun i hi => by
                    by_cases e : i = k
                    · subst e; exact RF.out
                    · exact NR.out i (by omega)⟩
                  case measure => simp [intOf]; omega
        · have NRA : Hid (ringB E s = false) := ring_no fun i hi => NR.out i (by omega)
          have hki : ¬ (k : Int) < (E.length : Int) := by omega
          have HB2 := hid (HB0.out.trans (HW2.out.mono (by omega : w.heap.size ≤ w.heap.size + 1)))
          go_wp2_with fail
          go_ret
          exact ⟨ret_bool NRA.out.symm, HB2.out⟩
end Go.Proofs.Ytlmpeacgjafcjaa
