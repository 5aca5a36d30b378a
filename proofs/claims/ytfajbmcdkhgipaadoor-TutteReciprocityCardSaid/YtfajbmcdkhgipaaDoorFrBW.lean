/- kinds.hasRing. -/
import Derived.Test.YtfajbmcdkhgipaaDoorPlainAll
import Derived.Test.YtfajbmcdkhgipaaDoorFamsW
import Derived.Test.YtfajbmcdkhgipaaDoorQBelQ
import Derived.Test.YtfajbmcdkhgipaaDoorEqQ
import Derived.Test.YtfajbmcdkhgipaaDoorOwnW
import Derived.Test.YtfajbmcdkhgipaaDoorRefQ
import Derived.Test.YtfajbmcdkhgipaaDoorPlainAll1
namespace Go.Proofs.YtfajbmcdkhgipaaDoor
open Go.RowKit

/-- v is a slice that holds the edges E. -/
def EdgesAt (w : World) (v : Value) (E : List (Nat × Nat)) : Prop := ∃ a cap, v = .slice a E.length cap ∧ E.length ≤ 8 ∧ (0 < E.length → ∃ b off, a = some ⟨b, off, none⟩ ∧ b < w.heap.size ∧ ∀ i, i < E.length → w.cell? ⟨b, off + i * 2, none⟩ = some (.int .i64 (ea E i : Nat)) ∧ w.cell? ⟨b, off + i * 2 + 1, none⟩ = some (.int .i64 (eb E i : Nat)))
theorem EdgesAt.below {w w' : World} {v : Value} {E : List (Nat × Nat)} (h : EdgesAt w v E) (hb : Below w.heap.size w w') : EdgesAt w' v E := by
  obtain ⟨a, cap, h1, h2, hc⟩ := h
  refine ⟨a, cap, h1, h2, fun hn => ?_⟩
  obtain ⟨b, off, h3, h4, h5⟩ := hc hn
  exact ⟨b, off, h3, Nat.lt_of_lt_of_le h4 hb.size, fun i hi => ⟨(hb.cell (p := ⟨b, off + i * 2, none⟩) h4).trans (h5 i hi).1, (hb.cell (p := ⟨b, off + i * 2 + 1, none⟩) h4).trans (h5 i hi).2⟩⟩
def boxG (w : World) (n : Int) (v : Value) : World := (w.alloc (.cells #[.int .i64 n, v] 24)).alloc (.cells #[.int .i64 0, .int .i64 0, .int .i64 0, .int .i64 0, .int .i64 0, .int .i64 0, .int .i64 0] 76)
theorem boxG_below (w : World) (n : Int) (v : Value) : Below w.heap.size w (boxG w n v) := ((Below.refl _ _).alloc (Nat.le_refl _) _).alloc (by simp) _
theorem boxG_size (w : World) (n : Int) (v : Value) : (boxG w n v).heap.size = w.heap.size + 2 := by unfold boxG; simp
theorem boxG_g (w : World) (n : Int) (v : Value) : (boxG w n v).heap[w.heap.size]? = some (.cells #[.int .i64 n, v] 24 (0, 0)) := by
  unfold boxG
  rw [Below.heap_alloc _ _ _ (by simp)]
  exact World.alloc_heap_new w _
theorem boxG_tbl (w : World) (n : Int) (v : Value) : Tbl (w.heap.size + 1) (boxG w n v) 7 (fun _ => 0) := by
  have h : (boxG w n v).heap[w.heap.size + 1]? = some (.cells #[.int .i64 0, .int .i64 0, .int .i64 0, .int .i64 0, .int .i64 0, .int .i64 0, .int .i64 0] 76 (0, 0)) := by
    unfold boxG
    have := World.alloc_heap_new (w.alloc (.cells #[.int .i64 n, v] 24)) (.cells #[.int .i64 0, .int .i64 0, .int .i64 0, .int .i64 0, .int .i64 0, .int .i64 0, .int .i64 0] 76)
    rwa [World.size_alloc] at this
  refine ⟨fun i hi => ?_, fun i => ?_, by rw [boxG_size]; omega⟩
  · rcases (by omega : i = 0 ∨ i = 1 ∨ i = 2 ∨ i = 3 ∨ i = 4 ∨ i = 5 ∨ i = 6) with rfl | rfl | rfl | rfl | rfl | rfl | rfl <;> simp [World.cell?, h]
  · simp [World.frozen?, h]
theorem Tbl.belowK {g : Nat} {w w' : World} {T : Nat} {f : Nat → Nat} (h : Tbl g w T f) (hb : Below w.heap.size w w') : Tbl g w' T f := by
  refine ⟨fun i hi => (hb.cell (p := ⟨g, i, none⟩) h.size).trans (h.cell i hi), fun i => ?_, Nat.lt_of_lt_of_le h.size hb.size⟩
  have h1 := h.frozen i
  have h2 := hb.block g h.size
  simp only [World.frozen?] at h1 ⊢
  rw [h2]
  exact h1
def mrg (f : Nat → Nat) (a b v : Nat) : Nat := if f v = b then a else f v
theorem parts_mrg {E : List (Nat × Nat)} {s k v : Nat} (hb : s.testBit k = true) (hv : v < 7) : (parts E s (k + 1)).getD v 0 = mrg (fun v => (parts E s k).getD v 0) ((parts E s k).getD (ea E k) 0) ((parts E s k).getD (eb E k) 0) v := by
  have e : parts E s (k + 1) = if s.testBit k = true then (parts E s k).map fun x => if x = (parts E s k).getD (eb E k) 0 then (parts E s k).getD (ea E k) 0 else x else parts E s k := rfl
  rw [e, if_pos hb, map_getD _ (by rw [parts_len]; exact hv)]
  rfl
theorem parts_stay {E : List (Nat × Nat)} {s k : Nat} (hb : s.testBit k = false) : parts E s (k + 1) = parts E s k := by
  have e : parts E s (k + 1) = if s.testBit k = true then (parts E s k).map fun x => if x = (parts E s k).getD (eb E k) 0 then (parts E s k).getD (ea E k) 0 else x else parts E s k := rfl
  rw [e, if_neg (by rw [hb]; simp)]
theorem parts_zero (E : List (Nat × Nat)) (s v : Nat) (hv : v < 7) : (parts E s 0).getD v 0 = v := by
  show (List.range 7).getD v 0 = v
  simp [List.getD, hv]
theorem ring_no {E : List (Nat × Nat)} {s : Nat} (h : ∀ i, i < E.length → ringAt E s i = false) : ringB E s = false := by
  unfold ringB
  rw [List.any_eq_false]
  intro i hi
  rw [h i (List.mem_range.1 hi)]
  simp
theorem ring_yes {E : List (Nat × Nat)} {s k : Nat} (hk : k < E.length) (h : ringAt E s k = true) : ringB E s = true := by
  unfold ringB
  exact List.any_eq_true.2 ⟨k, List.mem_range.2 hk, h⟩
theorem shr_fact : ∀ s : Nat, s < 256 → ∀ i : Nat, i < 8 → (bits BinOp.and IntKind.i64 ((s : Int) / 2 ^ i) 1 == 0) = !s.testBit i := by decide +kernel

set_option maxRecDepth 20000 in
set_option maxHeartbeats 4000000 in
theorem hasRing_any (n : Int) (v : Value) (E : List (Nat × Nat)) (s : Nat) (w : World) (hs : s < 256) (hE : ∀ j, j < E.length → ea E j < 7 ∧ eb E j < 7) (h : EdgesAt w v E) :
    Calls Tryd.prog 30 #[.agg #[.int .i64 n, v], .int .i64 s] w fun e w' => e = .returned (.bool (ringB E s)) ∧ Below w.heap.size w w' := by
  have HE := hid h
  obtain ⟨a, cap, rfl, hlen, hc⟩ := h
  have HB0 := hid (boxG_below w n (.slice a E.length cap))
  have HG := hid (boxG_g w n (.slice a E.length cap))
  have HT := hid (boxG_tbl w n (.slice a E.length cap))
  have HSZ := hid (boxG_size w n (.slice a E.length cap))
  go_enter Tryd.func30, Tryd.ntmps30
  go_wp2_with fail
  change Code.wp _ _ _ _ (boxG w n (.slice a E.length cap))
  revert HB0 HG HT HSZ
  generalize boxG w n (.slice a E.length cap) = W0
  intro HB0 HG HT HSZ
  have hsz := HSZ.out
  go_loopw [12] (fun i wr => ∃ k : Nat, k ≤ 7 ∧ i = .int .i64 k ∧ Hid (Tbl (w.heap.size + 1) wr 7 (fun v => if v < k then v else 0)) ∧ Hid (Below (w.heap.size + 1) W0 wr)) (fun i _ => 7 - (intOf i).toNat)
  case atStart => exact ⟨0, Nat.zero_le _, rfl, HT.out.congr fun i _ => by simp, Below.refl _ _⟩
  case round =>
    obtain ⟨k, hk, rfl, TB, HW⟩ := hrel
    by_cases hlt : k < 7
    · have hki : (k : Int) < 7 := by omega
      have hfz := TB.out.frozen k
      have hcl := TB.out.cell k hlt
      have T2 := hid (TB.out.set (f' := fun v => if v < k + 1 then v else 0) k k hlt fun i hi => by
        by_cases e : i = k
        · subst e; simp
        · have : (i < k + 1) = (i < k) := by rw [eq_iff_iff]; omega
          simp [this, Ne.symm e])
      have B2 := hid (HW.out.setCell (p := ⟨w.heap.size + 1, k, none⟩) (Nat.le_refl _) (.int .i64 k))
      go_wp2_with fail
      go_roundw
      case rel => exact ⟨k + 1, by omega, by go_num, T2, B2⟩
      case measure => simp [intOf]; omega
    · obtain rfl : k = 7 := by omega
      have hg0 := (HW.out.block w.heap.size (by omega)).trans HG.out
      obtain ⟨z0, z1, _, _⟩ := two_cells hg0
      have HW7 := hid HW.out
      have T7 : Hid (Tbl (w.heap.size + 1) wr 7 (fun v => (parts E s 0).getD v 0)) := TB.out.congr fun i hi => by rw [parts_zero E s i hi, if_pos hi]
      have HCE : Hid (∀ W, Below w.heap.size w W → ∀ k, k < E.length → ∃ b off, a = some ⟨b, off, none⟩ ∧ W.cell? ⟨b, off + k * 2, none⟩ = some (.int .i64 (ea E k : Nat)) ∧ W.cell? ⟨b, off + k * 2 + 1, none⟩ = some (.int .i64 (eb E k : Nat))) := fun W hW k hk => by
        obtain ⟨b, off, h3, h4, h5⟩ := hc (by omega)
        exact ⟨b, off, h3, (hW.cell (p := ⟨b, off + k * 2, none⟩) h4).trans (h5 k hk).1, (hW.cell (p := ⟨b, off + k * 2 + 1, none⟩) h4).trans (h5 k hk).2⟩
      have hs7 := HW.out.size
      clear hc TB HT
      go_wp2_with fail
      go_loopw [22] (fun i w2 => ∃ k : Nat, k ≤ E.length ∧ i = .int .i64 k ∧ Hid (Tbl (w.heap.size + 1) w2 7 (fun v => (parts E s k).getD v 0)) ∧ Hid (Below (w.heap.size + 1) W0 w2) ∧ Hid (∀ i, i < k → ringAt E s i = false)) (fun i _ => E.length - (intOf i).toNat)
      case atStart => exact ⟨0, Nat.zero_le _, rfl, T7, HW7, fun i hi => by omega⟩
      case round =>
        rename World => w2
        obtain ⟨k, hk, rfl, TB, HW2, NR⟩ := hrel
        have hs2 := HW2.out.size
        by_cases hlt : k < E.length
        · have hki : (k : Int) < (E.length : Int) := by omega
          have HB2 := hid (HB0.out.trans (HW2.out.mono (by omega : w.heap.size ≤ w.heap.size + 1)))
          obtain ⟨b, off, rfl, cA, cB⟩ := HCE.out w2 HB2.out k hlt
          obtain ⟨hA7, hB7⟩ := hE k hlt
          have SF := shr_fact s hs k (by omega)
          have RA : Hid (ringAt E s k = (s.testBit k && (parts E s k).getD (ea E k) 0 == (parts E s k).getD (eb E k) 0)) := rfl
          have hkw := below_alloc w2 (.cells #[.int .i64 (ea E k : Nat), .int .i64 (eb E k : Nat)] 32)
          have TB1 := hid (TB.out.belowK hkw)
          have BW1 := hid (HW2.out.trans (hkw.mono (by omega : w.heap.size + 1 ≤ w2.heap.size)))
          have hnew := World.alloc_heap_new w2 (.cells #[.int .i64 (ea E k : Nat), .int .i64 (eb E k : Nat)] 32)
          obtain ⟨n0, n1, _, _⟩ := two_cells hnew
          clear hkw hnew
          rcases hbit : s.testBit k with _ | _
          · rw [hbit] at SF RA
            have PS := hid (parts_stay (E := E) hbit)
            go_wp2_with fail
            go_roundw
            case rel => exact ⟨k + 1, by omega, by go_num, by show Tbl _ _ _ _; rw [PS.out]; exact TB1.out, BW1, fun i hi => by
              by_cases e : i = k
              · subst e; rw [RA.out]; rfl
              · exact NR.out i (by omega)⟩
            case measure => simp [intOf]; omega
          · rw [hbit] at SF RA
            have PM := hid (fun v hv => parts_mrg (E := E) (v := v) hbit hv)
            have pA := TB1.out.cell (ea E k) hA7
            have pB := TB1.out.cell (eb E k) hB7
            have hAi : ((ea E k : Nat) : Int) < 7 := by omega
            have hBi : ((eb E k : Nat) : Int) < 7 := by omega
            generalize ea E k = A at *
            generalize eb E k = B at *
            generalize hPA : (parts E s k).getD A 0 = PA at *
            generalize hPB : (parts E s k).getD B 0 = PB at *
            have W1s : (w2.alloc (.cells #[.int .i64 (A : Nat), .int .i64 (B : Nat)] 32)).heap.size = w2.heap.size + 1 := by simp
            by_cases hab : PA = PB
            · have hab' : ((PA : Int) == (PB : Int)) = true := by rw [hab]; simp
              have F : Hid (ringB E s = true) := ring_yes hlt (by rw [RA.out, hab]; simp)
              have HBF := hid (HB0.out.trans (BW1.out.mono (by omega : w.heap.size ≤ w.heap.size + 1)))
              go_wp2_with fail
              revert TB1 BW1 n0 n1 pA pB W1s HBF
              generalize (w2.alloc (.cells #[.int .i64 (A : Nat), .int .i64 (B : Nat)] 32)) = W1
              intro TB1 BW1 n0 n1 pA pB W1s HBF
              go_quiet (fail)
              go_wp2_with fail
              go_ret
              exact ⟨ret_bool F.out.symm, below_drewN HBF.out _⟩
            · have hab' : ((PA : Int) == (PB : Int)) = false := by rw [beq_eq_false_iff_ne]; omega
              have RF : Hid (ringAt E s k = false) := by show _ = _; rw [RA.out]; simp [hab]
              go_wp2_with fail
              revert TB1 BW1 n0 n1 pA pB W1s
              generalize (w2.alloc (.cells #[.int .i64 (A : Nat), .int .i64 (B : Nat)] 32)) = W1
              intro TB1 BW1 n0 n1 pA pB W1s
              go_quiet (fail)
              have TBq := hid (TB1.out.drewN nq)
              have BWq := hid (below_drewN BW1.out nq)
              clear n0 n1 pA pB TB1 BW1
              go_wp2_with fail
              generalize W1.drewN nq = W5 at *
              go_loopw [43] (fun i w6 => ∃ j : Nat, j ≤ 7 ∧ i = .int .i64 j ∧ Hid (Tbl (w.heap.size + 1) w6 7 (fun v => if v < j then mrg (fun v => (parts E s k).getD v 0) PA PB v else (parts E s k).getD v 0)) ∧ Hid (Below (w.heap.size + 1) W0 w6)) (fun i _ => 7 - (intOf i).toNat)
              case atStart => exact ⟨0, Nat.zero_le _, rfl, TBq.out.congr fun i _ => by simp, BWq⟩
              case round =>
                rename World => w6
                obtain ⟨j, hj, rfl, TB6, HW6⟩ := hrel
                by_cases hj7 : j < 7
                · have hji : (j : Int) < 7 := by omega
                  have hcl := TB6.out.cell j hj7
                  have hfz := TB6.out.frozen j
                  rw [if_neg (by omega : ¬ j < j)] at hcl
                  have SET : Hid (∀ x, mrg (fun v => (parts E s k).getD v 0) PA PB j = x → ∀ w7, Tbl (w.heap.size + 1) w7 7 (fun v => if j = v then x else if v < j then mrg (fun v => (parts E s k).getD v 0) PA PB v else (parts E s k).getD v 0) → Tbl (w.heap.size + 1) w7 7 (fun v => if v < j + 1 then mrg (fun v => (parts E s k).getD v 0) PA PB v else (parts E s k).getD v 0)) := fun x hx w7 h => h.congr fun v _ => by
                    by_cases e : j = v
                    · subst e; rw [if_pos (by omega : j < j + 1), if_pos rfl]; exact hx
                    · have : (v < j + 1) = (v < j) := by rw [eq_iff_iff]; omega
                      simp [this, e]
                  have MR : Hid (mrg (fun v => (parts E s k).getD v 0) PA PB j = if (parts E s k).getD j 0 = PB then PA else (parts E s k).getD j 0) := rfl
                  generalize (parts E s k).getD j 0 = y at *
                  by_cases hy : y = PB
                  · have hy' : ((y : Int) == (PB : Int)) = true := by rw [hy]; simp
                    rw [if_pos hy] at MR
                    have T8 := hid (SET.out PA MR.out _ (TB6.out.set (f' := fun v => if j = v then PA else if v < j then mrg (fun v => (parts E s k).getD v 0) PA PB v else (parts E s k).getD v 0) j PA hj7 fun i _ => rfl))
                    have B8 := hid (HW6.out.setCell (p := ⟨w.heap.size + 1, j, none⟩) (Nat.le_refl _) (.int .i64 PA))
                    go_wp2_with fail
                    go_roundw
                    case rel => exact ⟨j + 1, by omega, by go_num, T8, B8⟩
                    case measure => simp [intOf]; omega
                  · have hy' : ((y : Int) == (PB : Int)) = false := by rw [beq_eq_false_iff_ne]; omega
                    rw [if_neg hy] at MR
                    have T8 := hid (SET.out y MR.out _ (TB6.out.congr (f' := fun v => if j = v then y else if v < j then mrg (fun v => (parts E s k).getD v 0) PA PB v else (parts E s k).getD v 0) fun i hi => by
                      by_cases e : j = i
                      · subst e
                        have h1 := TB6.out.cell j hj7
                        rw [hcl] at h1
                        simp at h1
                        simp
                        omega
                      · simp [e]))
                    go_wp2_with fail
                    go_roundw
                    case rel => exact ⟨j + 1, by omega, by go_num, T8, HW6⟩
                    case measure => simp [intOf]; omega
                · have hji : ¬ (j : Int) < 7 := by omega
                  have T8 : Hid (Tbl (w.heap.size + 1) w6 7 (fun v => (parts E s (k + 1)).getD v 0)) := TB6.out.congr fun v hv => by
                    rw [if_pos (by omega : v < j), PM.out v hv]
                  go_wp2_with fail
                  go_roundw
                  case rel => exact ⟨k + 1, by omega, by go_num, T8, HW6, fun i hi => by
                    by_cases e : i = k
                    · subst e; exact RF.out
                    · exact NR.out i (by omega)⟩
                  case measure => simp [intOf]; omega
        · have NRA : Hid (ringB E s = false) := ring_no fun i hi => NR.out i (by omega)
          have hki : ¬ (k : Int) < (E.length : Int) := by omega
          have HB2 := hid (HB0.out.trans (HW2.out.mono (by omega : w.heap.size ≤ w.heap.size + 1)))
          go_wp2_with fail
          go_ret
          exact ⟨ret_bool NRA.out.symm, HB2.out⟩
end Go.Proofs.YtfajbmcdkhgipaaDoor

namespace Go.Proofs.YtfajbmcdkhgipaaDoor
open Go.RowKit

theorem Tryd.infoEdge : (Tryd.prog.info? 32).map (fun i => (i.zero, i.size, i.bytes)) = some (some (.agg #[.int .i64 0, .int .i64 0]), 2, 16) := by kernel_rfl
theorem Tryd.undEdgeS : Tryd.prog.underlying 22 = some (.slice 32) := by kernel_rfl
def VE (l : List (Nat × Nat)) : List Value := l.flatMap fun e => [.int .i64 (e.1 : Nat), .int .i64 (e.2 : Nat)]
theorem VE_len (l : List (Nat × Nat)) : (VE l).length = l.length * 2 := by
  induction l with
  | nil => rfl
  | cons f l ih =>
    show (([.int .i64 (f.1 : Nat), .int .i64 (f.2 : Nat)] : List Value) ++ VE l).length = (f :: l).length * 2
    rw [List.length_append, ih]
    simp only [List.length_cons, List.length_nil]
    omega
theorem VE_snoc (l : List (Nat × Nat)) (e : Nat × Nat) : VE (l ++ [e]) = VE l ++ [.int .i64 (e.1 : Nat), .int .i64 (e.2 : Nat)] := by
  unfold VE
  rw [List.flatMap_append]
  simp
theorem VE_at : ∀ (l : List (Nat × Nat)) (k : Nat), k < l.length → (VE l)[k * 2]? = some (.int .i64 ((l.getD k (0, 0)).1 : Nat)) ∧ (VE l)[k * 2 + 1]? = some (.int .i64 ((l.getD k (0, 0)).2 : Nat))
  | [], k, h => absurd h (Nat.not_lt_zero k)
  | f :: l, k, hk => by
    show ([.int .i64 (f.1 : Nat), .int .i64 (f.2 : Nat)] ++ VE l)[k * 2]? = _ ∧ ([.int .i64 (f.1 : Nat), .int .i64 (f.2 : Nat)] ++ VE l)[k * 2 + 1]? = _
    cases k with
    | zero => exact ⟨rfl, rfl⟩
    | succ k =>
      have ih := VE_at l k (by rw [List.length_cons] at hk; omega)
      rw [List.getElem?_append_right (by simp; omega), List.getElem?_append_right (by simp; omega)]
      simp only [List.length_cons, List.length_nil]
      rw [show (k + 1) * 2 - (0 + 1 + 1) = k * 2 by omega, show (k + 1) * 2 + 1 - (0 + 1 + 1) = k * 2 + 1 by omega]
      exact ih
/-- v is a slice of the call's own that holds these edges. -/
def OwnE (B : Nat) (w : World) (v : Value) (l : List (Nat × Nat)) : Prop := w.ownsRow B 32 2 v l.length (VE l)
theorem OwnE.nil (B : Nat) (w : World) : OwnE B w (.slice none 0 0) [] := World.ownsRow_nil _ _ _ _
theorem OwnE.snoc {B : Nat} {w : World} {v : Value} {l : List (Nat × Nat)} {a b : Nat} (h : w.ownsRow B 32 2 v (l.length + 1) (VE l ++ [.int .i64 (a : Nat), .int .i64 (b : Nat)])) : OwnE B w v (l ++ [(a, b)]) := by
  unfold OwnE
  rw [VE_snoc]
  simpa using h
theorem OwnE.below {B : Nat} {w w' : World} {v : Value} {l : List (Nat × Nat)} (h : OwnE B w v l) (hb : Below w.heap.size w w') : OwnE B w' v l := by
  obtain ⟨h0, h1⟩ := h
  refine ⟨h0, h1.imp_right ?_⟩
  rintro ⟨g, cap, cur, hv, hg, hheap, hr⟩
  have hlt : g < w.heap.size := by
    rcases Nat.lt_or_ge g w.heap.size with h | h
    · exact h
    · rw [Array.getElem?_eq_none h] at hheap; cases hheap
  exact ⟨g, cap, cur, hv, hg, (hb.block g hlt).trans hheap, hr⟩
theorem OwnE.alloc {B : Nat} {w : World} {v : Value} {l : List (Nat × Nat)} (h : OwnE B w v l) (o : Obj) : OwnE B (w.alloc o) v l := h.below ((Below.refl _ _).alloc (Nat.le_refl _) _)
theorem OwnE.grown {B : Nat} {w wr w1 : World} {u : Value} {l : List (Nat × Nat)} {o : Obj} (hown : OwnE B wr u l) (hnx : Below B w wr) (hB : B ≤ wr.heap.size) (hg : (wr.alloc o).grownBy w1 u.ownBlock) : Below B w w1 :=
  (hnx.alloc hB o).grown hg (by simp; omega) (fun j hj => (World.ownsRow.lt hown j hj).1)
/-- It reads as these edges. -/
theorem OwnE.at {B : Nat} {w : World} {v : Value} {l : List (Nat × Nat)} (h : OwnE B w v l) (hl : l.length ≤ 8) : EdgesAt w v l := by
  obtain ⟨h0, h1⟩ := h
  rcases h1 with ⟨h1, h2⟩ | ⟨g, cap, cur, hv, hg, hheap, hc, hm, hs, ht⟩
  · have h3 : l = [] := List.length_eq_zero_iff.1 h2
    subst h3
    exact ⟨none, 0, h1, hl, fun h => absurd h (by simp)⟩
  · have key : ∀ k u, k < l.length * 2 → (VE l)[k]? = some u → w.cell? ⟨g, k, none⟩ = some u := fun k u hk he => by
      rw [← ht, List.getElem?_take, if_pos (by omega), Array.getElem?_toList] at he
      simp [World.cell?, hheap, he]
    refine ⟨some ⟨g, 0, none⟩, cap, hv, hl, fun hn => ⟨g, 0, rfl, (Array.getElem?_eq_some_iff.1 hheap).1, fun i hi => ?_⟩⟩
    obtain ⟨h3, h4⟩ := VE_at l i hi
    rw [Nat.zero_add]
    exact ⟨key _ _ (by omega) h3, key _ _ (by omega) h4⟩
end Go.Proofs.YtfajbmcdkhgipaaDoor

namespace Go.Proofs.YtfajbmcdkhgipaaDoor
open Go.RowKit

/-- A function value that answers as p does at each edge of l, wherever nothing below B has turned. -/
def AnswersE (B : Nat) (w : World) (g : Nat) (cs : Array Value) (l : List (Nat × Nat)) (p : Nat → Bool) : Prop :=
  ∀ i, i < l.length → ∀ w1, Below B w w1 → B ≤ w1.heap.size → Calls Tryd.prog g (#[.agg #[.int .i64 (ea l i : Nat), .int .i64 (eb l i : Nat)]] ++ cs) w1 fun e w2 => e = .returned (.bool (p i)) ∧ Below w1.heap.size w1 w2
theorem anyE_drop {p : Nat → Bool} {n k : Nat} (hk : k < n) : ((List.range n).drop k).any p = (p k || ((List.range n).drop (k + 1)).any p) := by
  conv => lhs; rw [List.drop_eq_getElem_cons (by simpa using hk), List.any_cons]
  simp
set_option maxRecDepth 20000 in
set_option maxHeartbeats 800000 in
theorem IndexFuncE_any (g : Nat) (cs : Array Value) (v : Value) (l : List (Nat × Nat)) (p : Nat → Bool) (w : World) (eg : Enters g) (h : EdgesAt w v l) (hg : AnswersE w.heap.size w g cs l p) :
    Calls Tryd.prog 34 #[v, .func (.func g) #[] cs] w fun e w' => ∃ r : Int, e = .returned (.int .i64 r) ∧ decide (0 ≤ r) = (List.range l.length).any p ∧ Below w.heap.size w w' := by
  obtain ⟨a, cap, rfl, hlen, hc⟩ := h
  have HG := hid hg
  clear hg
  unfold Enters at eg
  go_enter Tryd.func34, Tryd.ntmps34
  go_wp2_with fail
  go_loopw [8] (fun i wr => ∃ k : Nat, k ≤ l.length ∧ i = .int .i64 k ∧ Below w.heap.size w wr ∧ Hid ((List.range l.length).any p = ((List.range l.length).drop k).any p)) (fun i _ => l.length - (intOf i).toNat)
  case atStart => exact ⟨0, Nat.zero_le _, rfl, Below.refl _ _, rfl⟩
  case round =>
    obtain ⟨k, hk, rfl, hnx, R⟩ := hrel
    by_cases hlt : k < l.length
    · obtain ⟨b, off, rfl, hb, hcell⟩ := hc (by omega)
      obtain ⟨c1, c2⟩ := hcell k hlt
      have d1 := (hnx.cell (p := ⟨b, off + k * 2, none⟩) hb).trans c1
      have d2 := (hnx.cell (p := ⟨b, off + k * 2 + 1, none⟩) hb).trans c2
      have D := hid (anyE_drop (p := p) hlt)
      have G := hid (HG.out k hlt wr hnx hnx.size)
      have hki : (k : Int) < (l.length : Int) := by omega
      clear hcell hc c1 c2
      generalize ea l k = x at *
      generalize eb l k = y at *
      rcases hq : p k with _ | _
      · have HQ := hid hq
        clear hq
        go_wp2_with fail
        refine G.out.mono ?_
        rw [HQ.out]
        rintro e w1 ⟨rfl, hb1⟩
        go_wp2_with fail
        go_roundw
        case rel => exact ⟨k + 1, by omega, by go_num, hnx.trans (hb1.mono hnx.size), by show _ = _; rw [R.out, D.out, HQ.out]; rfl⟩
        case measure => simp [intOf]; omega
      · have HQ := hid hq
        clear hq
        go_wp2_with fail
        refine G.out.mono ?_
        rw [HQ.out]
        rintro e w1 ⟨rfl, hb1⟩
        go_wp2_with fail
        go_ret
        exact ⟨_, rfl, by rw [R.out, D.out, HQ.out]; simp, hnx.trans (hb1.mono hnx.size)⟩
    · go_wp2_with fail
      go_ret
      exact ⟨_, rfl, by rw [R.out, List.drop_of_length_le (by simp; omega)]; simp, hnx⟩
theorem ContainsFuncE_any (g : Nat) (cs : Array Value) (v : Value) (l : List (Nat × Nat)) (p : Nat → Bool) (w : World) (eg : Enters g) (h : EdgesAt w v l) (hg : AnswersE w.heap.size w g cs l p) :
    Calls Tryd.prog 18 #[v, .func (.func g) #[] cs] w fun e w' => e = .returned (.bool ((List.range l.length).any p)) ∧ Below w.heap.size w w' := by
  have HI := hid h
  obtain ⟨a, cap, hv, hlen, hc⟩ := h
  have HG := hid hg
  have HE := hid eg
  clear hg hc eg
  subst hv
  go_enter Tryd.func18, Tryd.ntmps18
  go_wp2_with fail
  refine (IndexFuncE_any g cs _ l p _ HE.out HI.out HG.out).mono ?_
  rintro e w1 ⟨r, rfl, hr, hb1⟩
  have HR := hid hr
  clear hr
  go_wp2_with fail
  go_ret
  exact ⟨ret_bool HR.out, hb1⟩
set_option maxRecDepth 20000 in
theorem ringQ_ok (a b v L pv pl : Nat) (w : World) (hL : L < 256) (ha : a < 8) (hv : w.cell? ⟨pv, 0, none⟩ = some (.int .i64 v)) (hl : w.cell? ⟨pl, 0, none⟩ = some (.int .i64 L)) :
    Calls Tryd.prog 19 #[.agg #[.int .i64 a, .int .i64 b], .pointer (some ⟨pv, 0, none⟩), .pointer (some ⟨pl, 0, none⟩)] w fun e w' => e = .returned (.bool (b == v && L.testBit a)) ∧ Below w.heap.size w w' := by
  have IN := hid (fun w => In_any L a w hL ha)
  obtain ⟨w0, hw0⟩ : ∃ w0, w.alloc (.cells #[.int .i64 a, .int .i64 b] 32) = w0 := ⟨_, rfl⟩
  have B0 : Below w.heap.size w w0 := by rw [← hw0]; exact (Below.refl _ _).alloc (Nat.le_refl _) _
  have X0 := World.alloc_heap_new w (.cells #[.int .i64 a, .int .i64 b] 32)
  rw [hw0] at X0
  obtain ⟨x0, x1, -, -⟩ := two_cells X0
  have c1 := (B0.cell (p := ⟨pv, 0, none⟩) (World.block_lt_of_cell? w _ hv)).trans hv
  have c2 := (B0.cell (p := ⟨pl, 0, none⟩) (World.block_lt_of_cell? w _ hl)).trans hl
  have HB := hid B0
  clear B0 X0 hv hl
  by_cases hb : b = v
  · have hbi : ((b : Int) == (v : Int)) = true := by rw [beq_iff_eq]; omega
    have e : (b == v) = true := by rw [beq_iff_eq]; exact hb
    rw [e, Bool.true_and]
    clear e hb
    go_enter Tryd.func19, Tryd.ntmps19
    go_wp2_with (go_at_call 7; (with_reducible refine (IN.out _).mono ?_); rintro e w' ⟨rfl, rfl⟩)
    go_ret
    exact ⟨rfl, HB.out⟩
  · have hbi : ((b : Int) == (v : Int)) = false := by rw [beq_eq_false_iff_ne]; omega
    have e : (b == v) = false := by rw [beq_eq_false_iff_ne]; exact hb
    rw [e, Bool.false_and]
    clear e hb
    go_enter Tryd.func19, Tryd.ntmps19
    go_wp2_with fail
    go_ret
    exact ⟨rfl, HB.out⟩
end Go.Proofs.YtfajbmcdkhgipaaDoor
