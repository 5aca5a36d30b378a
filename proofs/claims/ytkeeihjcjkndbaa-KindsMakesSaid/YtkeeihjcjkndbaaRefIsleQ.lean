/- rotaref.Isle. -/
import Derived.Test.YtkeeihjcjkndbaaKRingQ
import Derived.Test.YtkeeihjcjkndbaaPlainAll
import Derived.Test.YtkeeihjcjkndbaaRefQ
namespace Go.Proofs.Ytkeeihjcjkndbaa
open Go.RowKit

theorem Own.tbl {B : Nat} {w : World} {v : Value} {l : List Nat} (h : Own B w v l) (hl : 0 < l.length) : ∃ g cap, v = .slice (some ⟨g, 0, none⟩) l.length cap ∧ B ≤ g ∧ Tbl g w l.length (fun i => l.getD i 0) := by
  obtain ⟨h0, h1⟩ := h
  rcases h1 with h1 | ⟨g, cap, cur, hv, hg, hheap, hr⟩
  · exact absurd h1.2 (by omega)
  · obtain ⟨h2, h3, h4, h5⟩ := hr
    rw [Nat.mul_one] at h4 h5
    refine ⟨g, cap, hv, hg, fun i hi => ?_, fun i => ?_, (Array.getElem?_eq_some_iff.1 hheap).1⟩
    · have e1 : cur[i]? = some (.int .i64 (l.getD i 0 : Nat)) := by
        have e2 := congrArg (fun L => L[i]?) h5
        simp only [List.getElem?_take, if_pos hi] at e2
        rw [← Array.getElem?_toList, e2]
        unfold V
        simp [List.getD, hi]
      simp [World.cell?, hheap, e1]
    · simp [World.frozen?, hheap]
set_option maxRecDepth 20000 in
set_option maxHeartbeats 4000000 in
theorem Isle_any (n : Nat) (v : Value) (E : List (Nat × Nat)) (s : Nat) (w : World) (hn0 : 1 ≤ n) (hn : n ≤ 7) (hs : s < 256) (hE : ∀ j, j < E.length → ea E j < n ∧ eb E j < n) (h : EdgesAt w v E) :
    Calls Try.prog 43 #[.agg #[.int .i64 n, v], .int .i64 s] w fun e w' => e = .returned (.int .i64 (isleN n E s : Nat)) ∧ Below w.heap.size w w' := by
  obtain ⟨i0, hi, hz0, hz1, hz2⟩ := info_parts Try.infoInt
  have HE := hid h
  obtain ⟨a, cap, rfl, hlen, hc⟩ := h
  have HB0 : Hid (Below w.heap.size w (w.alloc (.cells #[.int .i64 n, .slice a E.length cap] 48))) := (Below.refl _ _).alloc (Nat.le_refl _) _
  have HN := hid (World.alloc_heap_new w (.cells #[.int .i64 n, .slice a E.length cap] 48))
  go_enter Try.func43, Try.ntmps43
  go_wp2_with fail
  revert HB0 HN
  generalize (w.alloc (.cells #[.int .i64 n, .slice a E.length cap] 48)) = W0
  intro HB0 HN
  have hW0 : w.heap.size < W0.heap.size := (Array.getElem?_eq_some_iff.1 HN.out).1
  have BX : Hid (∀ W, Below W0.heap.size W0 W → W.cell? ⟨w.heap.size, 0, none⟩ = some (.int .i64 n) ∧ W.cell? ⟨w.heap.size, 1, none⟩ = some (.slice a E.length cap)) := fun W hW => by
    obtain ⟨q0, q1, _, _⟩ := two_cells ((hW.block w.heap.size hW0).trans HN.out)
    exact ⟨q0, q1⟩
  go_loopw [5, 6] (fun u i wr => ∃ k : Nat, k ≤ n ∧ i = .int .i64 k ∧ Own W0.heap.size wr u (List.range k) ∧ Hid (Below W0.heap.size W0 wr)) (fun _ i _ => n - (intOf i).toNat)
  case atStart => exact ⟨0, Nat.zero_le _, rfl, Own.nil _ _, Below.refl _ _⟩
  case round =>
    obtain ⟨k, hk, rfl, hown, HW⟩ := hrel
    obtain ⟨q0, q1⟩ := BX.out wr HW.out
    by_cases hlt : k < n
    · have hki : (k : Int) < (n : Int) := by omega
      have HO := hid hown
      have hs1 := HW.out.size
      have RL : Hid ((List.range k).length = k) := by show _ = _; simp
      have RS : Hid (List.range (k + 1) = List.range k ++ [k]) := List.range_succ
      clear hown
      generalize List.range k = acc at *
      go_wp2_with (at_builtin; refine wpList_append_own _ rfl _ _ 22 rfl W0.heap.size 3 i0 (.int .i64 0) 1 8 Try.underlying22 hi hz0 hz1 hz2 rfl (by decide) _ _ _ rfl (HO.out.alloc _) ⟨wr.heap.size, 0, none⟩ 1 1 [.int .i64 (k : Nat)] rfl rfl ?c1 ?c2 ?c3 ?c4 ?c5 ?_)
      case c1 => exact cell_one_new _ _ _
      case c2 => intro u hu; simp at hu; subst hu; rfl
      case c3 => rw [RL.out]; unfold maxLen; omega
      case c4 => rw [RL.out]; omega
      case c5 => simp; omega
      intro v' w3 hown' hgrow _
      have R3 := hid (Own.snoc hown')
      have R4 := hid (Own.grown HO.out HW.out hs1 hgrow)
      clear hown' hgrow
      go_wp2_with fail
      go_roundw
      case rel => exact ⟨k + 1, by omega, by go_num, by rw [RS.out]; exact R3.out, R4⟩
      case measure => simp [intOf]; omega
    · obtain rfl : k = n := by omega
      have hki : ¬ (k : Int) < (k : Int) := by omega
      obtain ⟨g, cap2, rfl, hg, hT⟩ := hown.tbl (by simp; omega)
      clear hown
      have T0 : Hid (Tbl g wr k (turnTo E s 0)) := by
        rw [List.length_range] at hT
        exact hT.congr fun i hi => by simp [turnTo, List.getD, hi]
      have HCE : Hid (∀ W, Below w.heap.size w W → ∀ j, j < E.length → ∃ b off, a = some ⟨b, off, none⟩ ∧ W.cell? ⟨b, off + j * 2, none⟩ = some (.int .i64 (ea E j : Nat)) ∧ W.cell? ⟨b, off + j * 2 + 1, none⟩ = some (.int .i64 (eb E j : Nat))) := fun W hW j hj => by
        obtain ⟨b, off, h3, h4, h5⟩ := hc (by omega)
        exact ⟨b, off, h3, (hW.cell (p := ⟨b, off + j * 2, none⟩) h4).trans (h5 j hj).1, (hW.cell (p := ⟨b, off + j * 2 + 1, none⟩) h4).trans (h5 j hj).2⟩
      clear hc hT
      rw [List.length_range]
      go_wp2_with fail
      go_loopw [7] (fun i w2 => ∃ t : Nat, t ≤ k ∧ i = .int .i64 t ∧ Hid (Tbl g w2 k (turnTo E s t)) ∧ Hid (Below W0.heap.size W0 w2)) (fun i _ => k - (intOf i).toNat)
      case atStart => exact ⟨0, Nat.zero_le _, rfl, T0, HW⟩
      case round =>
        rename World => w2
        obtain ⟨t, ht, rfl, TB, HW2⟩ := hrel
        obtain ⟨q0, q1⟩ := BX.out w2 HW2.out
        by_cases htk : t < k
        · have hti : (t : Int) < (k : Int) := by omega
          go_wp2_with fail
          go_loopw [8] (fun i w3 => ∃ j : Nat, j ≤ E.length ∧ i = .int .i64 j ∧ Hid (Tbl g w3 k (relaxTo E s (turnTo E s t) j)) ∧ Hid (Below W0.heap.size W0 w3)) (fun i _ => E.length - (intOf i).toNat)
          case atStart => exact ⟨0, Nat.zero_le _, rfl, TB, HW2⟩
          case round =>
            rename World => w3
            obtain ⟨j, hj, rfl, TJ, HW3⟩ := hrel
            obtain ⟨q0, q1⟩ := BX.out w3 HW3.out
            by_cases hjl : j < E.length
            · have hji : (j : Int) < (E.length : Int) := by omega
              have HB3 := hid (HB0.out.trans (HW3.out.mono HB0.out.size))
              obtain ⟨b, off, rfl, cA, cB⟩ := HCE.out w3 HB3.out j hjl
              obtain ⟨hAn, hBn⟩ := hE j hjl
              have hkw := below_alloc w3 (.cells #[.int .i64 (ea E j : Nat), .int .i64 (eb E j : Nat)] 45)
              have TJ1 := hid (TJ.out.belowK hkw)
              have BW1 := hid (HW3.out.trans (hkw.mono HW3.out.size))
              have hnew := World.alloc_heap_new w3 (.cells #[.int .i64 (ea E j : Nat), .int .i64 (eb E j : Nat)] 45)
              obtain ⟨n0, n1, _, _⟩ := two_cells hnew
              have RX : Hid (∀ v, relaxTo E s (turnTo E s t) (j + 1) v = if s.testBit j = true then (if v = ea E j ∨ v = eb E j then min (relaxTo E s (turnTo E s t) j (ea E j)) (relaxTo E s (turnTo E s t) j (eb E j)) else relaxTo E s (turnTo E s t) j v) else relaxTo E s (turnTo E s t) j v) := fun v => rfl
              have IN := hid (fun w' => In_any s j w' hs (by omega))
              have hgw : w3.heap.size ≠ g := by have := TJ.out.size; omega
              clear hkw hnew
              rcases hbit : s.testBit j with _ | _
              · rw [hbit] at IN RX
                have T2 : Hid (Tbl g (w3.alloc (.cells #[.int .i64 (ea E j : Nat), .int .i64 (eb E j : Nat)] 45)) k (relaxTo E s (turnTo E s t) (j + 1))) := TJ1.out.congr fun v _ => by rw [RX.out v]; rfl
                go_wp2_with fail
                refine (IN.out _).mono ?_
                rintro e w' ⟨rfl, hw'⟩
                subst hw'
                go_wp2_with fail
                go_roundw
                case rel => exact ⟨j + 1, by omega, by go_num, T2, BW1⟩
                case measure => simp [intOf]; omega
              · rw [hbit] at IN RX
                have pA := TJ1.out.cell (ea E j) hAn
                have pB := TJ1.out.cell (eb E j) hBn
                have hAi : ((ea E j : Nat) : Int) < (k : Int) := by omega
                have hBi : ((eb E j : Nat) : Int) < (k : Int) := by omega
                generalize ea E j = A at *
                generalize eb E j = B at *
                generalize hf2 : relaxTo E s (turnTo E s t) (j + 1) = f2 at *
                have HF2 := hid hf2
                clear hf2
                generalize relaxTo E s (turnTo E s t) j = f at *
                generalize hFA : f A = FA at *
                generalize hFB : f B = FB at *
                go_wp2_with fail
                refine (IN.out _).mono ?_
                rintro e w' ⟨rfl, hw'⟩
                subst hw'
                generalize (w3.alloc (.cells #[.int .i64 (A : Nat), .int .i64 (B : Nat)] 45)) = W1 at *
                have FIN : Hid (∀ low, low = min FA FB → ∀ W, Tbl g W k f → Tbl g ((W.setCell ⟨g, A, none⟩ (.int .i64 (low : Nat))).setCell ⟨g, B, none⟩ (.int .i64 (low : Nat))) k f2) := fun low hlow W hW =>
                  (hW.set (f' := fun v => if A = v then low else f v) A low hAn fun _ _ => rfl).set (f' := f2) B low hBn fun v _ => by
                    rw [RX.out v, if_pos trivial, ← hlow]
                    by_cases e1 : v = A
                    · subst e1; simp
                    · by_cases e2 : v = B
                      · subst e2; simp
                      · rw [if_neg (by simp [e1, e2]), if_neg (fun e => e2 e.symm), if_neg (fun e => e1 e.symm)]
                have BEL : Hid (∀ low : Nat, ∀ W, Below W0.heap.size W0 W → Below W0.heap.size W0 ((W.setCell ⟨g, A, none⟩ (.int .i64 (low : Nat))).setCell ⟨g, B, none⟩ (.int .i64 (low : Nat)))) := fun low W hW => (hW.setCell (p := ⟨g, A, none⟩) hg _).setCell (p := ⟨g, B, none⟩) hg _
                have fA := TJ1.out.frozen A
                have fB := TJ1.out.frozen B
                by_cases hlow : FB < FA
                · have hL : Hid (FB = min FA FB) := by show _ = _; omega
                  go_wp2_with fail
                  go_quiet (fail)
                  have Tq := hid (FIN.out FB hL.out _ (TJ1.out.drewN (nq + 1)))
                  have Bq := hid (BEL.out FB _ (below_drewN BW1.out (nq + 1)))
                  have sB := ((TJ1.out.drewN (nq + 1)).set (f' := fun v => if A = v then FB else f v) A FB hAn fun _ _ => rfl).cell B hBn
                  have sF := ((TJ1.out.drewN (nq + 1)).set (f' := fun v => if A = v then FB else f v) A FB hAn fun _ _ => rfl).frozen B
                  go_wp2_with fail
                  go_region
                  go_wp2_with fail
                  go_roundw
                  case rel => exact ⟨j + 1, by omega, by go_num, by show Tbl _ _ _ _; rw [HF2.out]; exact Tq.out, Bq⟩
                  case measure => simp [intOf]; omega
                · have hL : Hid (FA = min FA FB) := by show _ = _; omega
                  go_wp2_with fail
                  go_quiet (fail)
                  have Tq := hid (FIN.out FA hL.out _ (TJ1.out.drewN (nq + 1)))
                  have Bq := hid (BEL.out FA _ (below_drewN BW1.out (nq + 1)))
                  have sB := ((TJ1.out.drewN (nq + 1)).set (f' := fun v => if A = v then FA else f v) A FA hAn fun _ _ => rfl).cell B hBn
                  have sF := ((TJ1.out.drewN (nq + 1)).set (f' := fun v => if A = v then FA else f v) A FA hAn fun _ _ => rfl).frozen B
                  go_wp2_with fail
                  go_region
                  go_wp2_with fail
                  go_roundw
                  case rel => exact ⟨j + 1, by omega, by go_num, by show Tbl _ _ _ _; rw [HF2.out]; exact Tq.out, Bq⟩
                  case measure => simp [intOf]; omega
            · have hji : ¬ (j : Int) < (E.length : Int) := by omega
              have T2 : Hid (Tbl g w3 k (turnTo E s (t + 1))) := by
                have e : j = E.length := by omega
                rw [e] at TJ
                exact TJ.out
              go_wp2_with fail
              go_roundw
              case rel => exact ⟨t + 1, by omega, by go_num, T2, HW3⟩
              case measure => simp [intOf]; omega
        · have hti : ¬ (t : Int) < (k : Int) := by omega
          obtain rfl : t = k := by omega
          have IL : Hid (isleN t E s = isleTo (turnTo E s t) t) := rfl
          have IS := hid (isleTo_succ (turnTo E s t))
          have IE := hid (isleTo_le (turnTo E s t))
          have I0 : Hid (isleTo (turnTo E s t) 0 = 0) := rfl
          have HBF := hid (HB0.out.trans (HW2.out.mono HB0.out.size))
          generalize turnTo E s t = f at *
          go_wp2_with fail
          go_loop [11, 12] (fun u i => ∃ j : Nat, j ≤ t ∧ i = .int .i64 j ∧ u = .int .i64 (isleTo f j : Nat)) (fun _ i => t - (intOf i).toNat)
          case atStart => exact ⟨0, Nat.zero_le _, rfl, by rw [I0.out]; rfl⟩
          case round =>
            obtain ⟨j, hj, rfl, rfl⟩ := hrel
            by_cases hjt : j < t
            · have hji : (j : Int) < (t : Int) := by omega
              have hcl := TB.out.cell j hjt
              have S1 := hid (IS.out j)
              have hle := IE.out j
              generalize isleTo f j = y at *
              by_cases hfj : f j = j
              · rw [if_pos hfj] at S1
                rw [hfj] at hcl
                have hjj : ((j : Int) == (j : Int)) = true := by simp
                go_wp2_with fail
                go_round
                case rel => exact ⟨j + 1, by omega, by go_num, by rw [S1.out]; go_num⟩
                case measure => simp [intOf]; omega
              · rw [if_neg hfj] at S1
                have hjj : (((f j : Nat) : Int) == (j : Int)) = false := by rw [beq_eq_false_iff_ne]; omega
                generalize f j = z at *
                go_wp2_with fail
                go_round
                case rel => exact ⟨j + 1, by omega, by go_num, by rw [S1.out]; rfl⟩
                case measure => simp [intOf]; omega
            · have hji : ¬ (j : Int) < (t : Int) := by omega
              obtain rfl : j = t := by omega
              go_wp2_with fail
              go_ret
              exact ⟨ret_int (by rw [IL.out]), HBF.out⟩
end Go.Proofs.Ytkeeihjcjkndbaa
