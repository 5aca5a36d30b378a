/- rotaref.Paths. -/
import Derived.Test.YtjnifcfcigcngaaKRingQ
import Derived.Test.YtjnifcfcigcngaaRefQ
import Derived.Test.YtjnifcfcigcngaaPlainAll1
namespace Go.Proofs.Ytjnifcfcigcngaa
open Go.RowKit

theorem box_p (w : World) (n : Int) (v : Value) : Below w.heap.size w (w.alloc (.cells #[.int .i64 n, v] 24)) := (Below.refl _ _).alloc (Nat.le_refl _) _
set_option maxRecDepth 20000 in
set_option maxHeartbeats 4000000 in
theorem Paths_any (n F G : Nat) (v : Value) (E : List (Nat × Nat)) (w : World) (hn : n ≤ 8) (hF : F < 2 ^ n) (hG : G < 2 ^ n) (hE : ∀ j, j < E.length → ea E j < n ∧ eb E j < n) (h : EdgesAt w v E) :
    Calls Try.prog 16 #[.agg #[.int .i64 n, v], .int .i64 F, .int .i64 G] w fun e w' => e = .returned (.int .i64 (rchS (nxF E E.length) n (dif (2 ^ n - 1) G) F : Nat)) ∧ Below w.heap.size w w' := by
  obtain ⟨a, cap, rfl, hlen, hc⟩ := h
  have hF8 := lt256 hn hF
  have hG8 := lt256 hn hG
  have hP : 2 ^ n ≤ 256 := Nat.pow_le_pow_right (by decide) hn
  have han : bits .andNot .i64 (F : Int) (G : Int) = ((dif F G : Nat) : Int) := i64_andNot_nat _ _ (by omega) (by omega)
  have P0 := hid (Par.start (E := E) (G := G) hF)
  have PT : Hid (∀ s, Par E n F G s → ∀ j, j ≤ E.length → Par E n F G (parF E G s j)) := fun s h j hj => h.turn (fun j hj => (hE j hj).2) j hj
  have PL : Hid (∀ s, Par E n F G s → s < 256) := fun s h => lt256 hn h.lt
  have PS : Hid (∀ s j, s ≤ parF E G s j) := fun s j => subB_le (par_sub E G s j)
  have PD : Hid (∀ s, Par E n F G s → parF E G s E.length = s → s = rchS (nxF E E.length) n (dif (2 ^ n - 1) G) F) := fun s h e => h.done hn e
  have PZ : Hid (∀ s j, parF E G s (j + 1) = if s.testBit (ea E j) = true ∧ G.testBit (eb E j) = false then parF E G s j ||| 2 ^ eb E j else parF E G s j) := fun _ _ => rfl
  have PO : Hid (∀ s, parF E G s 0 = s) := fun _ => rfl
  have HB0 := hid (box_p w n (.slice a E.length cap))
  have HN := hid (World.alloc_heap_new w (.cells #[.int .i64 n, .slice a E.length cap] 24))
  have IN := hid (fun s i w hs hi => In_any s i w hs hi)
  generalize rchS (nxF E E.length) n (dif (2 ^ n - 1) G) F = R at *
  generalize Par E n F G = Q at *
  generalize parF E G = p at *
  generalize dif F G = s0 at *
  go_enter Try.func16, Try.ntmps16
  go_wp2_with fail
  revert HB0 HN
  generalize (w.alloc (.cells #[.int .i64 n, .slice a E.length cap] 24)) = W0
  intro HB0 HN
  have hW0 : w.heap.size < W0.heap.size := (Array.getElem?_eq_some_iff.1 HN.out).1
  have BX : Hid (∀ W, Below W0.heap.size W0 W → W.cell? ⟨w.heap.size, 0, none⟩ = some (.int .i64 n) ∧ W.cell? ⟨w.heap.size, 1, none⟩ = some (.slice a E.length cap)) := fun W hW => by
    obtain ⟨q0, q1, _, _⟩ := two_cells ((hW.block w.heap.size hW0).trans HN.out)
    exact ⟨q0, q1⟩
  go_loopw [7, 8, 9, 10] (fun u _ _ _ wr => ∃ s : Nat, u = .int .i64 s ∧ Hid (Q s) ∧ Hid (Below W0.heap.size W0 wr)) (fun u _ _ _ _ => 256 - (intOf u).toNat)
  case atStart => exact ⟨s0, rfl, P0.out, Below.refl _ _⟩
  case round =>
    obtain ⟨s, rfl, HQ, HW⟩ := hrel
    have hs := PL.out s HQ.out
    have hPS := PS.out s
    go_wp2_with fail
    go_loopw [8, 9, 10] (fun t i _ w2 => ∃ j : Nat, j ≤ E.length ∧ i = .int .i64 j ∧ t = .int .i64 (p s j : Nat) ∧ Hid (Below W0.heap.size W0 w2)) (fun _ i _ _ => E.length - (intOf i).toNat)
    case atStart => exact ⟨0, Nat.zero_le _, rfl, by rw [PO.out], HW⟩
    case round =>
      rename World => w2
      obtain ⟨j, hj, rfl, rfl, HW2⟩ := hrel
      obtain ⟨q0, q1⟩ := BX.out w2 HW2.out
      by_cases hjl : j < E.length
      · have hji : (j : Int) < (E.length : Int) := by omega
        obtain ⟨b, off, rfl, hb, hcell⟩ := hc (by omega)
        have HB2 := hid (HB0.out.trans (HW2.out.mono HB0.out.size))
        have cA := (HB2.out.cell (p := ⟨b, off + j * 2, none⟩) hb).trans (hcell j hjl).1
        have cB := (HB2.out.cell (p := ⟨b, off + j * 2 + 1, none⟩) hb).trans (hcell j hjl).2
        obtain ⟨hAn, hBn⟩ := hE j hjl
        have hkw := below_alloc w2 (.cells #[.int .i64 (ea E j : Nat), .int .i64 (eb E j : Nat)] 42)
        have BW1 := hid (HW2.out.trans (hkw.mono HW2.out.size))
        have hnew := World.alloc_heap_new w2 (.cells #[.int .i64 (ea E j : Nat), .int .i64 (eb E j : Nat)] 42)
        obtain ⟨n0, n1, _, _⟩ := two_cells hnew
        have S := hid (PZ.out s j)
        have I1 := hid (fun w' => IN.out s (ea E j) w' hs (by omega))
        have I2 := hid (fun w' => IN.out G (eb E j) w' hG8 (by omega))
        have hpj := PL.out _ (PT.out s HQ.out j hj)
        have hpw : wrap64 (2 ^ eb E j) = ((2 ^ eb E j : Nat) : Int) := (pow_wrap _ (by omega)).1
        have hp2 : 2 ^ eb E j < 256 := Nat.pow_lt_pow_right (by decide) (by omega : eb E j < 8)
        have hor : bits .or .i64 ((p s j : Nat) : Int) ((2 ^ eb E j : Nat) : Int) = ((p s j ||| 2 ^ eb E j : Nat) : Int) := i64_or_nat _ _ (by omega) (by omega)
        have hB64 : ((eb E j : Nat) : Int) < 64 := by omega
        clear hkw hnew hcell hc
        generalize hp1 : p s (j + 1) = p1 at *
        have HP1 := hid hp1
        clear hp1
        generalize hE2 : 2 ^ eb E j = E2 at *
        generalize p s j ||| E2 = y at *
        generalize ea E j = A at *
        generalize eb E j = B at *
        rcases hbit : s.testBit A with _ | _
        · rw [hbit] at I1 S
          have S2 : Hid (p s (j + 1) = p s j) := by show _ = _; rw [HP1.out, S.out]; rfl
          clear hbit
          go_wp2_with fail
          refine (I1.out _).mono ?_
          rintro e w' ⟨rfl, hw'⟩
          obtain rfl := hw'.symm
          go_wp2_with fail
          go_roundw
          case rel => exact ⟨j + 1, by omega, by go_num, by rw [S2.out], BW1⟩
          case measure => simp [intOf]; omega
        · rw [hbit] at I1 S
          clear hbit
          rcases hbit : G.testBit B with _ | _
          · rw [hbit] at I2 S
            have S2 : Hid (p s (j + 1) = y) := by show _ = _; rw [HP1.out, S.out]; rfl
            clear hbit
            go_wp2_with fail
            refine (I1.out _).mono ?_
            rintro e w' ⟨rfl, hw'⟩
            obtain rfl := hw'.symm
            go_wp2_with fail
            refine (I2.out _).mono ?_
            rintro e w' ⟨rfl, hw'⟩
            obtain rfl := hw'.symm
            go_wp2_with fail
            go_roundw
            case rel => exact ⟨j + 1, by omega, by go_num, by rw [S2.out], BW1⟩
            case measure => simp [intOf]; omega
          · rw [hbit] at I2 S
            have S2 : Hid (p s (j + 1) = p s j) := by show _ = _; rw [HP1.out, S.out]; rfl
            clear hbit
            go_wp2_with fail
            refine (I1.out _).mono ?_
            rintro e w' ⟨rfl, hw'⟩
            obtain rfl := hw'.symm
            go_wp2_with fail
            refine (I2.out _).mono ?_
            rintro e w' ⟨rfl, hw'⟩
            obtain rfl := hw'.symm
            go_wp2_with fail
            go_roundw
            case rel => exact ⟨j + 1, by omega, by go_num, by rw [S2.out], BW1⟩
            case measure => simp [intOf]; omega
      · obtain rfl : j = E.length := by omega
        have hT := PT.out s HQ.out E.length (Nat.le_refl _)
        have hTl := PL.out _ hT
        have HT := hid hT
        have D := hid (PD.out s HQ.out)
        have hge := hPS E.length
        clear hT hPS
        generalize p s E.length = t at *
        by_cases e : t = s
        · subst e
          have D2 := hid (D.out rfl)
          have B9 := hid (HB0.out.trans (HW2.out.mono HB0.out.size))
          go_wp2_with fail
          go_ret
          exact ⟨by rw [← D2.out]; rfl, B9.out⟩
        · have e2 : ((t : Int) == (s : Int)) = false := by rw [beq_eq_false_iff_ne]; omega
          go_wp2_with fail
          go_roundw
          case rel => exact ⟨t, rfl, HT.out, HW2.out⟩
          case measure => simp [intOf]; omega
end Go.Proofs.Ytjnifcfcigcngaa
