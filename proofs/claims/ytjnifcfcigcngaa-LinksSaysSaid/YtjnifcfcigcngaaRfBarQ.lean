/- rotaref.Barrier. -/
import Derived.Test.YtjnifcfcigcngaaRfPatQ
import Derived.Test.YtjnifcfcigcngaaKGraphQ
import Derived.Test.YtjnifcfcigcngaaRefFamW
namespace Go.Proofs.Ytjnifcfcigcngaa
open Go.RowKit

set_option maxRecDepth 20000 in
set_option maxHeartbeats 4000000 in
theorem Barrier_any (n F T : Nat) (v : Value) (E : List (Nat × Nat)) (w : World) (hn : n ≤ 8) (hF : F < 2 ^ n) (hT : T < 2 ^ n) (hE : ∀ j, j < E.length → ea E j < n ∧ eb E j < n) (h : EdgesAt w v E) :
    Calls Try.prog 7 #[.agg #[.int .i64 n, v], .int .i64 F, .int .i64 T] w fun e w' => e = .returned (.int .i64 (cutV (nxF E E.length) n (2 ^ n - 1) F T : Nat)) ∧ Below w.heap.size w w' := by
  have HI := hid h
  have hP : 2 ^ n ≤ 256 := Nat.pow_le_pow_right (by decide) hn
  have hP1 : 1 ≤ 2 ^ n := Nat.one_le_two_pow
  have hT8 := lt256 hn hT
  have PA : Hid (∀ (k : Nat) (W : World), k < 2 ^ n → EdgesAt W v E → Calls Try.prog 16 #[.agg #[.int .i64 n, v], .int .i64 F, .int .i64 k] W fun e w' => e = .returned (.int .i64 (rchS (nxF E E.length) n (dif (2 ^ n - 1) k) F : Nat)) ∧ Below W.heap.size W w') := fun k W hk hW => Paths_any n F k v E W hn hF hk hE hW
  have HR : Hid (∀ k : Nat, rchS (nxF E E.length) n (dif (2 ^ n - 1) k) F < 256) := fun k => lt256 hn (rch_lt (dif_ltn (full_lt n)))
  have HB : Hid (∀ k : Nat, cutB (nxF E E.length) n (2 ^ n - 1) F T k = (rchS (nxF E E.length) n (dif (2 ^ n - 1) k) F &&& T == 0)) := fun _ => rfl
  have HV := hid (barW_cut (f := nxF E E.length) (F := F) (T := T) hn)
  have HZ : Hid (∀ k : Nat, barW (cutB (nxF E E.length) n (2 ^ n - 1) F T) (k + 1) = if cutB (nxF E E.length) n (2 ^ n - 1) F T k = true ∧ (barW (cutB (nxF E E.length) n (2 ^ n - 1) F T) k < 0 ∨ pop k < pop (barW (cutB (nxF E E.length) n (2 ^ n - 1) F T) k).toNat) then (k : Int) else barW (cutB (nxF E E.length) n (2 ^ n - 1) F T) k) := fun _ => rfl
  have HO : Hid (barW (cutB (nxF E E.length) n (2 ^ n - 1) F T) 0 = -1) := rfl
  have HL : Hid (∀ k : Nat, -1 ≤ barW (cutB (nxF E E.length) n (2 ^ n - 1) F T) k ∧ barW (cutB (nxF E E.length) n (2 ^ n - 1) F T) k < k) := fun k => barW_lt k
  have AL := hid (fun w => All_any n w hn)
  have SZ := hid (fun s w hs => Size_any s w hs)
  have HB0 := hid (box_p w n v)
  have HN := hid (World.alloc_heap_new w (.cells #[.int .i64 n, v] 24))
  generalize cutV (nxF E E.length) n (2 ^ n - 1) F T = R at *
  generalize cutB (nxF E E.length) n (2 ^ n - 1) F T = c at *
  generalize barW c = q at *
  obtain ⟨P, HP⟩ : ∃ P, Hid (2 ^ n = P) := ⟨2 ^ n, rfl⟩
  obtain ⟨a, cap, rfl, hlen, hc⟩ := h
  clear hc hlen
  have hsz0 : (w.alloc (.cells #[.int .i64 n, .slice a E.length cap] 24)).heap.size = w.heap.size + 1 := World.size_alloc _ _
  have HI0 := hid (HI.out.below HB0.out)
  go_enter Try.func7, Try.ntmps7
  go_wp2_with fail
  revert HB0 HN HI0
  generalize (w.alloc (.cells #[.int .i64 n, .slice a E.length cap] 24)) = W0
  intro HB0 HN HI0
  have hW0 : w.heap.size < W0.heap.size := (Array.getElem?_eq_some_iff.1 HN.out).1
  have BX : Hid (∀ W, Below W0.heap.size W0 W → W.cell? ⟨w.heap.size, 0, none⟩ = some (.int .i64 n) ∧ W.cell? ⟨w.heap.size, 1, none⟩ = some (.slice a E.length cap)) := fun W hW => by
    obtain ⟨q0, q1, _, _⟩ := two_cells ((hW.block w.heap.size hW0).trans HN.out)
    exact ⟨q0, q1⟩
  rw [HP.out] at AL HV hP hP1
  go_loopw [7, 8] (fun u i wr => ∃ k : Nat, k ≤ P ∧ i = .int .i64 k ∧ u = .int .i64 (q k) ∧ Hid (Below W0.heap.size W0 wr)) (fun _ i _ => P - (intOf i).toNat)
  case atStart => exact ⟨0, Nat.zero_le _, rfl, by rw [HO.out], Below.refl _ _⟩
  case round =>
    obtain ⟨k, hk, rfl, rfl, HW⟩ := hrel
    obtain ⟨q0, q1⟩ := BX.out wr HW.out
    by_cases hlt : k < P
    · have hki : (k : Int) ≤ (P : Int) - 1 := by omega
      have A1 := hid (AL.out wr)
      have P1 := hid (PA.out k wr (by rw [HP.out]; exact hlt) (HI0.out.below HW.out))
      have hr := HR.out k
      have S := hid (HZ.out k)
      have C := hid (HB.out k)
      have S1 := hid (fun w => SZ.out k w (by omega))
      have hl := HL.out k
      generalize hq1 : q (k + 1) = Q1 at *
      have HQ1 := hid hq1
      clear hq1
      generalize rchS (nxF E E.length) n (dif (2 ^ n - 1) k) F = r at *
      have han : bits .and .i64 (r : Int) (T : Int) = ((r &&& T : Nat) : Int) := i64_and_nat _ _ (by omega) (by omega)
      generalize hqk : q k = Q at *
      have HQK := hid hqk
      clear hqk
      by_cases hz : r &&& T = 0
      · have hck : Hid (c k = true) := by show _ = _; rw [C.out, hz]; rfl
        rw [hz] at han
        by_cases hneg : Q < 0
        · have S9 : Hid (q (k + 1) = k) := by show _ = _; rw [HQ1.out, S.out, if_pos ⟨hck.out, Or.inl hneg⟩]
          go_wp2_with fail
          refine A1.out.mono ?_
          rintro e w2 ⟨rfl, rfl⟩
          go_wp2_with fail
          refine P1.out.mono ?_
          rintro e w3 ⟨rfl, hb3⟩
          have HW3 := hid (HW.out.trans (hb3.mono HW.out.size))
          clear hb3
          go_wp2_with fail
          go_roundw
          case rel => exact ⟨k + 1, by omega, by go_num, by rw [S9.out], HW3.out⟩
          case measure => simp [intOf]; omega
        · obtain ⟨d, rfl⟩ := Int.eq_ofNat_of_zero_le (by omega : 0 ≤ Q)
          have hd : decide ((d : Int) < 0) = false := decide_eq_false hneg
          have hd2 : ¬ (d : Int) < 0 := hneg
          have S2 := hid (fun w => SZ.out d w (by omega))
          have p1 := pop_le k (by omega)
          have p2 := pop_le d (by omega)
          have p3 : ((d : Int)).toNat = d := Int.toNat_natCast d
          rw [p3] at S
          generalize hpk : pop k = pk at *
          generalize hpd : pop d = pd at *
          by_cases hless : pk < pd
          · have hli : (pk : Int) < (pd : Int) := by omega
            have S9 : Hid (q (k + 1) = k) := by show _ = _; rw [HQ1.out, S.out, if_pos ⟨hck.out, Or.inr hless⟩]
            go_wp2_with fail
            refine A1.out.mono ?_
            rintro e w2 ⟨rfl, rfl⟩
            go_wp2_with fail
            refine P1.out.mono ?_
            rintro e w3 ⟨rfl, hb3⟩
            have HW3 := hid (HW.out.trans (hb3.mono HW.out.size))
            clear hb3
            go_wp2_with fail
            refine (S1.out _).mono ?_
            rintro e w4 ⟨rfl, hb4⟩
            have HW4 := hid (HW3.out.trans (hb4.mono HW3.out.size))
            clear hb4
            go_wp2_with fail
            refine (S2.out _).mono ?_
            rintro e w5 ⟨rfl, hb5⟩
            have HW5 := hid (HW4.out.trans (hb5.mono HW4.out.size))
            clear hb5
            go_wp2_with fail
            go_roundw
            case rel => exact ⟨k + 1, by omega, by go_num, by rw [S9.out], HW5.out⟩
            case measure => simp [intOf]; omega
          · have hli : ¬ (pk : Int) < (pd : Int) := by omega
            have S9 : Hid (q (k + 1) = d) := by show _ = _; rw [HQ1.out, S.out, if_neg (fun g => g.2.elim hneg hless)]
            go_wp2_with fail
            refine A1.out.mono ?_
            rintro e w2 ⟨rfl, rfl⟩
            go_wp2_with fail
            refine P1.out.mono ?_
            rintro e w3 ⟨rfl, hb3⟩
            have HW3 := hid (HW.out.trans (hb3.mono HW.out.size))
            clear hb3
            go_wp2_with fail
            refine (S1.out _).mono ?_
            rintro e w4 ⟨rfl, hb4⟩
            have HW4 := hid (HW3.out.trans (hb4.mono HW3.out.size))
            clear hb4
            go_wp2_with fail
            refine (S2.out _).mono ?_
            rintro e w5 ⟨rfl, hb5⟩
            have HW5 := hid (HW4.out.trans (hb5.mono HW4.out.size))
            clear hb5
            go_wp2_with fail
            go_roundw
            case rel => exact ⟨k + 1, by omega, by go_num, by rw [S9.out], HW5.out⟩
            case measure => simp [intOf]; omega
      · have hck : Hid (c k = false) := by show _ = _; rw [C.out, beq_eq_false_iff_ne]; exact hz
        have hz2 : (((r &&& T : Nat) : Int) == 0) = false := by rw [beq_eq_false_iff_ne]; omega
        generalize r &&& T = z at *
        have S9 : Hid (q (k + 1) = Q) := by show _ = _; rw [HQ1.out, S.out, if_neg (by rw [hck.out]; simp)]
        go_wp2_with fail
        refine A1.out.mono ?_
        rintro e w2 ⟨rfl, rfl⟩
        go_wp2_with fail
        refine P1.out.mono ?_
        rintro e w3 ⟨rfl, hb3⟩
        have HW3 := hid (HW.out.trans (hb3.mono HW.out.size))
        clear hb3
        go_wp2_with fail
        go_roundw
        case rel => exact ⟨k + 1, by omega, by go_num, by rw [S9.out], HW3.out⟩
        case measure => simp [intOf]; omega
    · obtain rfl : k = P := by omega
      have hki : ¬ (k : Int) ≤ (k : Int) - 1 := by omega
      have A1 := hid (AL.out wr)
      have B9 := hid (HB0.out.trans (HW.out.mono HB0.out.size))
      go_wp2_with fail
      refine A1.out.mono ?_
      rintro e w2 ⟨rfl, rfl⟩
      go_wp2_with fail
      go_ret
      exact ⟨by rw [← HV.out]; rfl, B9.out⟩
end Go.Proofs.Ytjnifcfcigcngaa
