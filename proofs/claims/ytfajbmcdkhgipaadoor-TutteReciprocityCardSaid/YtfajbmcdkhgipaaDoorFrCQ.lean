/- rotakeep.ringed, whole. -/
import Derived.Test.YtfajbmcdkhgipaaDoorFrBW
import Derived.Test.YtfajbmcdkhgipaaDoorRefSetW
import Derived.Deep.RegionHeld3
namespace Go.Proofs.YtfajbmcdkhgipaaDoor
open Go.RowKit

theorem cmB_list {l : List (Nat × Nat)} {L v : Nat} : ((List.range l.length).any fun i => eb l i == v && L.testBit (ea l i)) = cmB l 0 l.length L v := by
  unfold cmB sta sto
  simp
theorem rg_lt {l : List (Nat × Nat)} {n : Nat} (hn : n ≤ 8) : ∀ t, rgT l 0 l.length n t < 256
  | 0 => by rw [rgT]; exact Nat.lt_of_lt_of_le (Nat.sub_lt (Nat.two_pow_pos n) (by decide)) (Nat.pow_le_pow_right (by decide) hn)
  | t + 1 => sub_lt (n := 8) (rgP_sub (rgT l 0 l.length n t) (Nat.zero_le n)) (rg_lt hn t)
theorem rgP_lt {l : List (Nat × Nat)} {L : Nat} (hL : L < 256) (k : Nat) : rgP l 0 l.length L k < 256 := sub_lt (n := 8) (rgP_sub L (Nat.zero_le k)) hL
theorem one_cell {w : World} {b : Nat} {x : Value} {t : TypeId} (h : w.heap[b]? = some (.cells #[x] t (0, 0))) : w.cell? ⟨b, 0, none⟩ = some x ∧ w.frozen? ⟨b, 0, none⟩ = false := by
  simp [World.cell?, World.frozen?, h]
theorem set_cell {w : World} {b : Nat} {x y : Value} {t : TypeId} (h : w.heap[b]? = some (.cells #[x] t (0, 0))) : (w.setCell ⟨b, 0, none⟩ y).heap[b]? = some (.cells #[y] t (0, 0)) := by
  obtain ⟨hlt, hk⟩ := Array.getElem?_eq_some_iff.1 h
  simp only [World.setCell, Array.getElem?_modify, ↓reduceIte, h, Option.map_some]
  rfl
set_option maxRecDepth 20000 in
set_option maxHeartbeats 4000000 in
theorem ringed_ok (N : Nat) (v : Value) (l : List (Nat × Nat)) (w : World) (hN : N ≤ 7) (h : EdgesAt w v l) (hE : ∀ j, j < l.length → ea l j < 7 ∧ eb l j < 7) :
    Calls Tryd.prog 8 #[.agg #[.int .i64 N, v]] w fun e w' => e = .returned (.bool (!(rgT l 0 l.length N N == 0))) ∧ Below w.heap.size w w' := by
  have HI := hid h
  obtain ⟨a, cap, rfl, -, -⟩ := h
  obtain ⟨w0, hw0⟩ : ∃ w0, w.alloc (.cells #[.int .i64 N, .slice a l.length cap] 24) = w0 := ⟨_, rfl⟩
  have B0 : Hid (Below w.heap.size w w0) := by rw [← hw0]; exact (Below.refl _ _).alloc (Nat.le_refl _) _
  have X0 : Hid (w0.heap[w.heap.size]? = some (.cells #[.int .i64 N, .slice a l.length cap] 24 (0, 0))) := by rw [← hw0]; exact World.alloc_heap_new w _
  have I0 := hid (HI.out.below B0.out)
  have CX : Hid (∀ W, Below w0.heap.size w0 W → W.cell? ⟨w.heap.size, 0, none⟩ = some (.int .i64 N) ∧ W.cell? ⟨w.heap.size, 1, none⟩ = some (.slice a l.length cap)) := fun W hW => by
    have hx := (hW.block w.heap.size (Array.getElem?_eq_some_iff.1 X0.out).1).trans X0.out
    obtain ⟨y0, y1, -⟩ := two_cells hx
    exact ⟨y0, y1⟩
  obtain ⟨x0, x1⟩ := CX.out w0 (Below.refl _ _)
  obtain ⟨M, hM⟩ : ∃ M, 2 ^ N - 1 = M := ⟨_, rfl⟩
  have HM := hid hM
  have AL : Hid (∀ w, Calls Tryd.prog 17 #[.int .i64 N] w fun e w' => e = .returned (.int .i64 (M : Nat)) ∧ w' = w) := fun w => (All_any N w (by omega)).mono fun e w' h => ⟨h.1.trans (ret_int (by have := Nat.one_le_two_pow (n := N); omega)), h.2⟩
  clear hM
  have HEE := hid hE
  clear HI hE
  go_enter Tryd.func8, Tryd.ntmps8
  go_wp2_with fail
  clear hw0
  refine (AL.out _).mono ?_
  rintro e w1 ⟨rfl, rfl⟩
  obtain ⟨w2, hw2⟩ : ∃ w2, w1.alloc (.cells #[.int .i64 (M : Nat)] 3) = w2 := ⟨_, rfl⟩
  have B2 : Hid (Below w1.heap.size w1 w2) := by rw [← hw2]; exact (Below.refl _ _).alloc (Nat.le_refl _) _
  have L2 : Hid (w2.heap[w1.heap.size]? = some (.cells #[.int .i64 (rgT l 0 l.length N 0 : Nat)] 3 (0, 0))) := by rw [← hw2, show rgT l 0 l.length N 0 = M from HM.out]; exact World.alloc_heap_new w1 _
  obtain ⟨y0, y1⟩ := CX.out w2 B2.out
  obtain ⟨bl, hbl⟩ : ∃ bl, w1.heap.size = bl := ⟨_, rfl⟩
  rw [hbl] at B2 L2
  have HBL := hid hbl
  clear AL
  go_wp2_with fail
  clear hw2 hbl
  go_loopw [10] (fun i W => ∃ t : Nat, t ≤ N ∧ i = .int .i64 t ∧ Hid (W.heap[bl]? = some (.cells #[.int .i64 (rgT l 0 l.length N t : Nat)] 3 (0, 0))) ∧ Hid (Below bl w1 W)) (fun i _ => N - (intOf i).toNat)
  case atStart => exact ⟨0, Nat.zero_le _, rfl, L2.out, B2.out⟩
  case round =>
    obtain ⟨t, ht, rfl, HL, HW⟩ := hrel
    obtain ⟨wq, hwq⟩ : ∃ wq : World, wq = wr := ⟨_, rfl⟩
    subst hwq
    by_cases hlt : t < N
    · have hti : (t : Int) < (N : Int) := by omega
      obtain ⟨y0, y1⟩ := CX.out wq (by rw [HBL.out]; exact HW.out)
      have HLT := hid hlt
      have hr8 := rg_lt (l := l) (n := N) (by omega) t
      have HRS : Hid (rgT l 0 l.length N (t + 1) = rgP l 0 l.length (rgT l 0 l.length N t) N) := rfl
      obtain ⟨R, hR⟩ : ∃ R, rgT l 0 l.length N t = R := ⟨_, rfl⟩
      rw [hR] at hr8 HRS HL
      clear hR hlt
      go_wp2_with fail
      go_loopw [14] (fun i W => ∃ k : Nat, k ≤ N ∧ i = .int .i64 k ∧ Hid (W.heap[bl]? = some (.cells #[.int .i64 (rgP l 0 l.length R k : Nat)] 3 (0, 0))) ∧ Hid (Below bl w1 W)) (fun i _ => N - (intOf i).toNat)
      case atStart => exact ⟨0, Nat.zero_le _, rfl, HL.out, HW.out⟩
      case round =>
        obtain ⟨k, hk, rfl, HL2, HW2⟩ := hrel
        by_cases hlt : k < N
        · have hki : (k : Int) < (N : Int) := by omega
          have hmf : ∀ (fn : Fn) (first cap : Array Value) (w : World), (Instr.makeFunc fn first cap).run Tryd.prog w = .ok (.func fn first cap) w := fun _ _ _ _ => rfl
          have hp8 := rgP_lt (l := l) (L := R) hr8 k
          have HST : Hid (rgP l 0 l.length R (k + 1) = rgS l 0 l.length (rgP l 0 l.length R k) k) := rfl
          obtain ⟨Q, hQ⟩ : ∃ Q, rgP l 0 l.length R k = Q := ⟨_, rfl⟩
          rw [hQ] at hp8 HST HL2
          have hblr : bl < wr.heap.size := (Array.getElem?_eq_some_iff.1 HL2.out).1
          obtain ⟨W2, hW2⟩ : ∃ W2, wr.alloc (.cells #[.int .i64 k] 3) = W2 := ⟨_, rfl⟩
          have H2 : Hid (Below wr.heap.size wr W2) := by rw [← hW2]; exact (Below.refl _ _).alloc (Nat.le_refl _) _
          have V2 : Hid (W2.heap[wr.heap.size]? = some (.cells #[.int .i64 k] 3 (0, 0))) := by rw [← hW2]; exact World.alloc_heap_new wr _
          have BW : Hid (Below bl w1 W2) := HW2.out.trans (H2.out.mono (Nat.le_of_lt hblr))
          obtain ⟨y0, y1⟩ := CX.out W2 (by rw [HBL.out]; exact BW.out)
          have Q2 : Hid (W2.heap[bl]? = some (.cells #[.int .i64 Q] 3 (0, 0))) := (H2.out.block bl hblr).trans HL2.out
          have CF := hid (ContainsFuncE_any 19 #[.pointer (some ⟨wr.heap.size, 0, none⟩), .pointer (some ⟨bl, 0, none⟩)] _ l (fun i => eb l i == k && Q.testBit (ea l i)) W2 (fun args w => enters_of Tryd.func19 (by kernel_rfl) rfl args w) (I0.out.below (by rw [HBL.out]; exact BW.out)) fun i hi w3 hb3 _ => ringQ_ok (ea l i) (eb l i) k Q wr.heap.size bl w3 hp8 (by have := (HEE.out i hi).1; omega) (one_cell ((hb3.block _ (Array.getElem?_eq_some_iff.1 V2.out).1).trans V2.out)).1 (one_cell ((hb3.block _ (Array.getElem?_eq_some_iff.1 Q2.out).1).trans Q2.out)).1)
          rw [cmB_list] at CF
          have HLT2 := hid hlt
          clear hlt hQ
          rcases hcb : cmB l 0 l.length Q k with _ | _
          · rw [hcb] at CF
            have HST2 : Hid (rgP l 0 l.length R (k + 1) = dif Q (2 ^ k)) := by show _ = _; rw [HST.out]; unfold rgS; rw [hcb]; rfl
            clear hcb HST
            go_wp2_with fail
            refine CF.out.mono ?_
            rintro e W3 ⟨rfl, hb3⟩
            have Q3 := hid ((hb3.block _ (Array.getElem?_eq_some_iff.1 Q2.out).1).trans Q2.out)
            have V3 := hid ((hb3.block _ (Array.getElem?_eq_some_iff.1 V2.out).1).trans V2.out)
            have B3 : Hid (Below bl w1 W3) := BW.out.trans (hb3.mono (by have := BW.out.size; have := HBL.out; omega))
            obtain ⟨q1, q2⟩ := one_cell Q3.out
            obtain ⟨z1, z2⟩ := one_cell V3.out
            clear hb3 CF
            have h128 : 2 ^ k ≤ 128 := Nat.le_trans (Nat.pow_le_pow_right (by omega) (show k ≤ 7 by omega)) (by decide)
            have hdn : bits .andNot .i64 (Q : Int) ((2 ^ k : Nat) : Int) = ((dif Q (2 ^ k) : Nat) : Int) := i64_andNot_nat Q (2 ^ k) (by omega) (by omega)
            have hcast : (2 : Int) ^ k = ((2 ^ k : Nat) : Int) := by simp
            have hsh : wrap64 (2 ^ k) = ((2 ^ k : Nat) : Int) := by rw [hcast]; exact IntWalk.wrap64_in _ ⟨Int.le_trans (by decide) (Int.natCast_nonneg _), Int.le_trans (Int.ofNat_le.2 h128) (by decide)⟩
            clear hcast h128
            obtain ⟨D, hD⟩ : ∃ D, dif Q (2 ^ k) = D := ⟨_, rfl⟩
            rw [hD] at hdn HST2
            obtain ⟨P, hP⟩ : ∃ P, 2 ^ k = P := ⟨_, rfl⟩
            rw [hP] at hsh hdn
            clear hD hP
            go_wp2_with fail
            go_region
            go_wp2_with fail
            go_roundw
            case rel => exact ⟨k + 1, HLT2.out, by go_num, by rw [HST2.out]; exact set_cell (w := W3.drew) Q3.out, B3.out.drew.setCell (p := ⟨bl, 0, none⟩) (Nat.le_refl _) _⟩
            case measure => have := HLT2.out; simp [intOf]; omega
          · rw [hcb] at CF
            have HST2 : Hid (rgP l 0 l.length R (k + 1) = Q) := by show _ = _; rw [HST.out]; unfold rgS; rw [hcb]; rfl
            clear hcb HST
            go_wp2_with fail
            refine CF.out.mono ?_
            rintro e W3 ⟨rfl, hb3⟩
            have Q3 := hid ((hb3.block _ (Array.getElem?_eq_some_iff.1 Q2.out).1).trans Q2.out)
            have B3 : Hid (Below bl w1 W3) := BW.out.trans (hb3.mono (by have := BW.out.size; have := HBL.out; omega))
            clear hb3 CF
            go_wp2_with fail
            go_roundw
            case rel => exact ⟨k + 1, HLT2.out, by go_num, by rw [HST2.out]; exact Q3.out, B3.out⟩
            case measure => have := HLT2.out; simp [intOf]; omega
        · obtain rfl : k = N := by omega
          have hn : ¬ (k : Int) < (k : Int) := by omega
          go_wp2_with fail
          go_roundw
          case rel => exact ⟨t + 1, HLT.out, by go_num, by rw [HRS.out]; exact HL2.out, HW2.out⟩
          case measure => have := HLT.out; simp [intOf]; omega
    · obtain rfl : t = N := by omega
      have hn : ¬ (t : Int) < (t : Int) := by omega
      obtain ⟨q1, -⟩ := one_cell HL.out
      have B9 : Hid (Below w.heap.size w wq) := B0.out.trans (HW.out.mono (by rw [← HBL.out]; exact B0.out.size))
      obtain ⟨z, hz0⟩ : ∃ z, rgT l 0 l.length t t = z := ⟨_, rfl⟩
      rw [hz0] at q1 HL
      have HZ := hid hz0
      clear hz0
      go_wp2_with fail
      go_ret
      refine ⟨ret_bool ?_, B9.out⟩
      rw [HZ.out]
      rcases Nat.eq_zero_or_pos z with hz | hz
      · subst hz
        rfl
      · have h1 : (z == 0) = false := by rw [beq_eq_false_iff_ne]; omega
        have h2 : ((z : Int) != 0) = true := by rw [bne_iff_ne]; omega
        rw [h1]
        first | exact h2 | simp [h2] | (simp; omega)
end Go.Proofs.YtfajbmcdkhgipaaDoor
