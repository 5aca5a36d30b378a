/- rotaref.Characteristic. -/
import Derived.Test.YtpmpfnbgjgjlgaaFlAQ
import Derived.Test.YtpmpfnbgjgjlgaaRefAxCQ
namespace Go.Proofs.Ytpmpfnbgjgjlgaa
open Go.RowKit

set_option maxRecDepth 20000 in
set_option maxHeartbeats 2000000 in
theorem Characteristic_ref (m : Nat) (v : Value) (l : List Nat) (w : World) (hm : m ≤ 8) (hf : Fam m l) (hb : Bas l) (h : Ints w v (N l)) :
    Calls Try.prog 11 #[.agg #[.int .i64 m, v]] w fun e w' => ∃ u, e = .returned u ∧ RkZ w' u (rk l (2 ^ m - 1) + 1) (chrS (rk l) (rk l (2 ^ m - 1)) (2 ^ m)) ∧ Below w.heap.size w w' := by
  have HI := hid h
  obtain ⟨a, cap, hv, -, -⟩ := h.nats
  subst hv
  have HB0 := hid (below_box w #[.int .i64 m, .slice a l.length cap])
  have HC := hid (Ranks_ref m _ l _ hm (hf.lt256 hm) (HI.out.below HB0.out))
  have hr8 := rk_small hm hf
  have hmo : ∀ s, s < 2 ^ m → rk l s ≤ rk l (2 ^ m - 1) := fun s hs => hb.rk.mono s _ (subB_iff.2 fun j hj => by rw [full_bit]; simp; exact bit_n hs hj)
  have AL := hid (fun w => All_nat m w hm)
  have HX : Hid (∀ w2, Below (w.alloc (.cells #[.int .i64 m, .slice a l.length cap] 24)).heap.size (w.alloc (.cells #[.int .i64 m, .slice a l.length cap] 24)) w2 → w2.cell? ⟨w.heap.size, 0, none⟩ = some (.int .i64 m)) := fun w2 hb => (box_cells hb).1
  obtain ⟨T, HT, hT2, hT1⟩ : ∃ T : Nat, Hid (2 ^ m = T) ∧ T ≤ 256 ∧ 1 ≤ T := ⟨2 ^ m, Eq.refl (2 ^ m), (pow_wrap _ hm).2, Nat.one_le_two_pow⟩
  rw [HT.out] at HC hmo AL ⊢
  obtain ⟨A, hAT, hA2⟩ : ∃ A : Nat, A + 1 = T ∧ T - 1 = A := ⟨T - 1, by omega, rfl⟩
  rw [hA2] at hmo AL ⊢
  clear hA2 HT
  have hR8 := hr8 A
  have HM := hid hmo
  have H8 := hid hr8
  clear hmo hr8
  obtain ⟨R, HRA⟩ : ∃ R, Hid (rk l A = R) := ⟨_, rfl⟩
  rw [HRA.out] at hR8 HM ⊢
  obtain ⟨N1, hN1, hN2⟩ : ∃ N1 : Nat, (R : Int) + 1 = (N1 : Int) ∧ N1 = R + 1 := ⟨R + 1, by omega, rfl⟩
  rw [← hN2]
  have hmk := fun w => run_make_row' (P := Try.prog) 27 2 (.int .i64 0) 8 Try.underlying27 Try.infoLong rfl .i64 .i64 N1 (by omega) (by omega) w
  have HN2 := hid hN2
  clear hN2
  generalize rk l = r at *
  go_enter Try.func11, Try.ntmps11
  go_wp2_with fail
  refine HC.out.mono ?_
  rintro e w2 ⟨ru, rfl, hru, hb2⟩
  have x0 := HX.out w2 hb2
  have hs2 : w.heap.size + 1 ≤ w2.heap.size := by have := hb2.size; simpa using this
  have HB2 := hid (HB0.out.trans (hb2.mono HB0.out.size))
  have HR := hid hru
  obtain ⟨rb, roff, rcap, rfl, hrb, -⟩ := hru
  have c0 := HR.out.cellAt (Below.refl _ _) (i := A) (by omega)
  rw [HRA.out] at c0
  have hAi : (A : Int) < (T : Int) := by omega
  have tb := TblZ.new w2 N1 2
  have hB3 : Below w2.heap.size w2 (w2.alloc (.cells (madeCells #[.int .i64 0] N1) 2)) := (Below.refl _ _).alloc (Nat.le_refl _) _
  obtain ⟨W1, hW1⟩ : ∃ W1, w2.alloc (.cells (madeCells #[.int .i64 0] N1) 2) = W1 := ⟨_, rfl⟩
  rw [hW1] at tb hB3
  have HTB := hid tb
  have HB3 := hid hB3
  clear hb2 tb hB3 HC HX
  go_wp2_with fail
  refine (AL.out _).mono ?_
  rintro e w3 ⟨rfl, h3⟩
  obtain rfl := h3.symm
  go_wp2_with fail
  clear hmk hW1
  go_loopw [6] (fun i wr => ∃ k : Nat, k ≤ T ∧ i = .int .i64 k ∧ Hid (TblZ w2.heap.size wr N1 (chrS r R k)) ∧ Hid (Below w2.heap.size W1 wr)) (fun i _ => T - (intOf i).toNat)
  case atStart => exact ⟨0, Nat.zero_le _, rfl, HTB.out, Below.refl _ _⟩
  case round =>
    obtain ⟨k, hk, rfl, HK, HW⟩ := hrel
    have hb23 := HB3.out.trans HW.out
    have y0 := (hb23.cell (p := ⟨w.heap.size, 0, none⟩) (by show w.heap.size < _; omega)).trans x0
    by_cases hlt : k < T
    · have x1 := HR.out.cellAt hb23 hlt
      have r8 := H8.out k
      have rm := HM.out k hlt
      have hkA : (k : Int) ≤ (A : Int) := by omega
      have hkT : (k : Int) < (T : Int) := by omega
      obtain ⟨d, hd, hd2⟩ : ∃ d : Nat, (R : Int) - (r k : Int) = (d : Int) ∧ R - r k = d := ⟨R - r k, by omega, rfl⟩
      have dN : d < N1 := by rw [HN2.out]; omega
      have hdi : (d : Int) < (N1 : Int) := by omega
      have hb := chr_bound r R k d
      have hk1 : w2.heap.size < wr.heap.size := HK.out.size
      have ST : Hid (∀ w', Below wr.heap.size wr w' → ∀ x : Int, x = chrS r R k d + sgn k → TblZ w2.heap.size (w'.setCell ⟨w2.heap.size, d, none⟩ (.int .i64 x)) N1 (chrS r R (k + 1))) := fun w' hb' x hx => (HK.out.below hb').set d x dN (fun i hi => by rw [chr_step, hd2, hx]; split <;> simp_all)
      have CL : Hid (∀ w', Below wr.heap.size wr w' → w'.cell? ⟨w2.heap.size, d, none⟩ = some (.int .i64 (chrS r R k d)) ∧ w'.frozen? ⟨w2.heap.size, d, none⟩ = false ∧ w'.cell? ⟨rb, roff + k, none⟩ = some (.int .i64 (r k : Nat))) := fun w' hb' => ⟨(HK.out.below hb').cell _ dN, (HK.out.below hb').frozen _, HR.out.cellAt (hb23.trans (hb'.mono hb23.size)) hlt⟩
      have S1 := hid (fun w => Size_any k w (by omega))
      have p8 := pop_le k (by omega)
      have PP := hid (tmod_two (pop k))
      have PE := hid (fun h => sgn_even (s := k) h)
      have PO := hid (fun h => sgn_odd (s := k) h)
      clear HK hd2 hb23
      generalize chrS r R k d = x at *
      generalize pop k = p at *
      generalize sgn k = sg at *
      generalize r k = rk0 at *
      have hlo : -256 ≤ x := by omega
      have hhi : x ≤ 256 := by omega
      clear hb
      go_wp2_with fail
      refine (AL.out _).mono ?_
      rintro e w3 ⟨rfl, h3⟩
      obtain rfl := h3.symm
      rcases Nat.mod_two_eq_zero_or_one p with hp | hp
      · have e1 : Int.tmod (p : Int) 2 = 0 := by rw [PP.out, hp]; rfl
        have F := hid (fun w' hb' => ST.out w' hb' (x + 1) (by rw [PE.out hp]))
        clear hp PE PO ST PP
        go_wp2_with fail
        refine (S1.out _).mono ?_
        rintro e w4 ⟨rfl, hb4⟩
        obtain ⟨q1, q2, q3⟩ := CL.out w4 hb4
        have F4 := hid (F.out w4 hb4)
        have HW4 := hid (HW.out.trans (hb4.mono (Nat.le_of_lt hk1)))
        clear hb4 CL F
        go_wp2_with fail
        go_roundw
        case rel => exact ⟨k + 1, by omega, by go_num, F4.out, HW4.out.setCell (p := ⟨w2.heap.size, d, none⟩) (Nat.le_refl _) _⟩
        case measure => simp [intOf]; omega
      · have e1 : Int.tmod (p : Int) 2 = 1 := by rw [PP.out, hp]; rfl
        have F := hid (fun w' hb' => ST.out w' hb' (x - 1) (by rw [PO.out hp]; omega))
        clear hp PE PO ST PP
        go_wp2_with fail
        refine (S1.out _).mono ?_
        rintro e w4 ⟨rfl, hb4⟩
        obtain ⟨q1, q2, q3⟩ := CL.out w4 hb4
        have F4 := hid (F.out w4 hb4)
        have HW4 := hid (HW.out.trans (hb4.mono (Nat.le_of_lt hk1)))
        clear hb4 CL F
        go_wp2_with fail
        go_roundw
        case rel => exact ⟨k + 1, by omega, by go_num, F4.out, HW4.out.setCell (p := ⟨w2.heap.size, d, none⟩) (Nat.le_refl _) _⟩
        case measure => simp [intOf]; omega
    · obtain rfl : k = T := by omega
      have hkA : ¬ (k : Int) ≤ (A : Int) := by omega
      have HF := hid (HB2.out.trans (hb23.mono HB2.out.size))
      clear hb23
      go_wp2_with fail
      refine (AL.out _).mono ?_
      rintro e w3 ⟨rfl, h3⟩
      obtain rfl := h3.symm
      go_wp2_with fail
      go_ret
      exact ⟨_, rfl, HK.out.rkZ, HF.out⟩
end Go.Proofs.Ytpmpfnbgjgjlgaa
