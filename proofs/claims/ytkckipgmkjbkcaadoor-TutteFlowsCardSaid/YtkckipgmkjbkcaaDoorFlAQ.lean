/- flats.characteristic, flats.countByRank, flats.mobius. -/
import Derived.Test.YtkckipgmkjbkcaaDoorIsIndW
import Derived.Test.YtkckipgmkjbkcaaDoorPlainAll
import Derived.Test.YtkckipgmkjbkcaaDoorAxQ
namespace Go.Proofs.YtkckipgmkjbkcaaDoor
open Go.RowKit

theorem Tryd.infoLong : (Tryd.prog.info? 2).map (fun i => (i.zero, i.size, i.bytes)) = some (some (.int .i64 0), 1, 8) := by kernel_rfl
theorem sgn_even {s : Nat} (h : pop s % 2 = 0) : sgn s = 1 := by unfold sgn; rw [if_neg (by omega)]
theorem sgn_odd {s : Nat} (h : pop s % 2 = 1) : sgn s = -1 := by unfold sgn; rw [if_pos h]
theorem tmod_two (p : Nat) : Int.tmod (p : Int) 2 = ((p % 2 : Nat) : Int) := rfl
set_option maxRecDepth 20000 in
set_option maxHeartbeats 2000000 in
theorem characteristic_any (v : Value) (n : Nat) (r : Nat → Nat) (w : World) (hn : n ≤ 8) (hr8 : ∀ i, r i ≤ 8) (hmo : ∀ s, s < 2 ^ n → r s ≤ r (2 ^ n - 1)) (h : RkAt w v (2 ^ n) r) :
    Calls Tryd.prog 29 #[v] w fun e w' => ∃ u, e = .returned u ∧ RkZ w' u (r (2 ^ n - 1) + 1) (chrS r (r (2 ^ n - 1)) (2 ^ n)) ∧ Below w.heap.size w w' := by
  obtain ⟨T, HT, hT2, hT1⟩ : ∃ T : Nat, Hid (2 ^ n = T) ∧ T ≤ 256 ∧ 1 ≤ T := ⟨2 ^ n, Eq.refl (2 ^ n), (pow_wrap _ hn).2, Nat.one_le_two_pow⟩
  rw [HT.out] at h hmo ⊢
  obtain ⟨A, hA, hAT⟩ : ∃ A : Nat, (T : Int) - 1 = (A : Int) ∧ A + 1 = T := ⟨T - 1, by omega, by omega⟩
  have hA2 : T - 1 = A := by omega
  rw [hA2] at hmo ⊢
  clear hA2 HT
  have HR := hid h
  obtain ⟨rb, roff, rcap, rfl, hrb, -⟩ := h
  have c0 := HR.out.cellAt (Below.refl _ _) (i := A) (by omega)
  have hR8 := hr8 A
  have HM := hid hmo
  have H8 := hid hr8
  clear hmo hr8
  obtain ⟨R, HRA⟩ : ∃ R, Hid (r A = R) := ⟨_, rfl⟩
  rw [HRA.out] at c0 hR8 HM ⊢
  obtain ⟨N1, hN1, hN2⟩ : ∃ N1 : Nat, (R : Int) + 1 = (N1 : Int) ∧ N1 = R + 1 := ⟨R + 1, by omega, rfl⟩
  rw [← hN2]
  have hmk := fun w => run_make_row' (P := Tryd.prog) 25 2 (.int .i64 0) 8 Tryd.underlying25 Tryd.infoLong rfl .i64 .i64 N1 (by omega) (by omega) w
  have tb := TblZ.new w N1 2
  have hB0 : Below w.heap.size w (w.alloc (.cells (madeCells #[.int .i64 0] N1) 2)) := (Below.refl _ _).alloc (Nat.le_refl _) _
  have hsz : (w.alloc (.cells (madeCells #[.int .i64 0] N1) 2)).heap.size = w.heap.size + 1 := World.size_alloc ..
  have HTB := hid tb
  have HB0 := hid hB0
  have HSZ := hid hsz
  have HN2 := hid hN2
  clear tb hB0 hsz hN2
  go_enter Tryd.func29, Tryd.ntmps29
  go_wp2_with fail
  obtain ⟨W1, HW1⟩ : ∃ W1, Hid (w.alloc (.cells (madeCells #[.int .i64 0] N1) 2) = W1) := ⟨_, rfl⟩
  rw [HW1.out] at HTB HB0 HSZ ⊢
  clear hmk HW1
  go_loopw [18] (fun i wr => ∃ k : Nat, k ≤ T ∧ i = .int .i64 k ∧ Hid (TblZ w.heap.size wr N1 (chrS r R k)) ∧ Hid (Below w.heap.size W1 wr)) (fun i _ => T - (intOf i).toNat)
  case atStart => exact ⟨0, Nat.zero_le _, rfl, HTB.out, Below.refl _ _⟩
  case round =>
    obtain ⟨k, hk, rfl, HK, HW⟩ := hrel
    by_cases hlt : k < T
    · have x1 := HR.out.cellAt (HB0.out.trans HW.out) hlt
      have r8 := H8.out k
      have rm := HM.out k hlt
      obtain ⟨d, hd, hd2⟩ : ∃ d : Nat, (R : Int) - (r k : Int) = (d : Int) ∧ R - r k = d := ⟨R - r k, by omega, rfl⟩
      have dN : d < N1 := by rw [HN2.out]; omega
      have hdi : (d : Int) < (N1 : Int) := by omega
      have x2 := HK.out.cell d dN
      have x3 := HK.out.frozen d
      have hb := chr_bound r R k d
      have ST : Hid (∀ x : Int, x = chrS r R k d + sgn k → TblZ w.heap.size (wr.setCell ⟨w.heap.size, d, none⟩ (.int .i64 x)) N1 (chrS r R (k + 1))) := fun x hx => HK.out.set d x dN (fun i hi => by rw [chr_step, hd2, hx]; split <;> simp_all)
      have S1 := hid (fun w => size_any k w (by omega))
      have p8 := pop_le k (by omega)
      have PP := hid (tmod_two (pop k))
      have PE := hid (fun h => sgn_even (s := k) h)
      have PO := hid (fun h => sgn_odd (s := k) h)
      clear HK hd2
      generalize chrS r R k d = x at *
      generalize pop k = p at *
      generalize sgn k = sg at *
      generalize r k = rk0 at *
      have hlo : -256 ≤ x := by omega
      have hhi : x ≤ 256 := by omega
      clear hb
      rcases Nat.mod_two_eq_zero_or_one p with hp | hp
      · have e1 : Int.tmod (p : Int) 2 = 0 := by rw [PP.out, hp]; rfl
        have F := hid (ST.out (x + 1) (by rw [PE.out hp]))
        clear hp PE PO ST PP
        go_wp2_with fail
        refine (S1.out _).mono ?_
        rintro e w1 ⟨rfl, rfl⟩
        go_wp2_with fail
        go_roundw
        case rel => exact ⟨k + 1, by omega, by go_num, F.out, HW.out.setCell (p := ⟨w.heap.size, d, none⟩) (Nat.le_refl _) _⟩
        case measure => simp [intOf]; omega
      · have e1 : Int.tmod (p : Int) 2 = 1 := by rw [PP.out, hp]; rfl
        have F := hid (ST.out (x - 1) (by rw [PO.out hp]; omega))
        clear hp PE PO ST PP
        go_wp2_with fail
        refine (S1.out _).mono ?_
        rintro e w1 ⟨rfl, rfl⟩
        go_wp2_with fail
        go_roundw
        case rel => exact ⟨k + 1, by omega, by go_num, F.out, HW.out.setCell (p := ⟨w.heap.size, d, none⟩) (Nat.le_refl _) _⟩
        case measure => simp [intOf]; omega
    · obtain rfl : k = T := by omega
      go_wp2_with fail
      go_ret
      exact ⟨_, rfl, HK.out.rkZ, HB0.out.trans HW.out⟩
end Go.Proofs.YtkckipgmkjbkcaaDoor
