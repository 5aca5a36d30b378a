/- tutte.polynomial. -/
import Derived.Test.YtgfbajkonlaciaaTtBQ
import Derived.Test.YtgfbajkonlaciaaTMQ
import Derived.Test.YtgfbajkonlaciaaPlainAll1
import Derived.Deep.OwnRows
namespace Go.Proofs.Ytgfbajkonlaciaa
open Go.RowKit

set_option maxRecDepth 20000 in
set_option maxHeartbeats 2000000 in
theorem poly_any (m : Nat) (v : Value) (l : List Nat) (w : World) (hm : m ≤ 8) (hf : Fam m l) (hb : Bas l) (h : Ints w v (N l)) :
    Calls Try.prog 19 #[.agg #[.int .i64 m, v]] w fun e w' => ∃ g, e = .returned (.slice (some ⟨g, 0, none⟩) (rk l (2 ^ m - 1) + 1) (rk l (2 ^ m - 1) + 1)) ∧ w.heap.size ≤ g ∧ TblM g w' (rk l (2 ^ m - 1) + 1) (m - rk l (2 ^ m - 1) + 1) (fun i j => (ttN m l i j : Int)) ∧ Below w.heap.size w w' := by
  have hlen := fam_lenT hm hf
  have hl0 : 0 < l.length := List.length_pos_iff.2 hb.ne
  have hin : ∀ k, k < l.length → l.getD k 0 ∈ l := fun k hk => by simp [List.getD, hk]
  have HBI := hid (fun k hk => actI_pop hf hb (hin k hk))
  have HBO := hid (fun k hk => actO_pop hm hf hb (hin k hk))
  have HB8 := hid (fun k hk => hb.lt _ (hin k hk))
  have hR0 := bas_top hf hb (hin 0 hl0)
  have hRm := rank_n hm hb
  obtain ⟨R, HR⟩ : ∃ R, Hid (rk l (2 ^ m - 1) = R) := ⟨_, rfl⟩
  rw [HR.out] at HBI HBO hR0 hRm ⊢
  obtain ⟨D, hD, HD⟩ : ∃ D : Nat, (m : Int) - (R : Int) = (D : Int) ∧ Hid (m - R = D) := ⟨m - R, by omega, rfl⟩
  rw [HD.out]
  obtain ⟨N1, hN, HN⟩ : ∃ N1 : Nat, (R : Int) + 1 = (N1 : Int) ∧ Hid (R + 1 = N1) := ⟨R + 1, by omega, rfl⟩
  obtain ⟨M1, hM, HM⟩ : ∃ M1 : Nat, (D : Int) + 1 = (M1 : Int) ∧ Hid (D + 1 = M1) := ⟨D + 1, by omega, rfl⟩
  rw [HN.out, HM.out]
  have hN9 : N1 ≤ 9 := by rw [← HN.out]; omega
  have hM9 : M1 ≤ 9 := by rw [← HM.out, ← HD.out]; omega
  have hmk1 := fun w => run_make_row' (P := Try.prog) 47 25 (.slice none 0 0) 24 Try.undRows64 Try.infoRow64 rfl .i64 .i64 N1 (by omega) (by omega) w
  have hmk2 := fun w => run_make_row' (P := Try.prog) 25 2 (.int .i64 0) 8 Try.underlying25 Try.infoLong rfl .i64 .i64 M1 (by omega) (by omega) w
  have hB0 := below_box w #[.int .i64 m, v]
  have HI := hid h
  have HX : Hid (∀ w2, Below (w.alloc (.cells #[.int .i64 m, v] 24)).heap.size (w.alloc (.cells #[.int .i64 m, v] 24)) w2 → _) := fun w2 hb => box_cells hb
  obtain ⟨a, cap, rfl, -, hc⟩ := h.nats
  obtain ⟨vb, off, rfl, hvb, hcell⟩ := hc hl0
  have z0 := (hB0.cell (p := ⟨vb, off + 0, none⟩) hvb).trans (hcell 0 hl0)
  rw [Nat.add_zero] at z0
  have S1 := hid (fun w => size_any (l.getD 0 0) w (HB8.out 0 hl0))
  rw [← hR0] at S1
  clear hR0
  have HB0 := hid hB0
  have HCL := hid hcell
  clear hc hcell hB0 h hin
  generalize l.getD 0 0 = b0 at *
  go_enter Try.func19, Try.ntmps19
  go_wp2_with (go_at_call 31; refine (S1.out _).mono ?_; rintro e w' ⟨rfl, rfl⟩)
  have TH := TblH.new (w.alloc (.cells #[.int .i64 m, .slice (some ⟨vb, off, none⟩) l.length cap] 24)) N1 M1 25
  have hB1 := (Below.refl _ _).alloc (Nat.le_refl (w.alloc (.cells #[.int .i64 m, .slice (some ⟨vb, off, none⟩) l.length cap] 24)).heap.size) (.cells (madeCells #[.slice none 0 0] N1) 25)
  rw [World.size_alloc] at TH
  revert TH hB1
  generalize (w.alloc (.cells #[.int .i64 m, .slice (some ⟨vb, off, none⟩) l.length cap] 24)).alloc (.cells (madeCells #[.slice none 0 0] N1) 25) = W1
  intro TH hB1
  have HTH := hid TH
  have HB1 := hid hB1
  clear TH hB1 z0 hmk1 S1
  go_loopw [5, 20] (fun _ i wr => ∃ k : Nat, k ≤ N1 ∧ i = .int .i64 k ∧ Hid (TblH (w.heap.size + 1) wr N1 M1 k) ∧ Hid (Below (w.alloc (.cells #[.int .i64 m, .slice (some ⟨vb, off, none⟩) l.length cap] 24)).heap.size (w.alloc (.cells #[.int .i64 m, .slice (some ⟨vb, off, none⟩) l.length cap] 24)) wr)) (fun _ i _ => N1 - (intOf i).toNat)
  case atStart => exact ⟨0, Nat.zero_le _, rfl, HTH.out, HB1.out⟩
  case round =>
    obtain ⟨k, hk, rfl, HK, HW⟩ := hrel
    obtain ⟨x0, x1⟩ := HX.out wr HW.out
    by_cases hlt : k < N1
    · have hki : (k : Int) < (N1 : Int) := by omega
      have t0 := HK.out.todo k (Nat.le_refl _) hlt
      have f0 := HK.out.frozen k
      have ST := hid (HK.out.step hlt 2)
      have hsz := HK.out.size
      have t1 := (((Below.refl _ wr).alloc (Nat.le_refl _) (.cells (madeCells #[.int .i64 0] M1) 2)).cell (p := ⟨w.heap.size + 1, k, none⟩) (by show w.heap.size + 1 < _; omega)).trans t0
      have f1 := (froz_below ((Below.refl _ wr).alloc (Nat.le_refl _) (.cells (madeCells #[.int .i64 0] M1) 2)) (b := w.heap.size + 1) (off := k) (by omega)).trans f0
      have HW2 := hid ((HW.out.alloc (by simp; omega) (.cells (madeCells #[.int .i64 0] M1) 2)).setCell (p := ⟨w.heap.size + 1, k, none⟩) (by simp) (.slice (some ⟨wr.heap.size, 0, none⟩) M1 M1))
      have HSZ := hid hsz
      clear hsz
      go_wp2_with fail
      go_roundw
      case rel => exact ⟨k + 1, by omega, by go_num, ST.out, HW2.out⟩
      case measure => simp [intOf]; omega
    · obtain rfl : N1 = k := by omega
      have HT := hid HK.out.full
      clear HK HTH HB1 hmk2
      have hls : w.heap.size + 1 < wr.heap.size := HT.out.size
      go_wp2_with fail
      go_loopw [7, 8, 9, 36] (fun _ _ _ i wr' => ∃ t : Nat, t ≤ l.length ∧ i = .int .i64 t ∧ Hid (TblM (w.heap.size + 1) wr' N1 M1 (fun i j => (tcn m l t i j : Int))) ∧ Hid (Below (w.alloc (.cells #[.int .i64 m, .slice (some ⟨vb, off, none⟩) l.length cap] 24)).heap.size (w.alloc (.cells #[.int .i64 m, .slice (some ⟨vb, off, none⟩) l.length cap] 24)) wr')) (fun _ _ _ i _ => l.length - (intOf i).toNat)
      case atStart => exact ⟨0, Nat.zero_le _, rfl, HT.out.congr fun i _ j _ => by rw [tcn_zero]; rfl, HW.out⟩
      case round =>
        obtain ⟨t, ht, rfl, HK, HV⟩ := hrel
        obtain ⟨y0, y1⟩ := HX.out wr HV.out
        by_cases hlt' : t < l.length
        · have hti : (t : Int) < (l.length : Int) := by omega
          have z1 := ((HB0.out.trans (HV.out.mono HB0.out.size)).cell (p := ⟨vb, off + t, none⟩) hvb).trans (HCL.out t hlt')
          have b8 := HB8.out t hlt'
          have bI := HBI.out t hlt'
          have bO := HBO.out t hlt'
          have AC := hid (act_any m _ l (l.getD t 0) wr hm b8 (HI.out.below (HB0.out.trans (HV.out.mono HB0.out.size))))
          have TS := hid (fun i j => tcn_step (n := m) hlt' i j)
          have TL := hid (tcn_le m l t)
          have hI8 := lt256 hm (actI_lt l (l.getD t 0) m)
          have hO8 := lt256 hm (actO_lt l (l.getD t 0) m)
          clear x0 x1
          generalize l.getD t 0 = b at *
          generalize actI l b m = ai at *
          generalize actO l b m = ao at *
          go_wp2_with fail
          refine AC.out.mono ?_
          rintro e w2 ⟨rfl, hb2⟩
          obtain ⟨pi, hpi, hpi2⟩ : ∃ pi, pop ai = pi ∧ pi < N1 := ⟨_, rfl, by rw [← HN.out]; omega⟩
          obtain ⟨pj, hpj, hpj2⟩ : ∃ pj, pop ao = pj ∧ pj < M1 := ⟨_, rfl, by rw [← HM.out, ← HD.out]; omega⟩
          have HK2 := hid (HK.out.below hb2)
          have q1 := HK2.out.head pi hpi2
          have q2 := (HK2.out.row pi hpi2).cell pj hpj2
          have q3 := (HK2.out.row pi hpi2).frozen pj
          have TLE := TL.out pi pj
          have hwrap : (tcn m l t pi pj : Int) + 1 = ((tcn m l t pi pj + 1 : Nat) : Int) := by omega
          have S1 := hid (fun w => size_any ai w hI8)
          have S2 := hid (fun w => size_any ao w hO8)
          rw [hpi] at S1
          rw [hpj] at S2
          have NT : Hid (TblM (w.heap.size + 1) (w2.setCell ⟨w.heap.size + 1 + 1 + pi, pj, none⟩ (.int .i64 ((tcn m l t pi pj + 1 : Nat) : Int))) N1 M1 (fun i j => (tcn m l (t + 1) i j : Int))) := HK2.out.set pi pj _ hpi2 hpj2 fun i _ j _ => by
            rw [TS.out, hpi, hpj]
            by_cases hq : pi = i ∧ pj = j
            · obtain ⟨rfl, rfl⟩ := hq; simp
            · rw [if_neg hq, if_neg hq]
          have HV2 := hid (HV.out.trans (hb2.mono HV.out.size))
          have hpi3 : (pi : Int) < (N1 : Int) := by omega
          have hpj3 : (pj : Int) < (M1 : Int) := by omega
          clear hb2 HK HK2 TS TL bI bO hpi hpj hwrap
          generalize tcn m l t pi pj = cx at *
          have hwrap2 : IntKind.i64.wrap ((cx : Int) + 1) = ((cx + 1 : Nat) : Int) := by
            rw [show (cx : Int) + 1 = ((cx + 1 : Nat) : Int) by omega]
            exact wrap_i64_nat _ (by omega)
          go_wp2_with fail
          go_region_with (first | (go_at_call_of 31 (Value.int IntKind.i64 (ai : Int)); (with_reducible refine (S1.out _).mono ?_); rintro e w' ⟨rfl, rfl⟩) | (go_at_call_of 31 (Value.int IntKind.i64 (ao : Int)); (with_reducible refine (S2.out _).mono ?_); rintro e w' ⟨rfl, rfl⟩))
          all_goals go_wp2_with fail
          all_goals go_roundw
          case rel => exact ⟨t + 1, by omega, by go_num, NT.out.drew, (HV2.out.setCell (p := ⟨w.heap.size + 1 + 1 + pi, pj, none⟩) (by simp; omega) _).drew⟩
          case measure => simp [intOf]; omega
          case rel => exact ⟨t + 1, by omega, by go_num, NT.out.drew, (HV2.out.setCell (p := ⟨w.heap.size + 1 + 1 + pi, pj, none⟩) (by simp; omega) _).drew⟩
          case measure => simp [intOf]; omega
        · obtain rfl : t = l.length := by omega
          have TT : Hid (TblM (w.heap.size + 1) wr N1 M1 fun i j => (ttN m l i j : Int)) := HK.out.congr fun i _ j _ => by rw [tcn_full]
          have HF := hid (HB0.out.trans (HV.out.mono HB0.out.size))
          go_wp2_with fail
          go_ret
          exact ⟨_, rfl, by omega, TT.out, HF.out⟩
end Go.Proofs.Ytgfbajkonlaciaa
