/- flats.characteristic, flats.countByRank, flats.mobius. -/
import Derived.Test.YtkmpnaohdijpnaaGreatDoorTZW
import Derived.Test.YtkmpnaohdijpnaaGreatDoorPlainAll
import Derived.Test.YtkmpnaohdijpnaaGreatDoorIsIndW
import Derived.Test.YtkmpnaohdijpnaaGreatDoorKGraph2W
import Derived.Test.YtkmpnaohdijpnaaGreatDoorPlainAll1
namespace Go.Proofs.YtkmpnaohdijpnaaGreatDoor
open Go.RowKit

theorem Tryz.infoLong : (Tryz.prog.info? 2).map (fun i => (i.zero, i.size, i.bytes)) = some (some (.int .i64 0), 1, 8) := by kernel_rfl
theorem sgn_even {s : Nat} (h : pop s % 2 = 0) : sgn s = 1 := by unfold sgn; rw [if_neg (by omega)]
theorem sgn_odd {s : Nat} (h : pop s % 2 = 1) : sgn s = -1 := by unfold sgn; rw [if_pos h]
theorem tmod_two (p : Nat) : Int.tmod (p : Int) 2 = ((p % 2 : Nat) : Int) := rfl
set_option maxRecDepth 20000 in
set_option maxHeartbeats 2000000 in
theorem characteristic_any (v : Value) (n : Nat) (r : Nat → Nat) (w : World) (hn : n ≤ 8) (hr8 : ∀ i, r i ≤ 8) (hmo : ∀ s, s < 2 ^ n → r s ≤ r (2 ^ n - 1)) (h : RkAt w v (2 ^ n) r) :
    Calls Tryz.prog 24 #[v] w fun e w' => ∃ u, e = .returned u ∧ RkZ w' u (r (2 ^ n - 1) + 1) (chrS r (r (2 ^ n - 1)) (2 ^ n)) ∧ Below w.heap.size w w' := by
  obtain ⟨T, HT, hT2, hT1⟩ : ∃ T : Nat, Hid (2 ^ n = T) ∧ T ≤ 256 ∧ 1 ≤ T := ⟨2 ^ n, Eq.refl (2 ^ n), (pow_wrap _ hn).2, Nat.one_le_two_pow⟩
  rw [HT.out] at h hmo ⊢
  obtain ⟨A, hA, hAT⟩ : ∃ A : Nat, (T : Int) - 1 = (A : Int) ∧ A + 1 = T := ⟨T - 1, by omega, by omega⟩
  have hA2 : T - 1 = A := by omega
  rw [hA2] at hmo ⊢
  clear hA2 HT
  have HR := hid h
  obtain ⟨rb, roff, rcap, rfl, hrb, -⟩ := h
  have c0 := HR.out.cellAt (Below.refl _ _) (i := A) (by omega)
  have hR8 := hr8 A
  have HM := hid hmo
  have H8 := hid hr8
  clear hmo hr8
  obtain ⟨R, HRA⟩ : ∃ R, Hid (r A = R) := ⟨_, rfl⟩
  rw [HRA.out] at c0 hR8 HM ⊢
  obtain ⟨N1, hN1, hN2⟩ : ∃ N1 : Nat, (R : Int) + 1 = (N1 : Int) ∧ N1 = R + 1 := ⟨R + 1, by omega, rfl⟩
  rw [← hN2]
  have hmk := fun w => run_make_row' (P := Tryz.prog) 25 2 (.int .i64 0) 8 Tryz.underlying25 Tryz.infoLong rfl .i64 .i64 N1 (by omega) (by omega) w
  have tb := TblZ.new w N1 2
  have hB0 : Below w.heap.size w (w.alloc (.cells (madeCells #[.int .i64 0] N1) 2)) := (Below.refl _ _).alloc (Nat.le_refl _) _
  have hsz : (w.alloc (.cells (madeCells #[.int .i64 0] N1) 2)).heap.size = w.heap.size + 1 := World.size_alloc ..
  have HTB := hid tb
  have HB0 := hid hB0
  have HSZ := hid hsz
  have HN2 := hid hN2
  clear tb hB0 hsz hN2
  go_enter Tryz.func24, Tryz.ntmps24
  go_wp2_with fail
  obtain ⟨W1, HW1⟩ : ∃ W1, Hid (w.alloc (.cells (madeCells #[.int .i64 0] N1) 2) = W1) := ⟨_, rfl⟩
  rw [HW1.out] at HTB HB0 HSZ ⊢
  clear hmk HW1
  go_loopw [18] (fun i wr => ∃ k : Nat, k ≤ T ∧ i = .int .i64 k ∧ Hid (TblZ w.heap.size wr N1 (chrS r R k)) ∧ Hid (Below w.heap.size W1 wr)) (fun i _ => T - (intOf i).toNat)
  case atStart => exact ⟨0, Nat.zero_le _, rfl, HTB.out, Below.refl _ _⟩
  case round =>
    obtain ⟨k, hk, rfl, HK, HW⟩ := hrel
    by_cases hlt : k < T
    · have x1 := HR.out.cellAt (HB0.out.trans HW.out) hlt
      have r8 := H8.out k
      have rm := HM.out k hlt
      obtain ⟨d, hd, hd2⟩ : ∃ d : Nat, (R : Int) - (r k : Int) = (d : Int) ∧ R - r k = d := ⟨R - r k, by omega, rfl⟩
      have dN : d < N1 := by rw [HN2.out]; omega
      have hdi : (d : Int) < (N1 : Int) := by omega
      have x2 := HK.out.cell d dN
      have x3 := HK.out.frozen d
      have hb := chr_bound r R k d
      have ST : Hid (∀ x : Int, x = chrS r R k d + sgn k → TblZ w.heap.size (wr.setCell ⟨w.heap.size, d, none⟩ (.int .i64 x)) N1 (chrS r R (k + 1))) := fun x hx => HK.out.set d x dN (fun i hi => by rw [chr_step, hd2, hx]; split <;> simp_all)
      have S1 := hid (fun w => size_any k w (by omega))
      have p8 := pop_le k (by omega)
      have PP := hid (tmod_two (pop k))
      have PE := hid (fun h => sgn_even (s := k) h)
      have PO := hid (fun h => sgn_odd (s := k) h)
      clear HK hd2
      generalize chrS r R k d = x at *
      generalize pop k = p at *
      generalize sgn k = sg at *
      generalize r k = rk0 at *
      have hlo : -256 ≤ x := by omega
      have hhi : x ≤ 256 := by omega
      clear hb
      rcases Nat.mod_two_eq_zero_or_one p with hp | hp
      · have e1 : Int.tmod (p : Int) 2 = 0 := by rw [PP.out, hp]; rfl
        have F := hid (ST.out (x + 1) (by rw [PE.out hp]))
        clear hp PE PO ST PP
        go_wp2_with fail
        refine (S1.out _).mono ?_
        rintro e w1 ⟨rfl, rfl⟩
        go_wp2_with fail
        go_roundw
        case rel => exact ⟨k + 1, by omega, by go_num, F.out, HW.out.setCell (p := ⟨w.heap.size, d, none⟩) (Nat.le_refl _) _⟩
        case measure => simp [intOf]; omega
      · have e1 : Int.tmod (p : Int) 2 = 1 := by rw [PP.out, hp]; rfl
        have F := hid (ST.out (x - 1) (by rw [PO.out hp]; omega))
        clear hp PE PO ST PP
        go_wp2_with fail
        refine (S1.out _).mono ?_
        rintro e w1 ⟨rfl, rfl⟩
        go_wp2_with fail
        go_roundw
        case rel => exact ⟨k + 1, by omega, by go_num, F.out, HW.out.setCell (p := ⟨w.heap.size, d, none⟩) (Nat.le_refl _) _⟩
        case measure => simp [intOf]; omega
    · obtain rfl : k = T := by omega
      go_wp2_with fail
      go_ret
      exact ⟨_, rfl, HK.out.rkZ, HB0.out.trans HW.out⟩
end Go.Proofs.YtkmpnaohdijpnaaGreatDoor

namespace Go.Proofs.YtkmpnaohdijpnaaGreatDoor
open Go.RowKit

theorem below_drewF {B : Nat} {w w' : World} (h : Below B w w') (k : Nat) : Below B w (w'.drewN k) := h.trans (drewN_below _ _ _)

theorem flats_ints_cell {w w' : World} {b off cap : Nat} {l : List Nat} (h : Ints w (.slice (some ⟨b, off, none⟩) l.length cap) (N l)) (hb : Below w.heap.size w w') {i : Nat} (hi : i < l.length) : w'.cell? ⟨b, off + i, none⟩ = some (.int .i64 (l.getD i 0 : Nat)) := by
  obtain ⟨a, c, e, _, hc⟩ := (h.below hb).nats
  obtain ⟨b', off', rfl, hb', hcell⟩ := hc (by omega)
  obtain ⟨⟨rfl, rfl⟩, rfl⟩ : (b = b' ∧ off = off') ∧ cap = c := by simpa using e
  exact hcell i hi
end Go.Proofs.YtkmpnaohdijpnaaGreatDoor

namespace Go.Proofs.YtkmpnaohdijpnaaGreatDoor
open Go.RowKit

theorem rk_top {m : Nat} {l : List Nat} (hb : Bas l) : ∀ s, s < 2 ^ m → rk l s ≤ rk l (2 ^ m - 1) := fun s hs => hb.rk.mono s _ (subB_iff.2 fun j hj => by rw [full_bit]; simp; exact bit_n hs hj)
theorem Tbl.belowF {g : Nat} {w w' : World} {T : Nat} {f : Nat → Nat} (h : Tbl g w T f) (hb : Below w.heap.size w w') : Tbl g w' T f :=
  ⟨fun i hi => (hb.cell (p := ⟨g, i, none⟩) h.size).trans (h.cell i hi), fun i => (froz_below hb h.size).trans (h.frozen i), Nat.lt_of_lt_of_le h.size hb.size⟩
theorem Characteristic_bad (n : Int) (v : Value) (zs : List Int) (w : World) (h : Ints w v zs) (hc : chkR n zs ≠ 0) :
    Calls Tryz.prog 9 #[.agg #[.int .i64 n, v]] w fun e w' => e = .returned (.tuple #[.slice none 0 0, .int .i64 (chkR n zs)]) ∧ Below w.heap.size w w' := by
  have HI := hid h
  obtain ⟨a, cap, rfl, _, _⟩ := h
  have HB0 := hid (below_box w #[.int .i64 n, .slice a zs.length cap])
  have HC := hid (Ranks_bad n _ zs _ (HI.out.below HB0.out) hc)
  generalize chkR n zs = q at *
  have hc' : (q == 0) = false := by rw [beq_eq_false_iff_ne]; exact hc
  go_enter Tryz.func9, Tryz.ntmps9
  go_wp2_with fail
  refine HC.out.mono ?_
  rintro e w2 ⟨rfl, hb2⟩
  have HB := hid (HB0.out.trans (hb2.mono HB0.out.size))
  clear hb2
  go_wp2_with fail
  go_ret2
  exact ⟨rfl, HB.out⟩
theorem Characteristic_ok (m : Nat) (v : Value) (l : List Nat) (w : World) (hm : m ≤ 8) (hf : Fam m l) (hb : Bas l) (h : Ints w v (N l)) :
    Calls Tryz.prog 9 #[.agg #[.int .i64 m, v]] w fun e w' => ∃ u, e = .returned (.tuple #[u, .int .i64 0]) ∧ RkZ w' u (rk l (2 ^ m - 1) + 1) (chrS (rk l) (rk l (2 ^ m - 1)) (2 ^ m)) ∧ Below w.heap.size w w' := by
  have HI := hid h
  obtain ⟨a, cap, hv, -, -⟩ := h.nats
  subst hv
  have HB0 := hid (below_box w #[.int .i64 m, .slice a l.length cap])
  have HC := hid (Ranks_ok m _ l _ hm hf hb (HI.out.below HB0.out))
  have HM := hid (fun v w h => characteristic_any v m (rk l) w hm (rk_small hm hf) (rk_top hb) h)
  generalize chrS (rk l) (rk l (2 ^ m - 1)) (2 ^ m) = mf at *
  generalize rk l (2 ^ m - 1) + 1 = N1 at *
  generalize 2 ^ m = T at *
  go_enter Tryz.func9, Tryz.ntmps9
  go_wp2_with fail
  refine HC.out.mono ?_
  rintro e w2 ⟨r, rfl, ho, hb2⟩
  have HB := hid (HB0.out.trans (hb2.mono HB0.out.size))
  have HN := hid (HM.out r w2 ho)
  clear hb2 ho HM
  go_wp2_with fail
  refine HN.out.mono ?_
  rintro e w3 ⟨u, rfl, hu, hb3⟩
  have HU := hid hu
  have HB3 := hid (HB.out.trans (hb3.mono HB.out.size))
  clear hu hb3
  go_wp2_with fail
  go_ret2
  exact ⟨_, rfl, HU.out, HB3.out⟩
end Go.Proofs.YtkmpnaohdijpnaaGreatDoor

namespace Go.Proofs.YtkmpnaohdijpnaaGreatDoor
open Go.RowKit

/-- The bases of a graph's matroid. -/
def gbL (F : List (Int × Int)) : List Nat := bigL F.length fun s => !ringB (natE F) s
theorem graph_is {n : Int} {F : List (Int × Int)} (h : graphR n F = 0) : ∃ N : Nat, n = N ∧ 1 ≤ N ∧ N ≤ 7 ∧ (∀ j, j < F.length → (F.getD j (0, 0)).1 = (ea (natE F) j : Nat) ∧ (F.getD j (0, 0)).2 = (eb (natE F) j : Nat)) ∧ GrM (natE F) N F.length (gbL F) := by
  unfold graphR at h
  split at h
  · rename_i hg
    obtain ⟨h1, h7, h8, hall⟩ := hg
    obtain ⟨N, rfl⟩ : ∃ N : Nat, n = N := ⟨n.toNat, by omega⟩
    have hl := natE_len F
    have hE : ∀ j, j < (natE F).length → ea (natE F) j < 7 ∧ eb (natE F) j < 7 := natE_lt h7 hall
    have e0 : gbL F = basR (natE F).length (depR (natE F).length (depG (natE F))) := by
      unfold gbL
      rw [← hl]
      exact ofInd_eq (by omega) ((depG_dep (natE F) (natE F).length).rkOn (by omega)) fun _ hs => ring_iff (by omega) hE hs
    have hd := (depG_dep (natE F) (natE F).length).rkOn (by omega : (natE F).length ≤ 8)
    refine ⟨N, rfl, by omega, by omega, fun j hj => ?_, hl.symm, h8, fun j hj => ?_, big_fam _ _, ?_, fun s hs => ?_⟩
    · have hb := edge_in hall hj
      unfold ea eb
      rw [natE_at hj]
      dsimp only
      omega
    · have hb := edge_in hall hj
      unfold ea eb
      rw [natE_at hj]
      dsimp only
      omega
    · rw [e0]
      exact hd.bas (by omega)
    · rw [e0, ← hl]
      rw [← hl] at hs
      exact hd.rk_eq (by omega) hs
  · exact absurd h (by decide)
/-- The number of the flows' polynomial. -/
def flR (F : List (Int × Int)) : Nat := rk (cmp F.length (gbL F)) (2 ^ F.length - 1)
def flC (F : List (Int × Int)) : Nat → Int := chrS (rk (cmp F.length (gbL F))) (flR F) (2 ^ F.length)
set_option maxHeartbeats 1000000 in
theorem Flow_any (n : Int) (v : Value) (F : List (Int × Int)) (w : World) (h : EdgesI w v F) :
    Calls Tryz.prog 6 #[.agg #[.int .i64 n, v]] w fun e w' => (graphR n F ≠ 0 → e = .returned (.tuple #[.slice none 0 0, .int .i64 (graphR n F)])) ∧ (graphR n F = 0 → ∃ u, e = .returned (.tuple #[u, .int .i64 0]) ∧ RkZ w' u (flR F + 1) (flC F)) ∧ Below w.heap.size w w' := by
  have HI := hid h
  obtain ⟨a, cap, rfl, -, -⟩ := h
  have HB0 : Hid (Below w.heap.size w (w.alloc (.cells #[.int .i64 n, .slice a F.length cap] 24))) := (Below.refl _ _).alloc (Nat.le_refl _) _
  have GR := hid (Graphic_any n _ F _ (HI.out.below HB0.out))
  by_cases hg : graphR n F = 0
  · obtain ⟨N, rfl, -, -, -, hG⟩ := graph_is hg
    have HG := hid hG
    have HZ := hid hg
    go_enter Tryz.func6, Tryz.ntmps6
    go_wp2_with fail
    refine GR.out.mono ?_
    rintro e w1 ⟨hm, -⟩
    obtain ⟨r, rfl, ho, hb⟩ := hm hg
    change Own _ _ _ (gbL F) at ho
    obtain ⟨ra, rc, rfl⟩ := ownsRow_form' ho
    have B1 := hid (HB0.out.trans (hb.mono HB0.out.size))
    have I1 := hid (ho.ints (Nat.le_trans (fam_len HG.out.m8 HG.out.fam) (by decide)))
    have hk := (Below.refl _ w1).alloc (Nat.le_refl _) (.cells #[.int .i64 F.length, .slice ra (gbL F).length rc] 36)
    have B2 := hid (B1.out.trans (hk.mono B1.out.size))
    have DU := hid (Dual_ok F.length _ (gbL F) _ HG.out.m8 HG.out.fam HG.out.bas (I1.out.below hk))
    clear ho hb hm hg GR HI HB0 hk
    go_wp2_with fail
    refine DU.out.mono ?_
    rintro e w2 ⟨r2, rfl, ho, hb⟩
    obtain ⟨da, dc, rfl⟩ := ownsRow_form' ho
    have B3 := hid (B2.out.trans (hb.mono B2.out.size))
    have hfc := cmp_fam HG.out.fam
    have hk := (Below.refl _ w2).alloc (Nat.le_refl _) (.cells #[.int .i64 F.length, .slice da (cmp F.length (gbL F)).length dc] 36)
    have I2 := ho.ints (Nat.le_trans (fam_len HG.out.m8 hfc) (by decide))
    have CH := hid (Characteristic_ok F.length _ (cmp F.length (gbL F)) _ HG.out.m8 hfc (dual_bas HG.out.m8 HG.out.fam HG.out.bas) (I2.below hk))
    have B4 := hid (B3.out.trans (hk.mono B3.out.size))
    clear ho hb DU hfc I2 hk
    go_wp2_with fail
    refine CH.out.mono ?_
    rintro e w3 ⟨u, rfl, hz, hb⟩
    have Z3 := hid hz
    have B5 := hid (B4.out.trans (hb.mono B4.out.size))
    obtain ⟨zb, zo, zc, rfl, -, -⟩ := hz
    clear hb CH
    go_wp2_with fail
    exact bodyPost_ret (results_tmp2 rfl _ _ _) rfl ⟨fun e => absurd HZ.out e, fun _ => ⟨_, rfl, Z3.out⟩, B5.out⟩
  · obtain ⟨q, hq⟩ : ∃ q, graphR n F = q := ⟨_, rfl⟩
    rw [hq] at hg GR ⊢
    have HN := hid hg
    have hg1 : (q != 0) = true := by rw [bne_iff_ne]; exact hg
    go_enter Tryz.func6, Tryz.ntmps6
    go_wp2_with fail
    refine GR.out.mono ?_
    rintro e w1 ⟨-, hm⟩
    obtain ⟨rfl, hb⟩ := hm hg
    have B1 := hid (HB0.out.trans (hb.mono HB0.out.size))
    clear hb hm hg GR HI HB0
    go_wp2_with fail
    exact bodyPost_ret (results_tmp2 rfl _ _ _) rfl ⟨fun _ => rfl, fun e => absurd e HN.out, B1.out.alloc B1.out.size _⟩
end Go.Proofs.YtkmpnaohdijpnaaGreatDoor
