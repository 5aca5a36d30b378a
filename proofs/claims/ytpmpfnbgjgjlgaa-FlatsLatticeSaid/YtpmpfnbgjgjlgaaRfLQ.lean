/- rotaref.Levels. -/
import Derived.Test.YtpmpfnbgjgjlgaaFlCQ
import Derived.Test.YtpmpfnbgjgjlgaaRefAxDQ
import Derived.Test.YtpmpfnbgjgjlgaaRefAxCQ
import Derived.Deep.DeepCutAuto
import Derived.Test.YtpmpfnbgjgjlgaaOrdBQ
import Derived.Test.YtpmpfnbgjgjlgaaPlainAll
import Derived.Deep.RegionHeld3
namespace Go.Proofs.Ytpmpfnbgjgjlgaa
open Go.RowKit

theorem two_tbl (w : World) (n : Nat) : Tbl w.heap.size ((w.alloc (.cells (madeCells #[.int .i64 0] n) 3)).alloc (.cells (madeCells #[.int .i64 0] n) 3)) n (fun _ => 0) ∧ Tbl (w.heap.size + 1) ((w.alloc (.cells (madeCells #[.int .i64 0] n) 3)).alloc (.cells (madeCells #[.int .i64 0] n) 3)) n (fun _ => 0) ∧ Below w.heap.size w ((w.alloc (.cells (madeCells #[.int .i64 0] n) 3)).alloc (.cells (madeCells #[.int .i64 0] n) 3)) := by
  refine ⟨(Tbl.new w n).belowF ((Below.refl _ _).alloc (Nat.le_refl _) _), ?_, ((Below.refl _ _).alloc (Nat.le_refl _) _).alloc (by simp) _⟩
  have := Tbl.new (w.alloc (.cells (madeCells #[.int .i64 0] n) 3)) n
  rwa [World.size_alloc] at this
/-- Two tables of noughts. -/
def TwoT (w W : World) (n : Nat) (x y : Value) : Prop := ∃ g1 g2, x = .slice (some ⟨g1, 0, none⟩) n n ∧ y = .slice (some ⟨g2, 0, none⟩) n n ∧ g1 ≠ g2 ∧ w.heap.size ≤ g1 ∧ w.heap.size ≤ g2 ∧ Tbl g1 W n (fun _ => 0) ∧ Tbl g2 W n (fun _ => 0) ∧ Below w.heap.size w W
theorem TwoT.a (w : World) (n : Nat) : TwoT w (((w.alloc (.cells (madeCells #[.int .i64 0] n) 3)).alloc (.cells (madeCells #[.int .i64 0] n) 3)).drew) n (.slice (some ⟨w.heap.size, 0, none⟩) n n) (.slice (some ⟨w.heap.size + 1, 0, none⟩) n n) := by
  obtain ⟨h1, h2, h3⟩ := two_tbl w n
  exact ⟨_, _, rfl, rfl, by omega, by omega, by omega, h1.drew, h2.drew, h3.drew⟩
theorem TwoT.b (w : World) (n : Nat) : TwoT w (((w.alloc (.cells (madeCells #[.int .i64 0] n) 3)).alloc (.cells (madeCells #[.int .i64 0] n) 3)).drew) n (.slice (some ⟨w.heap.size + 1, 0, none⟩) n n) (.slice (some ⟨w.heap.size, 0, none⟩) n n) := by
  obtain ⟨h1, h2, h3⟩ := two_tbl w n
  exact ⟨_, _, rfl, rfl, by omega, by omega, by omega, h2.drew, h1.drew, h3.drew⟩
theorem Tbl.save {X : Nat → Prop} {g : Nat} {w w' : World} {T : Nat} {f : Nat → Nat} (h : Tbl g w T f) (hs : Save X w w') (hg : ¬ X g) : Tbl g w' T f :=
  ⟨fun i hi => (World.cell?_of_block (w := w) (hs.block g h.size hg)).trans (h.cell i hi), fun i => by
    have e := hs.block g h.size hg
    have := h.frozen i
    unfold World.frozen? at this ⊢
    rw [e]
    exact this, Nat.lt_of_lt_of_le h.size hs.size⟩
set_option maxRecDepth 20000 in
set_option maxHeartbeats 4000000 in
theorem Levels_ref (m : Nat) (v : Value) (l : List Nat) (w : World) (hm : m ≤ 8) (hf : Fam m l) (hb : Bas l) (h : Ints w v (N l)) :
    Calls Try.prog 12 #[.agg #[.int .i64 m, v]] w fun e w' => ∃ u u', e = .returned (.tuple #[u, u']) ∧ RkAt w' u (rk l (2 ^ m - 1) + 1) (cntS (flatB (rk l) m) (rk l) (2 ^ m)) ∧ RkAt w' u' (rk l (2 ^ m - 1) + 1) (cntS (fun s => rk l s == pop s) (rk l) (2 ^ m)) ∧ Below w.heap.size w w' := by
  have HI := hid h
  obtain ⟨a, cap, hv, -, -⟩ := h.nats
  subst hv
  have hB0 := below_box w #[.int .i64 m, .slice a l.length cap]
  have HB0 := hid hB0
  have HC := hid (Ranks_ref m _ l _ hm (hf.lt256 hm) (HI.out.below hB0))
  have AL := hid (fun w => All_nat m w hm)
  have HX : Hid (∀ w2, Below (w.alloc (.cells #[.int .i64 m, .slice a l.length cap] 24)).heap.size (w.alloc (.cells #[.int .i64 m, .slice a l.length cap] 24)) w2 → _) := fun w2 hb => box_cells hb
  have hR8 := rk_small hm hf (2 ^ m - 1)
  have hT2 := (pow_wrap m hm).2
  have hT1 : 1 ≤ 2 ^ m := Nat.one_le_two_pow
  obtain ⟨N1, hN1, HN2⟩ : ∃ N1 : Nat, (rk l (2 ^ m - 1) : Int) + 1 = (N1 : Int) ∧ Hid (rk l (2 ^ m - 1) + 1 = N1) := ⟨_, by omega, rfl⟩
  rw [HN2.out]
  have hN9 : N1 ≤ 9 := by rw [← HN2.out]; omega
  have hmk := fun w => run_make_row' (P := Try.prog) 22 3 (.int .i64 0) 8 Try.underlying22 Try.infoInt rfl .i64 .i64 N1 (by omega) (by omega) w
  have hNw : IntKind.i64.wrap (N1 : Int) = (N1 : Int) := IntWalk.i64_in _ (by omega)
  have hAT : ((2 ^ m - 1 : Nat) : Int) < ((2 ^ m : Nat) : Int) := by omega
  have hAT2 : 2 ^ m - 1 < 2 ^ m := by omega
  have HF := hid hf
  have HBB := hid hb
  clear hf hb hB0
  generalize hA : 2 ^ m - 1 = A at *
  generalize hTT : 2 ^ m = T at *
  have HA := hid hA
  have HTT := hid hTT
  clear hA hTT
  go_enter Try.func12, Try.ntmps12
  go_wp2_with fail
  refine HC.out.mono ?_
  rintro e w2 ⟨ru, rfl, hru, hb2⟩
  obtain ⟨x0, x1⟩ := HX.out w2 hb2
  have hs2 : w.heap.size + 1 ≤ w2.heap.size := by have := hb2.size; simpa using this
  have HB2 := hid (HB0.out.trans (hb2.mono HB0.out.size))
  have HR := hid hru
  obtain ⟨rb, roff, rcap, rfl, hrb, -⟩ := hru
  have c0 := HR.out.cellAt (Below.refl _ _) hAT2
  clear hb2 HC HX
  go_upto_region 2 with fail
  go_cut [2, 3] (fun x y W => TwoT w2 W N1 x y)
  case first =>
    go_region_held3 (fun w' => w'.cell? ⟨w.heap.size, 0, none⟩ = some (.int .i64 m) ∧ w'.cell? ⟨rb, roff + A, none⟩ = some (.int .i64 (rk l A : Nat))) (go_keep) ((go_at_call 40; refine (AL.out _).mono ?_; rintro e w4 ⟨rfl, h4⟩; obtain rfl := h4.symm))
    all_goals go_wp2_with fail
    all_goals go_meet
    all_goals first | exact TwoT.a w2 N1 | exact TwoT.b w2 N1
  case rest =>
    obtain ⟨g1, g2, rfl, rfl, hne, hg1, hg2, ht1, ht2, hbc⟩ := hcut
    have h1c : g1 < wc.heap.size := ht1.size
    have h2c : g2 < wc.heap.size := ht2.size
    have x0c := (hbc.cell (p := ⟨w.heap.size, 0, none⟩) (by show w.heap.size < _; omega)).trans x0
    have x1c := (hbc.cell (p := ⟨w.heap.size, 1, none⟩) (by show w.heap.size < _; omega)).trans x1
    have HBC := hid (HB2.out.trans (hbc.mono HB2.out.size))
    have FL := hid (Flats_ref m _ l wc hm HBB.out (HF.out.lt256 hm) (HI.out.below HBC.out))
    rw [flat_eq hm HBB.out] at FL
    have HHB := hid hbc
    have HT1 := hid ht1
    have HT2 := hid ht2
    clear hbc ht1 ht2 hmk
    go_wp2_with fail
    refine FL.out.mono ?_
    rintro e w4 ⟨fv, rfl, hfv, hb4⟩
    have hs4 := hb4.size
    have T14 := hid (HT1.out.belowF hb4)
    have T24 := hid (HT2.out.belowF hb4)
    have HB4 := hid (HHB.out.trans (hb4.mono HHB.out.size))
    have HLT := hid (fun i (hi : i < (fltL m (rk l)).length) => (flt_getD (r := rk l) hi).1)
    have hlen : (fltL m (rk l)).length ≤ 256 := flt_len hm
    have HFE : Hid (∀ j, lcnt (rk l) (fltL m (rk l)) (fltL m (rk l)).length j = cntS (flatB (rk l) m) (rk l) T j) := fun j => by
      rw [← HTT.out]
      exact lcnt_all (fun _ _ _ => rfl) j
    have HX2 : Hid ((List.range (2 ^ m)).filter (flatB (rk l) m) = fltL m (rk l)) := rfl
    rw [HX2.out] at hfv
    rw [HTT.out] at HLT
    have HRT : Hid (∀ s, s < T → rk l s < N1) := fun s hs => by
      rw [← HN2.out]
      have := rk_top (m := m) HBB.out s (by rw [HTT.out]; exact hs)
      rw [HTT.out, HA.out] at this
      omega
    clear HX2 HT1 HT2 FL
    generalize fltL m (rk l) = fs at *
    have HIF := hid (hfv.ints (by omega))
    have hmem := hfv
    rcases hfv.form with ⟨fa, fcap, rfl⟩
    have HOB : Hid (∀ b o, fa = some ⟨b, o, none⟩ → wc.heap.size ≤ b ∧ b < w4.heap.size) := fun b o e => by
      subst e
      exact World.ownsRow.lt hmem b rfl
    clear hmem hfv hb4
    go_wp2_with fail
    go_loopw [6] (fun i wr => ∃ k : Nat, k ≤ fs.length ∧ i = .int .i64 k ∧ Hid (Tbl g1 wr N1 (lcnt (rk l) fs k)) ∧ Hid (Save (fun b => b = g1) w4 wr)) (fun i _ => fs.length - (intOf i).toNat)
    case atStart => exact ⟨0, Nat.zero_le _, rfl, T14.out.congr (fun i _ => lcnt_zero _ _ _), Save.refl _ _⟩
    case round =>
      obtain ⟨k, hk, rfl, HK, HS⟩ := hrel
      by_cases hlt : k < fs.length
      · obtain ⟨a', c', hv', -, hcc⟩ := HIF.out.nats
        obtain ⟨b, off, rfl, hbb, hcell⟩ := hcc (by omega)
        obtain ⟨rfl, rfl⟩ : fa = some ⟨b, off, none⟩ ∧ fcap = c' := by simpa using hv'
        have hbo := HOB.out b off rfl
        have z1 := (World.cell?_of_block (w := w4) (a := ⟨b, off + k, none⟩) (HS.out.block b hbo.2 (by omega))).trans (hcell k hlt)
        have l1 := HLT.out k hlt
        have z2 : wr.cell? ⟨rb, roff + fs.getD k 0, none⟩ = some (.int .i64 (rk l (fs.getD k 0) : Nat)) := (World.cell?_of_block (w := w4) (a := ⟨rb, roff + fs.getD k 0, none⟩) (HS.out.block rb (by have := HB4.out.size; omega) (by omega))).trans (HR.out.cellAt HB4.out l1)
        have dN := HRT.out _ l1
        have z3 := HK.out.cell _ dN
        have z4 := HK.out.frozen (rk l (fs.getD k 0))
        have cb := lcnt_le (rk l) fs k (rk l (fs.getD k 0))
        have G := hid (HK.out.set (f' := lcnt (rk l) fs (k + 1)) (rk l (fs.getD k 0)) (lcnt (rk l) fs k (rk l (fs.getD k 0)) + 1) dN (fun i _ => by
          rw [lcnt_step hlt]
          by_cases e : rk l (fs.getD k 0) = i
          · subst e; simp
          · rw [if_neg e, if_neg e]))
        have cw : ((lcnt (rk l) fs k (rk l (fs.getD k 0)) + 1 : Nat) : Int) = (lcnt (rk l) fs k (rk l (fs.getD k 0)) : Int) + 1 := by omega
        rw [cw] at G
        have l1i : (fs.getD k 0 : Int) < (T : Int) := by omega
        have dNi : (rk l (fs.getD k 0) : Int) < (N1 : Int) := by omega
        clear cw HK hcell hcc hv'
        generalize lcnt (rk l) fs k (rk l (fs.getD k 0)) = c at *
        generalize hxr : rk l (fs.getD k 0) = xr at *
        clear hxr
        generalize fs.getD k 0 = x at *
        go_wp2_with fail
        go_roundw
        case rel => exact ⟨k + 1, by omega, by go_num, G.out, HS.out.setCell (p := ⟨g1, xr, none⟩) (.inl rfl) _⟩
        case measure => simp [intOf]; omega
      · obtain rfl : k = fs.length := by omega
        have K1 := hid (HK.out.congr (f' := cntS (flatB (rk l) m) (rk l) T) (fun i _ => (HFE.out i).symm))
        have K2 := hid (T24.out.save HS.out (fun e => hne e.symm))
        have HB5 := hid (HS.out.below HB4.out (by have := HB4.out.size; omega) (fun k e => by omega))
        have x05 := (HB5.out.cell (p := ⟨w.heap.size, 0, none⟩) (by show w.heap.size < _; omega)).trans x0
        have x15 := (HB5.out.cell (p := ⟨w.heap.size, 1, none⟩) (by show w.heap.size < _; omega)).trans x1
        have FR := hid (Free_ref m _ l wr hm (HF.out.lt256 hm) (HI.out.below (HB2.out.trans (HB5.out.mono HB2.out.size))))
        rw [free_eq hm HBB.out] at FR
        clear HK HS T14 T24 HFE HLT HOB HIF x0c x1c
        go_wp2_with fail
        refine FR.out.mono ?_
        rintro e w6 ⟨lv, rfl, hlv, hb6⟩
        have hs6 := hb6.size
        have K16 := hid (K1.out.belowF hb6)
        have K26 := hid (K2.out.belowF hb6)
        have HB6 := hid (HB5.out.trans (hb6.mono HB5.out.size))
        have hg2r : g2 < wr.heap.size := K2.out.size
        have HLE : Hid (∀ k, k < ((List.range (2 ^ m)).filter fun s => rk l s == pop s).length → ((List.range (2 ^ m)).filter fun s => rk l s == pop s).getD k 0 < 256 ∧ pop (((List.range (2 ^ m)).filter fun s => rk l s == pop s).getD k 0) < N1) := fun k hk => by
          have hmem : ((List.range (2 ^ m)).filter fun s => rk l s == pop s).getD k 0 ∈ (List.range (2 ^ m)).filter fun s => rk l s == pop s := by simp [List.getD, hk]
          rw [List.mem_filter, List.mem_range, beq_iff_eq] at hmem
          refine ⟨lt256 hm hmem.1, ?_⟩
          rw [← hmem.2]
          exact HRT.out _ (by rw [← HTT.out]; exact hmem.1)
        have hlen2 : ((List.range (2 ^ m)).filter fun s => rk l s == pop s).length ≤ 256 := Nat.le_trans (Nat.le_trans (List.length_filter_le _ _) (by simp)) (pow_wrap m hm).2
        have HLA : Hid (∀ j, lcnt pop ((List.range (2 ^ m)).filter fun s => rk l s == pop s) ((List.range (2 ^ m)).filter fun s => rk l s == pop s).length j = cntS (fun s => rk l s == pop s) (rk l) T j) := fun j => by
          rw [← HTT.out]
          exact lcnt_all (fun s _ hp => (beq_iff_eq.1 hp).symm) j
        clear FR K1 K2 HRT
        obtain ⟨cF, HCF⟩ : ∃ cF, Hid (cntS (fun s => rk l s == pop s) (rk l) T = cF) := ⟨_, rfl⟩
        rw [HCF.out] at HLA
        generalize ((List.range (2 ^ m)).filter fun s => rk l s == pop s) = ls at *
        have HIL := hid (hlv.ints (by omega))
        have hmem := hlv
        rcases hlv.form with ⟨la, lcap, rfl⟩
        have HOL : Hid (∀ b o, la = some ⟨b, o, none⟩ → wr.heap.size ≤ b ∧ b < w6.heap.size) := fun b o e => by
          subst e
          exact World.ownsRow.lt hmem b rfl
        clear hmem hlv hb6
        go_wp2_with fail
        go_loopw [7] (fun i wr' => ∃ k : Nat, k ≤ ls.length ∧ i = .int .i64 k ∧ Hid (Tbl g2 wr' N1 (lcnt pop ls k)) ∧ Hid (Save (fun b => b = g2) w6 wr')) (fun i _ => ls.length - (intOf i).toNat)
        case atStart => exact ⟨0, Nat.zero_le _, rfl, K26.out.congr (fun i _ => lcnt_zero _ _ _), Save.refl _ _⟩
        case round =>
          obtain ⟨k, hk, rfl, HK, HS⟩ := hrel
          by_cases hlt : k < ls.length
          · obtain ⟨a', c', hv', -, hcc⟩ := HIL.out.nats
            obtain ⟨b, off, rfl, hbb, hcell⟩ := hcc (by omega)
            obtain ⟨rfl, rfl⟩ : la = some ⟨b, off, none⟩ ∧ lcap = c' := by simpa using hv'
            have hbo := HOL.out b off rfl
            have z1 := (World.cell?_of_block (w := w6) (a := ⟨b, off + k, none⟩) (HS.out.block b hbo.2 (by omega))).trans (hcell k hlt)
            obtain ⟨l1, dN⟩ := HLE.out k hlt
            have cb := lcnt_le pop ls k (pop (ls.getD k 0))
            have hk1 : g2 < wr.heap.size := HK.out.size
            have G : Hid (∀ w', Below wr.heap.size wr w' → Tbl g2 (w'.setCell ⟨g2, pop (ls.getD k 0), none⟩ (.int .i64 ((lcnt pop ls k (pop (ls.getD k 0)) : Int) + 1))) N1 (lcnt pop ls (k + 1))) := fun w' hb' => by
              have := (HK.out.belowF hb').set (f' := lcnt pop ls (k + 1)) (pop (ls.getD k 0)) (lcnt pop ls k (pop (ls.getD k 0)) + 1) dN (fun i _ => by
                rw [lcnt_step hlt]
                by_cases e : pop (ls.getD k 0) = i
                · subst e; simp
                · rw [if_neg e, if_neg e])
              rwa [show ((lcnt pop ls k (pop (ls.getD k 0)) + 1 : Nat) : Int) = (lcnt pop ls k (pop (ls.getD k 0)) : Int) + 1 by omega] at this
            have CL : Hid (∀ w', Below wr.heap.size wr w' → w'.cell? ⟨g2, pop (ls.getD k 0), none⟩ = some (.int .i64 (lcnt pop ls k (pop (ls.getD k 0)) : Nat)) ∧ w'.frozen? ⟨g2, pop (ls.getD k 0), none⟩ = false) := fun w' hb' => ⟨(HK.out.belowF hb').cell _ dN, (HK.out.belowF hb').frozen _⟩
            have S1 := hid (fun w => Size_any (ls.getD k 0) w l1)
            have dNi : (pop (ls.getD k 0) : Int) < (N1 : Int) := by omega
            clear HK hcell hcc hv'
            generalize lcnt pop ls k (pop (ls.getD k 0)) = c at *
            generalize ls.getD k 0 = x at *
            generalize pop x = px at *
            go_wp2_with fail
            refine (S1.out _).mono ?_
            rintro e w8 ⟨rfl, hb8⟩
            obtain ⟨q1, q2⟩ := CL.out w8 hb8
            have G8 := hid (G.out w8 hb8)
            have HS8 := hid (HS.out.trans (Save.of_below hb8))
            clear hb8 G CL
            go_wp2_with fail
            go_roundw
            case rel => exact ⟨k + 1, by omega, by go_num, G8.out, HS8.out.setCell (p := ⟨g2, px, none⟩) (.inl rfl) _⟩
            case measure => simp [intOf]; omega
          · obtain rfl : k = ls.length := by omega
            have F2 := hid (HK.out.congr (f' := cF) (fun i _ => (HLA.out i).symm))
            have F1 := hid (K16.out.save HS.out hne)
            have HB7 := hid (HB2.out.trans ((HS.out.below HB6.out (by have := HB6.out.size; omega) (fun k e => by omega)).mono HB2.out.size))
            rw [← HCF.out] at F2
            clear HK HS
            go_wp2_with fail
            go_ret2
            exact ⟨_, _, rfl, F1.out.rkAt, F2.out.rkAt, HB7.out⟩
end Go.Proofs.Ytpmpfnbgjgjlgaa
