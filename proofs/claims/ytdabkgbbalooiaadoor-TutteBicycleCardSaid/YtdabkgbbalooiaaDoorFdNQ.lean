/- field.across. -/
import Derived.Test.YtdabkgbbalooiaaDoorFdMQ
import Derived.Test.YtdabkgbbalooiaaDoorPlainAll1
namespace Go.Proofs.YtdabkgbbalooiaaDoor
open Go.RowKit

/-- The lists across a reduced matrix. -/
def acL (p : Int) (c : Nat) (Q : List (List Int)) : List (List Int) := matL (nbL c Q.length fun i => bgN c (rowF Q i)).length c (acG p c Q.length (rowF Q) fun i => bgN c (rowF Q i))
theorem idx_beg {p : Int} {c k : Nat} {F : Nat → Nat → Int} {b : Nat → Nat} (h : Rref p c k F b) {i : Nat} (hi : i < k) {zs : List Int} (hz : zs.length = c) (hzs : ∀ r, r < c → zs.getD r 0 = F i r) {r : Int} (hr : IdxAt zs 1 r) : r = b i := by
  have hb := h.lt i hi
  rcases hr with ⟨-, h1⟩ | ⟨j, rfl, h1, h2, h3⟩
  · exact absurd ((hzs _ hb).trans (h.one i hi)) (h1 (b i) (by omega))
  · rw [hzs j (by omega)] at h2
    rcases Nat.lt_trichotomy j (b i) with hl | hl | hl
    · rw [h.fst i hi j hl] at h2; omega
    · omega
    · exact absurd ((hzs _ hb).trans (h.one i hi)) (h3 (b i) hl)
theorem has_nb {k : Nat} {b : Nat → Nat} (t : Nat) : hasI ((List.range k).map fun i => (b i : Int)) (t : Int) = !nbB k b t := by
  rw [Bool.eq_iff_iff]
  simp [hasI, nbB]
  exact ⟨fun ⟨x, h1, h2⟩ => ⟨x, h1, by omega⟩, fun ⟨x, h1, h2⟩ => ⟨x, h1, by omega⟩⟩
theorem TblZ.low {g D : Nat} {w w' : World} {T : Nat} {f : Nat → Int} (h : TblZ g w T f) (hb : Below D w w') (hg : g < D) : TblZ g w' T f :=
  ⟨fun i hi => (hb.cell (p := ⟨g, i, none⟩) hg).trans (h.cell i hi), fun i => (froz_below hb hg).trans (h.frozen i), Nat.lt_of_lt_of_le h.size hb.size⟩
theorem RowB.drew {W : World} {b n : Nat} {f : Nat → Int} (h : RowB W b n f) : RowB W.drew b n f := ⟨h.tbl.drew, h.ty⟩
theorem TotS.save {W W' : World} {B z : Nat} {v : Value} {n k : Nat} {f : Nat → Nat → Int} (h : TotS W B v n k f) (hs : Save (fun j => j = z) W W') (hz : z < B) (hty : ∀ c, W.heap[z]? ≠ some (.cells c 3 (0, 0))) : TotS W' B v n k f := by
  obtain ⟨us, h1, ⟨h2, h3⟩, h4⟩ := h
  refine ⟨us, h1, ⟨h2, h3.imp_right ?_⟩, fun i hi => ?_⟩
  · rintro ⟨g, cap, cur, hv, hg, hheap, hr⟩
    exact ⟨g, cap, cur, hv, hg, (hs.block g (Array.getElem?_eq_some_iff.1 hheap).1 (by omega)).trans hheap, hr⟩
  · obtain ⟨b, h5, h6⟩ := h4 i hi
    exact ⟨b, h5, h6.same (hs.block b h6.tbl.size fun e => by
      obtain ⟨c, hc⟩ := h6.ty
      rw [e] at hc
      exact hty c hc) hs.size⟩
set_option maxRecDepth 20000 in
set_option maxHeartbeats 4000000 in
theorem across_ok (p : Int) (c : Nat) (v : Value) (Q : List (List Int)) (w : World) (b : Nat → Nat) (h : RowsI w v Q) (hm : MatOK p c Q) (hq : Rref p c Q.length (rowF Q) b) :
    Calls Tryd.prog 23 #[.agg #[.int .i64 p, .int .i64 c, v]] w fun e w' => ∃ u, e = .returned (.agg #[.int .i64 p, .int .i64 c, u]) ∧ RowsI w' u (matL (nbL c Q.length b).length c (acG p c Q.length (rowF Q) b)) ∧ Below w.heap.size w w' := by
  obtain ⟨q1, q2, q3, q4⟩ := bxM_ok w p c v
  obtain ⟨i0, hi0, hz0, hz1, hz2⟩ := info_parts Tryd.infoRowI
  have hp2 := isP_pos hm.pr
  have hc8 := hm.c8'
  have hR6 := hm.rl
  have HNL : Hid (∀ t, t ≤ c → (nbL t Q.length b).length ≤ 8) := fun t ht => Nat.le_trans (List.length_filter_le _ _) (by simp; omega)
  obtain ⟨a, cap, rfl, hlen, hcc⟩ := h
  have HC : Hid (∀ k, k < Q.length → ∃ b off, a = some ⟨b, off, none⟩ ∧ ∃ ra rc, ∀ wr, Below w.heap.size w wr → wr.cell? ⟨b, off + k, none⟩ = some (.slice ra c rc) ∧ (∃ zs, zs.length = c ∧ (∀ r, r < c → zs.getD r 0 = rowF Q k r) ∧ Ints wr (.slice ra c rc) zs) ∧ ∀ m, m < c → ∃ rb ro, ra = some ⟨rb, ro, none⟩ ∧ wr.cell? ⟨rb, ro + m, none⟩ = some (.int .i64 (rowF Q k m))) := fun k hk => by
    obtain ⟨b, off, h1, h2, h3⟩ := hcc (by omega)
    obtain ⟨u, h4, h5⟩ := h3 k hk
    have hl := hm.len k hk
    have hl2 : (Q.getD k []).length = c := by omega
    have h5' := h5
    obtain ⟨ra, rc, rfl, -, -⟩ := h5
    rw [hl2] at h4 h5'
    refine ⟨b, off, h1, ra, rc, fun wr hbw => ⟨?_, ⟨Q.getD k [], hl2, fun r _ => rfl, h5'.below hbw⟩, fun m hmc => ?_⟩⟩
    · rw [hbw.cell (p := ⟨b, off + k, none⟩) h2, h4]
    · obtain ⟨ra2, rc2, e1, -, e3⟩ := h5'.below hbw
      have e1' := e1
      cases e1'
      obtain ⟨rb, ro, e4, -, e6⟩ := e3 (by omega)
      exact ⟨rb, ro, e4, e6 m (by omega)⟩
  have HR : Hid (∀ i r, i < Q.length → r < c → 0 ≤ rowF Q i r ∧ rowF Q i r < p) := fun i r hi hr => hm.rowc i hi r hr
  have HQ := hid hq
  have Q1 := hid q1
  have Q2 := hid q2
  have Q3 := hid q3
  have Q4 := hid q4
  obtain ⟨F, HF⟩ : ∃ F, Hid (rowF Q = F) := ⟨_, rfl⟩
  rw [HF.out] at HC HR HQ ⊢
  obtain ⟨k, HK⟩ : ∃ k, Hid (Q.length = k) := ⟨_, rfl⟩
  rw [HK.out] at HC HR HQ Q1 Q2 Q3 Q4 HNL hlen hR6 ⊢
  clear hm hq q1 q2 q3 q4 hcc HF HK
  unfold bxM at Q1 Q2 Q3 Q4
  obtain ⟨x0, x1, x2⟩ := three_cells Q3.out
  have mk := fun w => run_make_to k k (Nat.le_refl _) (by omega) w
  have mk2 := fun w => run_make_to c c (Nat.le_refl _) (by omega) w
  have TB0 := hid (TblZ.new ((w.alloc (.cells #[.int .i64 p, .int .i64 c, .slice a k cap] 24)).alloc (.cells #[.int .i64 0, .int .i64 0, .slice none 0 0] 24)) k 3)
  have BA0 := hid ((Below.refl _ ((w.alloc (.cells #[.int .i64 p, .int .i64 c, .slice a k cap] 24)).alloc (.cells #[.int .i64 0, .int .i64 0, .slice none 0 0] 24))).alloc (Nat.le_refl _) (.cells (madeCells #[.int .i64 0] k) 3))
  have S1 : Hid ((((w.alloc (.cells #[.int .i64 p, .int .i64 c, .slice a k cap] 24)).alloc (.cells #[.int .i64 0, .int .i64 0, .slice none 0 0] 24)).alloc (.cells (madeCells #[.int .i64 0] k) 3)).heap.size = w.heap.size + 3) := by show _ = _; simp
  rw [Q1.out] at TB0
  have QQ3 := hid (box_keep Q3.out BA0.out)
  have QQ4 := hid (box_keep Q4.out BA0.out)
  have QQ2 := hid (Q2.out.trans (BA0.out.mono Q2.out.size))
  obtain ⟨y0, y1, y2⟩ := three_cells QQ3.out
  clear Q1 Q2 Q3 Q4 BA0
  go_enter Tryd.func23, Tryd.ntmps23
  go_wp2_with fail
  clear mk x0 x1 x2 y0 y1 y2
  generalize ((w.alloc (.cells #[.int .i64 p, .int .i64 c, .slice a k cap] 24)).alloc (.cells #[.int .i64 0, .int .i64 0, .slice none 0 0] 24)).alloc (.cells (madeCells #[.int .i64 0] k) 3) = W1 at TB0 S1 QQ2 QQ3 QQ4 ⊢
  go_loopw [4, 5, 18] (fun _ _ i wr => ∃ m : Nat, m ≤ k ∧ i = .int .i64 m ∧ Hid (TblZ (w.heap.size + 1 + 1) wr k fun i => if i < m then (b i : Int) else 0) ∧ Hid (Save (fun z => z = w.heap.size + 1 + 1) W1 wr) ∧ Hid (wr.heap.size = w.heap.size + 3)) (fun _ _ i _ => k - (intOf i).toNat)
  case atStart => exact ⟨0, Nat.zero_le _, rfl, TB0.out.congr fun i _ => by rw [if_neg (by omega)], Save.refl _ _, S1.out⟩
  case round =>
    obtain ⟨m, hm, rfl, HT, HS, HZ⟩ := hrel
    have hs1 := S1.out
    have HBW : Hid (Below w.heap.size w wr) := HS.out.below QQ2.out (by omega) (fun z e => by omega)
    by_cases hlt : m < k
    · have hmi : (m : Int) < (k : Int) := by omega
      obtain ⟨rb, ro, rfl, ra, rc, hu⟩ := HC.out m hlt
      obtain ⟨c0, ⟨zs, hz, hzs, hI⟩, -⟩ := hu wr HBW.out
      have IX := hid (IndexAt_any _ zs 1 wr hI)
      have ID : Hid (∀ r, IdxAt zs 1 r → r = b m) := fun r hr => idx_beg HQ.out hlt hz hzs hr
      have c1 := HT.out.cell m hlt
      rw [if_neg (by omega)] at c1
      have c2 := HT.out.frozen m
      have G1 := hid (HT.out.set m (b m) hlt (f' := fun i => if i < m + 1 then (b i : Int) else 0) fun i hi => by
        by_cases e : m = i
        · subst e; rw [if_pos rfl, if_pos (by omega)]
        · rw [if_neg e]
          by_cases e2 : i < m
          · rw [if_pos e2, if_pos (by omega)]
          · rw [if_neg e2, if_neg (by omega)])
      have G2 := hid (HS.out.setCell (p := ⟨w.heap.size + 1 + 1, m, none⟩) (.inl rfl) (.int .i64 (b m : Int)))
      have G3 : Hid ((wr.setCell ⟨w.heap.size + 1 + 1, m, none⟩ (.int .i64 (b m : Int))).heap.size = w.heap.size + 3) := by show _ = _; rw [World.size_setCell]; exact HZ.out
      clear HT HS HZ hI hzs hz hu hs1 HBW
      go_wp2_with fail
      refine IX.out.mono ?_
      rintro e w2 ⟨r, rfl, hr, h2⟩
      obtain rfl := h2.symm
      obtain rfl := ID.out r hr
      clear hr ID IX h2
      go_wp2_with fail
      exact ⟨⟨m + 1, by omega, by go_num, G1.out, G2.out, G3.out⟩, by simp [intOf]; omega⟩
    · obtain rfl : m = k := by omega
      have hne : ¬ (m : Int) < (m : Int) := by omega
      have TB : Hid (TblZ (w.heap.size + 1 + 1) wr m fun i => (b i : Int)) := HT.out.congr fun i hi => by rw [if_pos hi]
      have X3 := hid ((HS.out.block _ (by omega) (by omega)).trans QQ3.out)
      have X4 := hid ((HS.out.block _ (by omega) (by omega)).trans QQ4.out)
      have BXA := (Below.refl wr.heap.size wr).alloc (Nat.le_refl _) (.cells #[.int .i64 p, .int .i64 c, .slice none 0 0] 24)
      have TB1 := hid (TB.out.below BXA)
      have Y3 := hid (box_keep X3.out BXA)
      have Y4 := hid (box_keep X4.out BXA)
      have YX := hid (World.alloc_heap_new wr (.cells #[.int .i64 p, .int .i64 c, .slice none 0 0] 24))
      have YB := hid (HBW.out.trans (BXA.mono HBW.out.size))
      have YS : Hid ((wr.alloc (.cells #[.int .i64 p, .int .i64 c, .slice none 0 0] 24)).heap.size = w.heap.size + 4) := by show _ = _; rw [World.size_alloc, HZ.out]
      rw [HZ.out] at YX
      have hzz := HZ.out
      obtain ⟨x0, x1, x2⟩ := three_cells X3.out
      obtain ⟨y0, y1, y2⟩ := three_cells Y3.out
      clear HT HS QQ2 QQ3 QQ4 TB TB0 X3 X4 BXA HBW S1 hs1 HZ
      go_wp2_with fail
      clear x0 x1 x2 y0 y1 y2
      generalize wr.alloc (.cells #[.int .i64 p, .int .i64 c, .slice none 0 0] 24) = W2 at TB1 Y3 Y4 YX YB YS ⊢
      have hy0 := YS.out
      go_loopw [7, 8, 36] (fun _ _ i wr => ∃ (t : Nat) (vx : Value), t ≤ c ∧ i = .int .i64 t ∧ Hid (wr.heap[w.heap.size + 3]? = some (.cells #[.int .i64 p, .int .i64 c, vx] 24 (0, 0))) ∧ Hid (TotS wr (w.heap.size + 4) vx c (nbL t m b).length (acG p c m F b)) ∧ Hid (Below (w.heap.size + 3) W2 wr) ∧ Hid (w.heap.size + 4 ≤ wr.heap.size)) (fun _ _ i _ => c - (intOf i).toNat)
      case atStart => exact ⟨0, _, Nat.zero_le _, rfl, YX.out, TotS.nil _ _ _ _, Below.refl _ _, by show _ ≤ _; omega⟩
      case round =>
        obtain ⟨t, vx, ht, rfl, HX, HT, HB, HZ⟩ := hrel
        have hzr := HZ.out
        by_cases hlt : t < c
        · have hti : (t : Int) < (c : Int) := by omega
          have TBr := hid (TB1.out.low HB.out (by omega))
          have X3 := hid ((HB.out.block w.heap.size (by omega)).trans Y3.out)
          obtain ⟨x0, x1, x2⟩ := three_cells X3.out
          have CN := hid (ContainsI_any _ _ (t : Int) wr (TBr.out.ints (cap := m) (by omega)))
          rw [has_nb] at CN
          cases hnb : nbB m b t with
          | false =>
            rw [hnb] at CN
            have NX := hid (nb_miss hnb)
            clear hnb
            go_wp2_with fail
            refine CN.out.mono ?_
            rintro e w5 ⟨rfl, h5⟩
            obtain rfl := h5.symm
            go_wp2_with fail
            exact ⟨⟨t + 1, vx, by omega, by go_num, HX.out, by rw [NX.out]; exact HT.out, HB.out, HZ.out⟩, by simp [intOf]; omega⟩
          | true =>
            rw [hnb] at CN
            have HNB := hid (nbB_iff.1 hnb)
            have NX := hid (nb_hit hnb)
            have NH := hid (nb_here (m := c) hlt hnb)
            clear hnb
            have AB := hid ((Below.refl wr.heap.size wr).alloc (Nat.le_refl _) (.cells (madeCells #[.int .i64 0] c) 3))
            have RB0 := hid (RowB.new wr c)
            have RB1 := hid (RB0.out.set t 1 hlt (f' := acF p 0 F b t) fun i _ => by
              rw [acF_zero]
              by_cases e : t = i
              · rw [if_pos e, if_pos e.symm]
              · rw [if_neg e, if_neg fun e2 => e e2.symm])
            have BA1 := hid (AB.out.setCell (p := ⟨wr.heap.size, t, none⟩) (Nat.le_refl _) (.int .i64 1))
            have c1 := RB0.out.tbl.cell t hlt
            have c2 := RB0.out.tbl.frozen t
            have X3' := hid ((BA1.out.block w.heap.size (by omega)).trans X3.out)
            obtain ⟨y0, y1, y2⟩ := three_cells X3'.out
            clear AB RB0 X3'
            have EW : (wr.alloc (.cells (madeCells #[.int .i64 0] c) 3)).setCell ⟨wr.heap.size, t, none⟩ (.int .i64 1) = wr.alloc (.cells ((madeCells #[.int .i64 0] c).setIfInBounds t (.int .i64 1)) 3) := World.setCell_alloc_new _ _ _ _
            rw [EW] at RB1 BA1 y0 y1 y2
            clear EW
            go_wp2_with fail
            refine CN.out.mono ?_
            rintro e w5 ⟨rfl, h5⟩
            obtain rfl := h5.symm
            go_wp2_with fail
            clear CN c1 c2 x0 x1 x2 y0 y1 y2 h5
            generalize wr.alloc (.cells ((madeCells #[.int .i64 0] c).setIfInBounds t (.int .i64 1)) 3) = W3 at RB1 BA1 ⊢
            obtain ⟨wq, hwq⟩ : ∃ wq, wq = wr := ⟨_, rfl⟩
            subst hwq
            obtain ⟨g, HG⟩ : ∃ g, Hid (wq.heap.size = g) := ⟨_, rfl⟩
            rw [HG.out] at RB1 BA1 hzr ⊢
            have YW : Hid (Below w.heap.size w wq) := YB.out.trans (HB.out.mono (by omega))
            go_loopw [9, 10, 51] (fun _ _ i wr => ∃ l : Nat, l ≤ m ∧ i = .int .i64 l ∧ Hid (RowB wr g c (acF p l F b t)) ∧ Hid (Below g wq wr)) (fun _ _ i _ => m - (intOf i).toNat)
            case atStart => exact ⟨0, Nat.zero_le _, rfl, RB1.out, BA1.out⟩
            case round =>
              obtain ⟨l, hl, rfl, HR1, HV⟩ := hrel
              by_cases hlm : l < m
              · have hli : (l : Int) < (m : Int) := by omega
                have BW : Hid (Below w.heap.size w wr) := YW.out.trans (HV.out.mono (by omega))
                obtain ⟨rb, ro, rfl, ra, rc, hu⟩ := HC.out l hlm
                obtain ⟨c0, -, hu2⟩ := hu wr BW.out
                obtain ⟨rb2, ro2, rfl, c1⟩ := hu2 t hlt
                have tb := (TBr.out.low HV.out (by omega)).cell l hlm
                have X3r := (HV.out.block w.heap.size (by omega)).trans X3.out
                obtain ⟨x0, x1, x2⟩ := three_cells X3r
                have hbl := HQ.out.lt l hlm
                have hbli : (b l : Int) < (c : Int) := by omega
                have c3 := HR1.out.tbl.cell (b l) hbl
                have c4 := HR1.out.tbl.frozen (b l)
                have r1 := HR.out l t hlm hlt
                have SC := hid (fun r => acF_succ (a := t) (r := r) HQ.out hlm (HNB.out l hlm))
                obtain ⟨x, hx⟩ : ∃ x, F l t = x := ⟨_, rfl⟩
                rw [hx] at c1 r1 SC
                obtain ⟨m1, hm1, HM1⟩ : ∃ m1, p - x = m1 ∧ Hid (p - x = m1) := ⟨_, rfl, rfl⟩
                have b1 : 0 ≤ m1 ∧ m1 ≤ 7 := by omega
                obtain ⟨q, hq, HQQ⟩ : ∃ q, Int.tmod m1 p = q ∧ Hid ((p - x) % p = q) := ⟨_, rfl, by
                  show _ = Int.tmod m1 p
                  rw [Int.tmod_eq_emod_of_nonneg b1.1, HM1.out]⟩
                have b4 : 0 ≤ q ∧ q < p := by rw [← hq, Int.tmod_eq_emod_of_nonneg b1.1]; exact ⟨Int.emod_nonneg _ (by omega), Int.emod_lt_of_pos _ (by omega)⟩
                have hw1 : IntKind.i64.wrap m1 = m1 := IntWalk.i64_in _ (by omega)
                have hw4 : IntKind.i64.wrap q = q := IntWalk.i64_in _ (by omega)
                have hp0 : (p == 0) = false := by rw [beq_eq_false_iff_ne]; omega
                have G1 := hid (HR1.out.set (b l) q hbl (f' := acF p (l + 1) F b t) fun i _ => by rw [SC.out i, HQQ.out]).drew
                have G2 := hid (HV.out.setCell (p := ⟨g, b l, none⟩) (Nat.le_refl _) (.int .i64 q)).drew
                generalize acF p l F b t (b l) = zz at c3
                clear HR1 HV BW hu hu2 X3r HQQ HM1 SC hx TBr X3 HX HT HB
                go_wp2_with fail
                go_region_with fail
                all_goals go_wp2_with fail
                all_goals exact ⟨⟨l + 1, by omega, by go_num, G1.out, G2.out⟩, by simp [intOf]; omega⟩
              · obtain rfl : l = m := by omega
                have hnel : ¬ (l : Int) < (l : Int) := by omega
                have HV' : Below wq.heap.size wq wr := by rw [HG.out]; exact HV.out
                obtain ⟨us, u1, u2, u3⟩ := HT.out.below HV'
                have RG : RowB wr g c (acG p c l F b (nbL t l b).length) := HR1.out.congr fun i _ => by
                  unfold acG
                  rw [NH.out]
                have hl8 := HNL.out t (by omega)
                have NL : Hid ((nbL (t + 1) l b).length = (nbL t l b).length + 1) := by show _ = _; rw [NX.out]; simp
                obtain ⟨N1, HN1⟩ : ∃ N1, Hid ((nbL t l b).length = N1) := ⟨_, rfl⟩
                rw [HN1.out] at u1 u2 u3 RG hl8 NL
                have KRG := hid RG
                have K1 := hid u1
                have K2 := hid u2
                have K3 := hid u3
                have KX2 := hid (box_keep HX.out HV')
                obtain ⟨x0, x1, x2⟩ := three_cells KX2.out
                have hgs : g < wr.heap.size := RG.tbl.size
                have HVV := hid HV.out
                have hus : us.length ≤ 8 := by omega
                clear u1 u2 u3 RG HR1 HV HV' NH HNB TBr X3
                go_wp2_with (at_builtin; refine wpList_append_own _ rfl _ _ 22 rfl (w.heap.size + 4) 28 i0 (.slice none 0 0) 1 24 Tryd.undRowsI hi0 hz0 hz1 hz2 rfl (by decide) _ _ _ rfl (K2.out.alloc _) ⟨wr.heap.size, 0, none⟩ 1 1 [.slice (some ⟨g, 0, none⟩) c c] rfl rfl ?d1 ?d2 ?d3 ?d4 ?d5 ?_)
                case d2 => first | rfl | (intro u hu; simp at hu; subst hu; rfl)
                case d3 => first | (unfold maxLen; omega) | omega
                case d4 => omega
                case d5 => first | omega | (simp; omega)
                intro v' w7 hown' hgrow _
                obtain ⟨gv, cv, rfl⟩ : ∃ gv cv, v' = .slice (some ⟨gv, 0, none⟩) (N1 + 1) cv := by
                  rcases Go.Joins.ownsRow_forms hown' with ⟨rfl, h0⟩ | ⟨g', cap', rfl⟩
                  · omega
                  · exact ⟨_, _, rfl⟩
                have TS := TotS.snoc K1.out K2.out K3.out KRG.out hown' hgrow
                have hbG : Below (w.heap.size + 4) wr w7 := ((Below.refl _ wr).alloc (by omega) _).grown hgrow (by simp; omega) (fun j hj => (World.ownsRow.lt K2.out j hj).1)
                have hX7 := (hbG.block (w.heap.size + 3) (by omega)).trans KX2.out
                have hX8 : (w7.setCell ⟨w.heap.size + 3, 2, none⟩ (.slice (some ⟨gv, 0, none⟩) (N1 + 1) cv)).heap[w.heap.size + 3]? = some (.cells #[.int .i64 p, .int .i64 c, (.slice (some ⟨gv, 0, none⟩) (N1 + 1) cv)] 24 (0, 0)) := by
                  unfold World.setCell
                  dsimp only
                  rw [Array.getElem?_modify, hX7]
                  simp
                have TS8 := hid (TS.save (save_cell w7 (w.heap.size + 3) 2 (.slice (some ⟨gv, 0, none⟩) (N1 + 1) cv)) (by omega) (fun cs e => by rw [hX7] at e; simp at e))
                have hbA := (HB.out.trans ((show Below (w.heap.size + 3) wq wr from HVV.out.mono (by omega)))).trans (hbG.mono (by omega))
                have HB8 := hid (hbA.setCell (p := ⟨w.heap.size + 3, 2, none⟩) (Nat.le_refl _) (.slice (some ⟨gv, 0, none⟩) (N1 + 1) cv))
                have KX8 := hid hX8
                have c0 : w7.cell? ⟨w.heap.size + 3, 2, none⟩ = some vx := by simp [World.cell?, hX7]
                have f0 : w7.frozen? ⟨w.heap.size + 3, 2, none⟩ = false := by simp [World.frozen?, hX7]
                have hs7 := Nat.le_trans (show w.heap.size + 4 ≤ wr.heap.size by omega) hbG.size
                clear hown' hgrow TS hbG hX7 hX8 hbA x0 x1 x2
                go_wp2_with fail
                exact ⟨⟨t + 1, (.slice (some ⟨gv, 0, none⟩) (N1 + 1) cv), by omega, by go_num, KX8.out, by rw [NL.out]; exact TS8.out, HB8.out, by show _ ≤ _; rw [World.size_setCell]; exact hs7⟩, by simp [intOf]; omega⟩
        · obtain rfl : t = c := by omega
          have hne2 : ¬ (t : Int) < (t : Int) := by omega
          have RW := HT.out.rowsI hc8 (HNL.out t (Nat.le_refl _))
          obtain ⟨va, vc, rfl⟩ := RW.form
          obtain ⟨n0, n1, n2⟩ := three_cells HX.out
          have X4 := (HB.out.block (w.heap.size + 1) (by omega)).trans Y4.out
          obtain ⟨m0, m1, m2⟩ := three_cells X4
          obtain ⟨f0, f1, f2⟩ := three_frozen X4
          obtain ⟨N2, hN2⟩ : ∃ x, (matL (nbL t m b).length t (acG p t m F b)).length = x := ⟨_, rfl⟩
          rw [hN2] at n2 HT HX
          clear hN2
          have SV := save_three wr (w.heap.size + 1) (.int .i64 p) (.int .i64 t) (.slice va N2 vc)
          have HR4 := hid (set_three (x' := .int .i64 p) (y' := .int .i64 t) (z' := .slice va N2 vc) X4)
          have RI := hid ((HT.out.save SV (by omega) (fun cs e => by rw [X4] at e; simp at e)).rowsI hc8 (HNL.out t (Nat.le_refl _)))
          have HBW := hid (SV.below (YB.out.trans (HB.out.mono (by omega))) (by omega) (fun z e => by omega))
          obtain ⟨g0, g1, g2⟩ := three_cells HR4.out
          clear HT HX HB RW SV X4 HR4 TB1 Y3 Y4 YX YB
          go_wp2_with fail
          refine bodyPost_ret (v := .agg #[.int .i64 p, .int .i64 t, .slice va N2 vc]) ?_ rfl ⟨_, rfl, RI.out, HBW.out⟩
          simp [results, Tryd.f23, go_sem, g0, g1, g2]
end Go.Proofs.YtdabkgbbalooiaaDoor
