/- field.reduced: the walk. -/
import Derived.Test.YtcncaaeofcmefaaFdFQ
namespace Go.Proofs.Ytcncaaeofcmefaa
open Go.RowKit

def rowF (R : List (List Int)) (i r : Nat) : Int := (R.getD i []).getD r 0
/-- The world when reduced begins to clone rows: the box of x, the box of the result, the rows' block. -/
def redW (w : World) (p : Int) (c : Nat) (v : Value) (N : Nat) : World := (((w.alloc (.cells #[.int .i64 p, .int .i64 c, v] 24)).alloc (.cells #[.int .i64 0, .int .i64 0, .slice none 0 0] 24)).alloc (.cells (madeCells #[.slice none 0 0] N) 28))
theorem redW_ok (w : World) (p : Int) (c : Nat) (v : Value) (N : Nat) : (redW w p c v N).heap.size = w.heap.size + 3 ∧ Below w.heap.size w (redW w p c v N) ∧ (redW w p c v N).heap[w.heap.size]? = some (.cells #[.int .i64 p, .int .i64 c, v] 24 (0, 0)) ∧ (redW w p c v N).heap[w.heap.size + 1]? = some (.cells #[.int .i64 0, .int .i64 0, .slice none 0 0] 24 (0, 0)) ∧ ∀ f, ClnH (redW w p c v N) (w.heap.size + 1 + 1) N c (w.heap.size + 3) 0 (fun _ => 0) (fun _ => 0) f := by
  have e1 : (w.alloc (.cells #[.int .i64 p, .int .i64 c, v] 24)).heap.size = w.heap.size + 1 := by simp
  have e2 : ((w.alloc (.cells #[.int .i64 p, .int .i64 c, v] 24)).alloc (.cells #[.int .i64 0, .int .i64 0, .slice none 0 0] 24)).heap.size = w.heap.size + 1 + 1 := by simp
  have b1 : Below (w.heap.size + 1) (w.alloc (.cells #[.int .i64 p, .int .i64 c, v] 24)) (redW w p c v N) := ((Below.refl _ _).alloc (by omega) _).alloc (by simp) _
  have b2 : Below (w.heap.size + 1 + 1) ((w.alloc (.cells #[.int .i64 p, .int .i64 c, v] 24)).alloc (.cells #[.int .i64 0, .int .i64 0, .slice none 0 0] 24)) (redW w p c v N) := (Below.refl _ _).alloc (by omega) _
  refine ⟨by simp [redW], (((Below.refl _ _).alloc (Nat.le_refl _) _).alloc (by simp) _).alloc (by simp; omega) _, (b1.block _ (by omega)).trans (World.alloc_heap_new w _), ?_, fun f => ⟨fun i hi => by omega, fun i _ hi => ?_, fun i => ?_, fun _ i hi => by omega, fun _ i j hi => by omega, by simp [redW]⟩⟩
  · have := World.alloc_heap_new (w.alloc (.cells #[.int .i64 p, .int .i64 c, v] 24)) (.cells #[.int .i64 0, .int .i64 0, .slice none 0 0] 24)
    rw [e1] at this
    exact (b2.block _ (by omega)).trans this
  · unfold redW
    rw [World.cell?_alloc_at _ _ _ _ (by rw [e2])]
    simp [madeCells, hi, Nat.mod_one]
  · unfold redW
    exact World.frozen?_alloc_at _ _ _ _ (by rw [e2])
theorem gau_zero (p : Int) (N : Nat) (f : Nat → Nat → Int) : gau p N f 0 = (0, f) := rfl
theorem gau_miss {p : Int} {N a : Nat} {f : Nat → Nat → Int} (h : nxtM (gau p N f a).2 a (gau p N f a).1 N = none) : gau p N f (a + 1) = gau p N f a := by
  show gauS p N a (gau p N f a) = _
  unfold gauS
  rw [h]
theorem gau_hit {p : Int} {N a i : Nat} {f : Nat → Nat → Int} (h : nxtM (gau p N f a).2 a (gau p N f a).1 N = some i) : gau p N f (a + 1) = ((gau p N f a).1 + 1, clrM p (gau p N f a).1 a (swpM (gau p N f a).1 ((gau p N f a).1 + i) (gau p N f a).2)) := by
  show gauS p N a (gau p N f a) = _
  unfold gauS
  rw [h]
set_option maxRecDepth 20000 in
set_option maxHeartbeats 4000000 in
theorem reduced_ok (p : Int) (c : Nat) (v : Value) (R : List (List Int)) (w : World) (h : RowsI w v R) (hp : isP p) (hc8 : c ≤ 8) (hR : R.length ≤ 256) (hr : ∀ k, k < R.length → (R.getD k []).length = c) (hin : ∀ k, k < R.length → ∀ r, r < c → 0 ≤ rowF R k r ∧ rowF R k r < p) :
    Calls Try.prog 11 #[.agg #[.int .i64 p, .int .i64 c, v]] w fun e w' => ∃ u, e = .returned (.agg #[.int .i64 p, .int .i64 c, u]) ∧ RowsN w.heap.size w' u (matL (redN p c R.length (rowF R)) c (redF p c R.length (rowF R))) ∧ Below w.heap.size w w' := by
  obtain ⟨a, cap, rfl, hlen, hc⟩ := h
  obtain ⟨q1, q2, q3, q4, q5⟩ := redW_ok w p c (.slice a R.length cap) R.length
  have HC : Hid (∀ k, k < R.length → ∃ b off, a = some ⟨b, off, none⟩ ∧ ∃ u, ∀ wr, Below w.heap.size w wr → wr.cell? ⟨b, off + k, none⟩ = some u ∧ RdZ wr u c (rowF R k) fun _ => True) := fun k hk => by
    obtain ⟨b, off, h1, h2, h3⟩ := hc (by omega)
    obtain ⟨u, h4, h5⟩ := h3 k hk
    refine ⟨b, off, h1, u, fun wr hbw => ⟨(hbw.cell (p := ⟨b, off + k, none⟩) h2).trans h4, ?_⟩⟩
    obtain ⟨ra, rc, e1, -, e3⟩ := h5.below hbw
    rw [hr k hk] at e1 e3
    refine ⟨ra, rc, e1, fun h0 => ?_⟩
    obtain ⟨b, off, f1, f2, f3⟩ := e3 h0
    exact ⟨b, off, f1, trivial, f2, f3⟩
  have HG : Hid (∀ k, k ≤ c → ∃ b, Gs p c R.length (rowF R) k (gau p R.length (rowF R) k).1 (gau p R.length (rowF R) k).2 b) := fun k hk => gau_gs hp hin k hk
  have mk := fun w => run_make_rows R.length hR w
  have HP := hid hp
  have H0 := hid (q5 (rowF R))
  have Q1 := hid q1
  have Q2 := hid q2
  have Q3 := hid q3
  have Q4 := hid q4
  unfold redN redF
  obtain ⟨N, HN⟩ : ∃ N, Hid (R.length = N) := ⟨_, rfl⟩
  rw [HN.out] at H0 HC HG mk Q1 Q2 Q3 Q4 hR hlen ⊢
  clear hc hr hin q1 q2 q3 q4 q5 hp
  obtain ⟨F, HF⟩ : ∃ F, Hid (rowF R = F) := ⟨_, rfl⟩
  rw [HF.out] at H0 HC HG ⊢
  clear HF HN
  go_enter Try.func11, Try.ntmps11
  go_wp2_with fail
  clear mk
  unfold redW at H0 Q1 Q2 Q3 Q4
  generalize (((w.alloc (.cells #[.int .i64 p, .int .i64 c, .slice a N cap] 24)).alloc (.cells #[.int .i64 0, .int .i64 0, .slice none 0 0] 24)).alloc (.cells (madeCells #[.slice none 0 0] N) 28)) = W0 at H0 Q1 Q2 Q3 Q4 ⊢
  go_loopw [4, 5, 16] (fun _ _ i wr => ∃ k : Nat, k ≤ N ∧ i = .int .i64 k ∧ Hid (∃ rb cp, ClnH wr (w.heap.size + 1 + 1) N c (w.heap.size + 3) k rb cp F) ∧ Hid (Save (fun b => b = w.heap.size + 1 + 1) W0 wr)) (fun _ _ i _ => N - (intOf i).toNat)
  case atStart => exact ⟨0, Nat.zero_le _, rfl, ⟨_, _, H0.out⟩, Save.refl _ _⟩
  case round =>
    obtain ⟨k, hk, rfl, HK, HS⟩ := hrel
    have hs0 := Q1.out
    have HBW : Hid (Below w.heap.size w wr) := HS.out.below Q2.out (by omega) (fun b e => by omega)
    by_cases hlt : k < N
    · have hki : (k : Int) < (N : Int) := by omega
      obtain ⟨b, off, rfl, u, hu⟩ := HC.out k hlt
      obtain ⟨c0, c1⟩ := hu wr HBW.out
      have hsz := HS.out.size
      have CL := hid (CloneI_ok c (F k) u wr c1 (by omega))
      have HT : Hid (∀ w4 a' cap', (0 < c → ∃ g, a' = some ⟨g, 0, none⟩ ∧ wr.heap.size ≤ g ∧ TblZ g w4 c (F k)) → Below wr.heap.size wr w4 → w4.cell? ⟨w.heap.size + 1 + 1, k, none⟩ = some (.slice none 0 0) ∧ w4.frozen? ⟨w.heap.size + 1 + 1, k, none⟩ = false ∧ (∃ rb cp, ClnH (w4.setCell ⟨w.heap.size + 1 + 1, k, none⟩ (.slice a' c cap')) (w.heap.size + 1 + 1) N c (w.heap.size + 3) (k + 1) rb cp F) ∧ Save (fun b => b = w.heap.size + 1 + 1) W0 (w4.setCell ⟨w.heap.size + 1 + 1, k, none⟩ (.slice a' c cap'))) := fun w4 a' cap' h4 h5 => by
        obtain ⟨rb, cp, hcl⟩ := HK.out
        refine ⟨(h5.cell (p := ⟨w.heap.size + 1 + 1, k, none⟩) hcl.size).trans (hcl.todo k (Nat.le_refl _) hlt), (froz_below h5 hcl.size).trans (hcl.frz k), ?_, (HS.out.trans (Save.of_below h5)).trans (save_cell _ _ _ _)⟩
        obtain ⟨rb', h6⟩ := hcl.step hlt (by omega) (by omega) (cap := cap') h4 h5
        exact ⟨rb', _, h6⟩
      clear HK HS hu c1 HBW hsz hs0
      go_wp2_with fail
      refine CL.out.mono ?_
      rintro e w4 ⟨a', cap', rfl, h4, h5⟩
      obtain ⟨t0, t1, t2, t3⟩ := HT.out w4 a' cap' h4 h5
      have T2 := hid t2
      have T3 := hid t3
      clear h4 h5 t2 t3 HT CL
      go_wp2_with fail
      exact ⟨⟨k + 1, by omega, by go_num, T2.out, T3.out⟩, by simp [intOf]; omega⟩
    · obtain rfl : k = N := by omega
      have hne : ¬ (k : Int) < (k : Int) := by omega
      have hB : Hid (∀ wx, Save (fun b => b = w.heap.size + 1 + 1) W0 wx → wx.heap[w.heap.size]? = some (.cells #[.int .i64 p, .int .i64 c, .slice a k cap] 24 (0, 0)) ∧ wx.heap[w.heap.size + 1]? = some (.cells #[.int .i64 0, .int .i64 0, .slice none 0 0] 24 (0, 0))) := fun wx hx => ⟨(hx.block _ (by omega) (by omega)).trans Q3.out, (hx.block _ (by omega) (by omega)).trans Q4.out⟩
      have HBB : Hid (∀ wx, Save (fun b => b = w.heap.size + 1 + 1) W0 wx → Below w.heap.size w wx) := fun wx hx => hx.below Q2.out (by omega) (fun b e => by omega)
      obtain ⟨x0, x1, x2⟩ := three_cells (hB.out _ HS.out).1
      have HM0 : Hid (0 < c → ∃ rb cp, MatB wr (w.heap.size + 1 + 1) k c rb cp F ∧ ∀ i, i < k → w.heap.size + 3 ≤ rb i) := fun h0 => by
        obtain ⟨rb, cp, hcl⟩ := HK.out
        exact ⟨rb, cp, hcl.full (by omega) h0, hcl.new h0⟩
      clear HC HK H0 Q2 Q3 Q4
      go_wp2_with fail
      go_loopw [6, 7, 8, 29] (fun dd _ _ i wr => ∃ t : Nat, t ≤ c ∧ i = .int .i64 t ∧ dd = .int .i64 ((gau p k F t).1 : Nat) ∧ Hid (0 < c → ∃ rb cp, MatB wr (w.heap.size + 1 + 1) k c rb cp (gau p k F t).2 ∧ ∀ i, i < k → w.heap.size + 3 ≤ rb i) ∧ Hid (Save (fun b => b = w.heap.size + 1 + 1) W0 wr)) (fun _ _ _ i _ => c - (intOf i).toNat)
      case atStart => exact ⟨0, Nat.zero_le _, rfl, rfl, HM0.out, HS.out⟩
      case round =>
        obtain ⟨t, ht, rfl, rfl, HT, HU⟩ := hrel
        clear HM0 HS x0 x1 x2
        obtain ⟨bg, hg⟩ := HG.out t ht
        have hdn := hg.dn
        have HRG := hid hg.rng
        clear hg
        by_cases hlt : t < c
        · have hti : (t : Int) < (c : Int) := by omega
          obtain ⟨rb, cp, hm, hn⟩ := HT.out (by omega)
          have HN := hid hn
          have HB1 := hid ((Below.refl wr.heap.size wr).alloc (Nat.le_refl _) (.cells #[.int .i64 t] 3))
          have HM := hid (hm.below HB1.out)
          have hcb : (wr.alloc (.cells #[.int .i64 t] 3)).cell? ⟨wr.heap.size, 0, none⟩ = some (.int .i64 t) := by rw [World.cell?_alloc_at _ _ _ _ rfl]; rfl
          have HU1 := hid (HU.out.alloc (.cells #[.int .i64 t] 3))
          have IX := hid (fun K o cap hK ho => IndexCol_ok (w.heap.size + 1 + 1) (gau p k F t).1 k c cap wr.heap.size t K o rb cp (gau p k F t).2 _ HM.out hK ho (by omega) hlt hcb)
          have CS := hid (first_nxt (gau p k F t).2 t (gau p k F t).1 k)
          have GM : Hid (nxtM (gau p k F t).2 t (gau p k F t).1 k = none → (gau p k F (t + 1)).1 = (gau p k F t).1 ∧ (gau p k F (t + 1)).2 = (gau p k F t).2) := fun h => by rw [gau_miss h]; exact ⟨rfl, rfl⟩
          have GH : Hid (∀ i, nxtM (gau p k F t).2 t (gau p k F t).1 k = some i → (gau p k F (t + 1)).1 = (gau p k F t).1 + 1 ∧ (gau p k F (t + 1)).2 = clrM p (gau p k F t).1 t (swpM (gau p k F t).1 ((gau p k F t).1 + i) (gau p k F t).2)) := fun i h => by rw [gau_hit h]; exact ⟨rfl, rfl⟩
          obtain ⟨d, hd⟩ : ∃ d, (gau p k F t).1 = d := ⟨_, rfl⟩
          obtain ⟨f, hf⟩ : ∃ f, (gau p k F t).2 = f := ⟨_, rfl⟩
          rw [hd, hf] at IX CS GM GH
          rw [hd] at hdn ⊢
          rw [hf] at HRG HM
          obtain ⟨W1, hW1⟩ : ∃ W1, wr.alloc (.cells #[.int .i64 t] 3) = W1 := ⟨_, rfl⟩
          rw [hW1] at IX HM HU1 HB1 hcb
          have hdi : (d : Int) ≤ (k : Int) := by omega
          have hWs : Hid (w.heap.size + 3 ≤ wr.heap.size) := by
            have h1 := HU.out.size
            have h2 := Q1.out
            show _ ≤ _
            omega
          clear hm hn HT HU hd hf
          rcases CS.out with ⟨e1, e2⟩ | ⟨i, e1, e2, e3, e4⟩
          · rw [e1] at IX
            have G1 := hid (GM.out e2)
            have HE : Hid (∃ rb cp, MatB W1 (w.heap.size + 1 + 1) k c rb cp f ∧ ∀ i, i < k → w.heap.size + 3 ≤ rb i) := ⟨rb, cp, HM.out, HN.out⟩
            clear CS GM GH e1 e2 HM
            rcases Nat.lt_or_ge d k with hdk | hdk
            · have hdk2 : (d : Int) < (k : Int) := by omega
              have hdk3 : ¬ k = d := by omega
              go_wp2_with fail
              with_reducible refine Calls.mono (IX.out (k - d) d _ rfl fun _ => rfl) ?_
              rintro e w2 ⟨rfl, h2⟩
              obtain rfl := h2.symm
              go_wp2_with fail
              exact ⟨⟨t + 1, by omega, by go_num, by rw [G1.out.1], fun _ => by rw [G1.out.2]; exact HE.out, HU1.out⟩, by simp [intOf]; omega⟩
            · obtain rfl : k = d := by omega
              go_wp2_with fail
              with_reducible refine Calls.mono (IX.out 0 0 0 (by omega) fun h => absurd h (Nat.lt_irrefl _)) ?_
              rintro e w2 ⟨rfl, h2⟩
              obtain rfl := h2.symm
              go_wp2_with fail
              exact ⟨⟨t + 1, by omega, by go_num, by rw [G1.out.1], fun _ => by rw [G1.out.2]; exact HE.out, HU1.out⟩, by simp [intOf]; omega⟩
          · rw [e1] at IX
            have G1 := hid (GH.out i e2)
            have hw1 : IntKind.i64.wrap ((d : Int) + (i : Int)) = ((d + i : Nat) : Int) := by rw [IntWalk.i64_in _ (by omega)]; omega
            obtain ⟨j, hj⟩ : ∃ j, d + i = j := ⟨_, rfl⟩
            rw [hj] at hw1 e3 e4 G1
            have hji : (j : Int) < (k : Int) := by omega
            have hdk : d < k := by omega
            have hdi2 : (d : Int) < (k : Int) := by omega
            have hi0 : ¬ (i : Int) < 0 := by omega
            have c1 := HM.out.head j e3
            have c2 := HM.out.head d hdk
            have c3 := HM.out.frz j
            have c4 := HM.out.frz d
            have hdk3 : ¬ k = d := by omega
            have SW := hid (HM.out.swap hdk e3)
            have SWS : Hid (Save (fun b => b = w.heap.size + 1 + 1) W0 (((W1.setCell ⟨w.heap.size + 1 + 1, d, none⟩ (.slice (some ⟨rb j, 0, none⟩) c (cp j))).setCell ⟨w.heap.size + 1 + 1, j, none⟩ (.slice (some ⟨rb d, 0, none⟩) c (cp d))))) := (HU1.out.trans (save_cell _ _ _ _)).trans (save_cell _ _ _ _)
            have hcb2 : ((W1.setCell ⟨w.heap.size + 1 + 1, d, none⟩ (.slice (some ⟨rb j, 0, none⟩) c (cp j))).setCell ⟨w.heap.size + 1 + 1, j, none⟩ (.slice (some ⟨rb d, 0, none⟩) c (cp d))).cell? ⟨wr.heap.size, 0, none⟩ = some (.int .i64 t) := by
              have := hWs.out
              rw [World.cell?_setCell_other _ _ _ _ (by simp <;> omega), World.cell?_setCell_other _ _ _ _ (by simp <;> omega)]
              exact hcb
            obtain ⟨y0, y1, y2⟩ := three_cells (hB.out _ SWS.out).1
            obtain ⟨W2, hW2⟩ : ∃ W2, ((W1.setCell ⟨w.heap.size + 1 + 1, d, none⟩ (.slice (some ⟨rb j, 0, none⟩) c (cp j))).setCell ⟨w.heap.size + 1 + 1, j, none⟩ (.slice (some ⟨rb d, 0, none⟩) c (cp d))) = W2 := ⟨_, rfl⟩
            rw [hW2] at SW SWS hcb2 y0 y1 y2
            have CC := hid (clearColumn_ok p (w.heap.size + 1 + 1) k c k d t _ _ (swpM d j f) W2.drew HP.out (by omega) (by omega) hdk hlt SW.out.drew (fun i hi r hr => by
              unfold swpM
              split; · exact HRG.out j e3 r hr
              split; · exact HRG.out d hdk r hr
              exact HRG.out i hi r hr) (by rw [show swpM d j f d = f j from if_pos rfl]; exact e4))
            have HFIN : Hid (∀ w5, Save (fun b => ∃ i, i < k ∧ b = rb (swpI d j i)) W2.drew w5 → Save (fun b => b = w.heap.size + 1 + 1) W0 w5) := fun w5 h5 => SWS.out.drew.andThen h5 fun b hb ⟨i, hi, e⟩ => by
              have h6 : swpI d j i < k := by unfold swpI; split; · exact e3
                                             split; · exact hdk
                                             exact hi
              have h7 := HN.out _ h6
              have h8 := Q1.out
              omega
            have HN2 : Hid (∀ i, i < k → w.heap.size + 3 ≤ rb (swpI d j i)) := fun i hi => by
              have h6 : swpI d j i < k := by unfold swpI; split; · exact e3
                                             split; · exact hdk
                                             exact hi
              exact HN.out _ h6
            clear CS GM GH HM HB1 HU1 HRG e1 e2 e4 SW SWS HN
            go_wp2_with fail
            with_reducible refine Calls.mono (IX.out (k - d) d _ rfl fun _ => rfl) ?_
            rintro e w2 ⟨rfl, h2⟩
            obtain rfl := h2.symm
            clear IX
            go_wp2_with fail
            by_cases hjd : j = d
            · subst hjd
              go_region_with fail
              all_goals go_wp2_with fail
              all_goals (with_reducible refine Calls.mono CC.out ?_)
              all_goals rintro e w5 ⟨rfl, h5, h6⟩
              all_goals have H5 := hid h5
              all_goals have H6 := hid (HFIN.out _ h6)
              all_goals clear h5 h6
              all_goals go_wp2_with fail
              all_goals exact ⟨⟨t + 1, by omega, by go_num, by rw [G1.out.1]; go_num, fun _ => by rw [G1.out.2]; exact ⟨_, _, H5.out, HN2.out⟩, H6.out⟩, by simp [intOf]; omega⟩
            · have hdj : ¬ d = j := fun e => hjd e.symm
              go_region_with fail
              all_goals go_wp2_with fail
              all_goals (with_reducible refine Calls.mono CC.out ?_)
              all_goals rintro e w5 ⟨rfl, h5, h6⟩
              all_goals have H5 := hid h5
              all_goals have H6 := hid (HFIN.out _ h6)
              all_goals clear h5 h6
              all_goals go_wp2_with fail
              all_goals exact ⟨⟨t + 1, by omega, by go_num, by rw [G1.out.1]; go_num, fun _ => by rw [G1.out.2]; exact ⟨_, _, H5.out, HN2.out⟩, H6.out⟩, by simp [intOf]; omega⟩
        · obtain rfl : t = c := by omega
          have hne2 : ¬ (t : Int) < (t : Int) := by omega
          obtain ⟨z0, z1, z2⟩ := three_cells (hB.out _ HU.out).1
          obtain ⟨y0, y1, y2⟩ := three_cells (hB.out _ HU.out).2
          obtain ⟨g0, g1, g2⟩ := three_frozen (hB.out _ HU.out).2
          have HRR : Hid (RowsN w.heap.size (((wr.setCell ⟨w.heap.size + 1, 0, none⟩ (.int .i64 p)).setCell ⟨w.heap.size + 1, 1, none⟩ (.int .i64 t)).setCell ⟨w.heap.size + 1, 2, none⟩ (.slice (some ⟨w.heap.size + 1 + 1, 0, none⟩) (gau p k F t).1 (gau p k F t).1)).drew (.slice (some ⟨w.heap.size + 1 + 1, 0, none⟩) (gau p k F t).1 (gau p k F t).1) (matL (gau p k F t).1 t (gau p k F t).2)) := by
            rcases Nat.eq_zero_or_pos t with h0 | h0
            · subst h0
              exact ⟨_, _, rfl, by show 0 ≤ _; omega, by show 0 ≤ _; omega, fun h => absurd h (Nat.lt_irrefl 0)⟩
            · obtain ⟨rb, cp, hm, hn⟩ := HT.out h0
              exact ((hm.save (save_three wr (w.heap.size + 1) _ _ _) (by omega) fun i hi => by have := hn i hi; omega).drew).rowsN (by omega) (by omega) _ hdn (by omega) (fun i hi => by have := hn i hi; omega) (Nat.le_refl _)
          have HBL : Hid (Below w.heap.size w (((wr.setCell ⟨w.heap.size + 1, 0, none⟩ (.int .i64 p)).setCell ⟨w.heap.size + 1, 1, none⟩ (.int .i64 t)).setCell ⟨w.heap.size + 1, 2, none⟩ (.slice (some ⟨w.heap.size + 1 + 1, 0, none⟩) (gau p k F t).1 (gau p k F t).1)).drew) := ((save_three wr (w.heap.size + 1) _ _ _).below (HBB.out _ HU.out) (by have h1 := HU.out.size; have h2 := Q1.out; omega) (fun b e => by omega)).drew
          have HR3 := hid (set_three (x' := .int .i64 p) (y' := .int .i64 t) (z' := .slice (some ⟨w.heap.size + 1 + 1, 0, none⟩) (gau p k F t).1 (gau p k F t).1) (hB.out _ HU.out).2)
          clear HT HU HRG
          obtain ⟨d, HD⟩ : ∃ d, Hid ((gau p k F t).1 = d) := ⟨_, rfl⟩
          rw [HD.out] at HRR HBL HR3 hdn ⊢
          have hdi : (d : Int) ≤ (k : Int) := by omega
          obtain ⟨n0, n1, n2⟩ := three_cells HR3.out
          clear HR3
          go_wp2_with fail
          go_region_with fail
          all_goals go_wp2_with fail
          all_goals (refine bodyPost_ret (v := .agg #[.int .i64 p, .int .i64 t, .slice (some ⟨w.heap.size + 1 + 1, 0, none⟩) d d]) ?_ rfl ⟨_, rfl, by rw [HD.out]; exact HRR.out, HBL.out⟩)
          all_goals simp [results, Try.f11, go_sem, n0, n1, n2]
end Go.Proofs.Ytcncaaeofcmefaa
