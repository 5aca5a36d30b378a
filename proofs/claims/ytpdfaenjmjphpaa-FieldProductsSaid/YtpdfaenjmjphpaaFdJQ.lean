/- field.Rank, field.Turned. -/
import Derived.Test.YtpdfaenjmjphpaaFdIW
namespace Go.Proofs.Ytpdfaenjmjphpaa
open Go.RowKit

theorem field_rows (p c : Int) (a : Option Addr) (l k : Nat) (w : World) : (Instr.field 24 (.agg #[.int .i64 p, .int .i64 c, .slice a l k]) 2).run Try.prog w = .ok (.slice a l k) w := by kernel_rfl
/-- Rows and columns change places. -/
def turL (c : Nat) (R : List (List Int)) : List (List Int) := matL c R.length fun j i => rowF R i j
set_option maxRecDepth 20000 in
set_option maxHeartbeats 4000000 in
theorem Turned_ok (p : Int) (c : Nat) (v : Value) (R : List (List Int)) (w : World) (h : RowsI w v R) (hm : MatOK p c R) (hc6 : c ≤ 6) :
    Calls Try.prog 7 #[.agg #[.int .i64 p, .int .i64 c, v]] w fun e w' => ∃ u, e = .returned (.tuple #[.agg #[.int .i64 p, .int .i64 R.length, u], .int .i64 0]) ∧ RowsN w.heap.size w' u (turL c R) ∧ Below w.heap.size w w' := by
  obtain ⟨q1, q2, q3, q4⟩ := bxM_ok w p c v
  have CM := hid (CheckMatrix_any p c v R _ (h.below q2))
  rw [MatOK.iff.2 hm] at CM
  obtain ⟨a, cap, rfl, hlen, hcc⟩ := h
  have HC : Hid (∀ k, k < R.length → ∃ b off, a = some ⟨b, off, none⟩ ∧ ∃ ra rc, ∀ wr, Below w.heap.size w wr → wr.cell? ⟨b, off + k, none⟩ = some (.slice ra c rc) ∧ ∀ m, m < c → ∃ rb ro, ra = some ⟨rb, ro, none⟩ ∧ wr.cell? ⟨rb, ro + m, none⟩ = some (.int .i64 (rowF R k m))) := fun k hk => by
    obtain ⟨b, off, h1, h2, h3⟩ := hcc (by omega)
    obtain ⟨u, h4, h5⟩ := h3 k hk
    have hl := hm.len k hk
    have hl2 : (R.getD k []).length = c := by omega
    have h5' := h5
    obtain ⟨ra, rc, rfl, -, -⟩ := h5
    refine ⟨b, off, h1, ra, rc, fun wr hbw => ⟨?_, fun m hmc => ?_⟩⟩
    · rw [hbw.cell (p := ⟨b, off + k, none⟩) h2, h4, hl2]
    · obtain ⟨ra2, rc2, e1, -, e3⟩ := h5'.below hbw
      cases e1
      obtain ⟨rb, ro, e4, -, e6⟩ := e3 (by omega)
      exact ⟨rb, ro, e4, e6 m (by omega)⟩
  have hR6 := hm.rl
  have Q1 := hid q1
  have Q2 := hid q2
  have HX : Hid (∀ w2, Below (bxM w p c (.slice a R.length cap)).heap.size (bxM w p c (.slice a R.length cap)) w2 → w2.heap[w.heap.size]? = some (.cells #[.int .i64 p, .int .i64 c, .slice a R.length cap] 24 (0, 0)) ∧ w2.heap[w.heap.size + 1]? = some (.cells #[.int .i64 0, .int .i64 0, .slice none 0 0] 24 (0, 0))) := fun w2 hb => ⟨(hb.block _ (by omega)).trans q3, (hb.block _ (by omega)).trans q4⟩
  obtain ⟨x0, x1, x2⟩ := three_cells q3
  unfold turL
  obtain ⟨F, HF⟩ : ∃ F, Hid (rowF R = F) := ⟨_, rfl⟩
  rw [HF.out] at HC ⊢
  obtain ⟨N, HN⟩ : ∃ N, Hid (R.length = N) := ⟨_, rfl⟩
  rw [HN.out] at CM HC hR6 Q1 Q2 HX x0 x1 x2 hlen ⊢
  clear hm q1 q2 q3 q4 hcc HF HN
  unfold bxM at CM HX Q1 Q2 x0 x1 x2
  have hcn : ¬ (6 : Int) < (c : Int) := by omega
  go_enter Try.func7, Try.ntmps7
  go_wp2_with fail
  generalize (w.alloc (.cells #[.int .i64 p, .int .i64 c, .slice a N cap] 24)).alloc (.cells #[.int .i64 0, .int .i64 0, .slice none 0 0] 24) = W0 at CM HX Q1 Q2 x0 x1 x2 ⊢
  refine CM.out.mono ?_
  rintro e w2 ⟨rfl, hb2⟩
  have HB2 := hid hb2
  clear CM x0 x1 x2 hb2
  obtain ⟨x0, x1, x2⟩ := three_cells (HX.out _ HB2.out).1
  have NO := hid (noughts_ok p c N w2 (by omega) (by omega))
  go_wp2_with fail
  refine NO.out.mono ?_
  rintro e w3 ⟨rfl, h3, h4⟩
  have hs2 := HB2.out.size
  have hs3 := h4.size
  have hs0 := Q1.out
  have B3 : Hid (Below W0.heap.size W0 w3) := HB2.out.trans (h4.mono HB2.out.size)
  have BZ := (Below.refl w3.heap.size w3).alloc (Nat.le_refl _) (.cells #[.int .i64 p, .int .i64 N, .slice (some ⟨w2.heap.size + 1, 0, none⟩) c c] 24)
  have HM0 := hid (h3.below BZ)
  have BZ0 := hid (B3.out.trans (BZ.mono B3.out.size))
  have HZ := hid (World.alloc_heap_new w3 (.cells #[.int .i64 p, .int .i64 N, .slice (some ⟨w2.heap.size + 1, 0, none⟩) c c] 24))
  have hszZ : w3.heap.size < (w3.alloc (.cells #[.int .i64 p, .int .i64 N, .slice (some ⟨w2.heap.size + 1, 0, none⟩) c c] 24)).heap.size := by simp
  have hg3 := h3.size
  have hr3 : ∀ i, i < c → w2.heap.size + 3 + i < w3.heap.size := fun i hi => (h3.row i hi).size
  have HR3 := hid hr3
  clear x0 x1 x2 h3 h4 NO BZ hr3
  obtain ⟨x0, x1, x2⟩ := three_cells (HX.out _ BZ0.out).1
  obtain ⟨z0, z1, z2⟩ := three_cells HZ.out
  go_wp2_with fail
  generalize w3.alloc (.cells #[.int .i64 p, .int .i64 N, .slice (some ⟨w2.heap.size + 1, 0, none⟩) c c] 24) = WZ at HM0 BZ0 HZ hszZ x0 x1 x2 z0 z1 z2 ⊢
  -- what stays while the rows are written
  have HST : Hid (∀ wr, Save (fun b => ∃ i, i < c ∧ b = w2.heap.size + 3 + i) WZ wr → Below w.heap.size w wr ∧ wr.heap[w.heap.size]? = some (.cells #[.int .i64 p, .int .i64 c, .slice a N cap] 24 (0, 0)) ∧ wr.heap[w.heap.size + 1]? = some (.cells #[.int .i64 0, .int .i64 0, .slice none 0 0] 24 (0, 0)) ∧ wr.heap[w3.heap.size]? = some (.cells #[.int .i64 p, .int .i64 N, .slice (some ⟨w2.heap.size + 1, 0, none⟩) c c] 24 (0, 0))) := fun wr hs => by
    have e1 := HX.out _ BZ0.out
    have hsw := BZ0.out.size
    refine ⟨hs.below (Q2.out.trans (BZ0.out.mono (by omega))) (by omega) (fun b ⟨i, _, e⟩ => by omega), (hs.block _ (by omega) fun ⟨i, _, e⟩ => by omega).trans e1.1, (hs.block _ (by omega) fun ⟨i, _, e⟩ => by omega).trans e1.2, (hs.block _ hszZ fun ⟨i, hi, e⟩ => by have := HR3.out i hi; omega).trans HZ.out⟩
  clear HX HB2 B3 Q1 Q2
  go_loopw [6, 7, 31] (fun _ _ i wr => ∃ k : Nat, k ≤ N ∧ i = .int .i64 k ∧ Hid (MatB wr (w2.heap.size + 1) c N (fun i => w2.heap.size + 3 + i) (fun _ => N) (fun j i => if i < k then F i j else 0)) ∧ Hid (Save (fun b => ∃ i, i < c ∧ b = w2.heap.size + 3 + i) WZ wr)) (fun _ _ i _ => N - (intOf i).toNat)
  case atStart => exact ⟨0, Nat.zero_le _, rfl, HM0.out.congr fun i _ r _ => by rw [if_neg (by omega)], Save.refl _ _⟩
  case round =>
    obtain ⟨k, hk, rfl, HK, HS⟩ := hrel
    clear x0 x1 x2 z0 z1 z2 HM0 BZ0 HZ
    by_cases hlt : k < N
    · have hki : (k : Int) < (N : Int) := by omega
      obtain ⟨b, off, rfl, ra, rc, hu⟩ := HC.out k hlt
      have HU := hid hu
      have c0 := (hu wr (HST.out _ HS.out).1).1
      clear hu
      go_wp2_with fail
      go_loopw [8, 9, 38] (fun _ _ i wr => ∃ m : Nat, m ≤ c ∧ i = .int .i64 m ∧ Hid (MatB wr (w2.heap.size + 1) c N (fun i => w2.heap.size + 3 + i) (fun _ => N) (fun j i => if i < k ∨ (i = k ∧ j < m) then F i j else 0)) ∧ Hid (Save (fun b => ∃ i, i < c ∧ b = w2.heap.size + 3 + i) WZ wr)) (fun _ _ i _ => c - (intOf i).toNat)
      case atStart => exact ⟨0, Nat.zero_le _, rfl, HK.out.congr fun i _ r _ => by
        by_cases e : r < k
        · rw [if_pos (by omega), if_pos e]
        · rw [if_neg (by omega), if_neg e], HS.out⟩
      case round =>
        obtain ⟨m, hm, rfl, HJ, HT⟩ := hrel
        clear HK HS c0
        by_cases hlm : m < c
        · have hmi : (m : Int) < (c : Int) := by omega
          obtain ⟨t1, t2, t3, t4⟩ := HST.out _ HT.out
          obtain ⟨rb, ro, rfl, c1⟩ := (HU.out _ t1).2 m hlm
          obtain ⟨z0, z1, z2⟩ := three_cells t4
          have d0 := HJ.out.head m hlm
          have d1 := (HJ.out.row m hlm).cell k hlt
          have d2 := (HJ.out.row m hlm).frozen k
          rw [if_neg (by omega)] at d1
          have G1 := hid (HJ.out.set hlm hlt (F k m) (f' := fun j i => if i < k ∨ (i = k ∧ j < m + 1) then F i j else 0) fun j hj i hi => by
            by_cases e : j = m ∧ i = k
            · rw [if_pos e, if_pos (by omega), e.1, e.2]
            · rw [if_neg e]
              by_cases e2 : i < k ∨ (i = k ∧ j < m)
              · rw [if_pos e2, if_pos (by omega)]
              · rw [if_neg e2, if_neg (by omega)])
          have G2 := hid (HT.out.setCell (p := ⟨w2.heap.size + 3 + m, k, none⟩) (.inl ⟨m, hlm, rfl⟩) (.int .i64 (F k m)))
          clear HJ HT t1 t2 t3 t4 HU
          generalize F k m = x at *
          go_wp2_with fail
          exact ⟨⟨m + 1, by omega, by go_num, G1.out, G2.out⟩, by simp [intOf]; omega⟩
        · obtain rfl : m = c := by omega
          have hne2 : ¬ (m : Int) < (m : Int) := by omega
          have G1 : Hid (MatB wr (w2.heap.size + 1) m N (fun i => w2.heap.size + 3 + i) (fun _ => N) (fun j i => if i < k + 1 then F i j else 0)) := HJ.out.congr fun j hj i _ => by
            by_cases e : i < k + 1
            · rw [if_pos e, if_pos (by omega)]
            · rw [if_neg e, if_neg (by omega)]
          clear HJ
          go_wp2_with fail
          exact ⟨⟨k + 1, by omega, by go_num, G1.out, HT.out⟩, by simp [intOf]; omega⟩
    · obtain rfl : k = N := by omega
      have hne : ¬ (k : Int) < (k : Int) := by omega
      obtain ⟨t1, t2, t3, t4⟩ := HST.out _ HS.out
      obtain ⟨z0, z1, z2⟩ := three_cells t4
      obtain ⟨y0, y1, y2⟩ := three_cells t3
      obtain ⟨f0, f1, f2⟩ := three_frozen t3
      have HR4 := hid (set_three (x' := .int .i64 p) (y' := .int .i64 k) (z' := .slice (some ⟨w2.heap.size + 1, 0, none⟩) c c) t3)
      have SV := save_three wr (w.heap.size + 1) (.int .i64 p) (.int .i64 k) (.slice (some ⟨w2.heap.size + 1, 0, none⟩) c c)
      have hsw := HS.out.size
      have HRW := hid (((HK.out.congr (f' := fun j i => F i j) fun j _ i hi => by rw [if_pos hi]).save SV (by omega) (fun i hi => by omega)).rowsN (by omega) (by omega) c (Nat.le_refl _) (show w.heap.size ≤ w2.heap.size + 1 by omega) (fun i hi => by omega) (Nat.le_refl _))
      have HBW := hid (SV.below t1 (by omega) (fun b e => by omega))
      obtain ⟨n0, n1, n2⟩ := three_cells HR4.out
      clear HK HS HR4 SV t1 t2 t3 t4 HC HST
      go_wp2_with fail
      refine bodyPost_ret (v := .tuple #[.agg #[.int .i64 p, .int .i64 k, .slice (some ⟨w2.heap.size + 1, 0, none⟩) c c], .int .i64 0]) ?_ rfl ⟨_, rfl, HRW.out, HBW.out⟩
      simp [results, Try.f7, go_sem, n0, n1, n2]
set_option maxRecDepth 20000 in
set_option maxHeartbeats 1000000 in
theorem Turned_bad (p c : Int) (v : Value) (R : List (List Int)) (w : World) (h : RowsI w v R) (hm : matR p c R = 1) :
    Calls Try.prog 7 #[.agg #[.int .i64 p, .int .i64 c, v]] w fun e w' => e = .returned (.tuple #[.agg #[.int .i64 0, .int .i64 0, .slice none 0 0], .int .i64 1]) ∧ Below w.heap.size w w' := by
  obtain ⟨q1, q2, q3, q4⟩ := bxM_ok w p c v
  have CM := hid (CheckMatrix_any p c v R _ (h.below q2))
  rw [hm] at CM
  have HX : Hid (∀ w2, Below (bxM w p c v).heap.size (bxM w p c v) w2 → w2.heap[w.heap.size + 1]? = some (.cells #[.int .i64 0, .int .i64 0, .slice none 0 0] 24 (0, 0))) := fun w2 hb => (hb.block _ (by omega)).trans q4
  have Q1 := hid q1
  have Q2 := hid q2
  obtain ⟨x0, x1, x2⟩ := three_cells q3
  clear h hm q1 q2 q3 q4
  unfold bxM at CM HX Q1 Q2 x0 x1 x2
  go_enter Try.func7, Try.ntmps7
  go_wp2_with fail
  generalize (w.alloc (.cells #[.int .i64 p, .int .i64 c, v] 24)).alloc (.cells #[.int .i64 0, .int .i64 0, .slice none 0 0] 24) = W0 at CM HX Q1 Q2 x0 x1 x2 ⊢
  refine CM.out.mono ?_
  rintro e w2 ⟨rfl, hb2⟩
  have HB2 := hid hb2
  clear CM x0 x1 x2 hb2
  have hX3 := HX.out _ HB2.out
  obtain ⟨y0, y1, y2⟩ := three_cells hX3
  obtain ⟨z0, z1, z2⟩ := three_frozen hX3
  have HR3 := hid (set_three (x' := .int .i64 0) (y' := .int .i64 0) (z' := .slice none 0 0) hX3)
  have SV := save_three w2 (w.heap.size + 1) (.int .i64 0) (.int .i64 0) (.slice none 0 0)
  have hs2 := HB2.out.size
  have hs0 := Q1.out
  have HBW := hid (SV.below (Q2.out.trans (HB2.out.mono (by omega))) (by omega) (fun b e => by omega))
  clear HX hX3 SV hs2 hs0
  obtain ⟨n0, n1, n2⟩ := three_cells HR3.out
  clear HR3
  go_wp2_with fail
  refine bodyPost_ret (v := .tuple #[.agg #[.int .i64 0, .int .i64 0, .slice none 0 0], .int .i64 1]) ?_ rfl ⟨rfl, HBW.out⟩
  simp [results, Try.f7, go_sem, n0, n1, n2]
set_option maxRecDepth 20000 in
set_option maxHeartbeats 1000000 in
theorem Turned_large (p : Int) (c : Nat) (v : Value) (R : List (List Int)) (w : World) (h : RowsI w v R) (hm : MatOK p c R) (hc6 : 6 < c) :
    Calls Try.prog 7 #[.agg #[.int .i64 p, .int .i64 c, v]] w fun e w' => e = .returned (.tuple #[.agg #[.int .i64 0, .int .i64 0, .slice none 0 0], .int .i64 2]) ∧ Below w.heap.size w w' := by
  obtain ⟨q1, q2, q3, q4⟩ := bxM_ok w p c v
  have CM := hid (CheckMatrix_any p c v R _ (h.below q2))
  rw [MatOK.iff.2 hm] at CM
  have hcn : (6 : Int) < (c : Int) := by omega
  have HX : Hid (∀ w2, Below (bxM w p c v).heap.size (bxM w p c v) w2 → w2.heap[w.heap.size + 1]? = some (.cells #[.int .i64 0, .int .i64 0, .slice none 0 0] 24 (0, 0)) ∧ w2.heap[w.heap.size]? = some (.cells #[.int .i64 p, .int .i64 c, v] 24 (0, 0))) := fun w2 hb => ⟨(hb.block _ (by omega)).trans q4, (hb.block _ (by omega)).trans q3⟩
  have Q1 := hid q1
  have Q2 := hid q2
  obtain ⟨x0, x1, x2⟩ := three_cells q3
  clear h hm q1 q2 q3 q4
  unfold bxM at CM HX Q1 Q2 x0 x1 x2
  go_enter Try.func7, Try.ntmps7
  go_wp2_with fail
  generalize (w.alloc (.cells #[.int .i64 p, .int .i64 c, v] 24)).alloc (.cells #[.int .i64 0, .int .i64 0, .slice none 0 0] 24) = W0 at CM HX Q1 Q2 x0 x1 x2 ⊢
  refine CM.out.mono ?_
  rintro e w2 ⟨rfl, hb2⟩
  have HB2 := hid hb2
  clear CM x0 x1 x2 hb2
  have hX3 := (HX.out _ HB2.out).1
  obtain ⟨x0, x1, x2⟩ := three_cells (HX.out _ HB2.out).2
  obtain ⟨y0, y1, y2⟩ := three_cells hX3
  obtain ⟨z0, z1, z2⟩ := three_frozen hX3
  have HR3 := hid (set_three (x' := .int .i64 0) (y' := .int .i64 0) (z' := .slice none 0 0) hX3)
  have SV := save_three w2 (w.heap.size + 1) (.int .i64 0) (.int .i64 0) (.slice none 0 0)
  have hs2 := HB2.out.size
  have hs0 := Q1.out
  have HBW := hid (SV.below (Q2.out.trans (HB2.out.mono (by omega))) (by omega) (fun b e => by omega))
  clear HX hX3 SV hs2 hs0
  obtain ⟨n0, n1, n2⟩ := three_cells HR3.out
  clear HR3
  go_wp2_with fail
  refine bodyPost_ret (v := .tuple #[.agg #[.int .i64 0, .int .i64 0, .slice none 0 0], .int .i64 2]) ?_ rfl ⟨rfl, HBW.out⟩
  simp [results, Try.f7, go_sem, n0, n1, n2]
end Go.Proofs.Ytpdfaenjmjphpaa
