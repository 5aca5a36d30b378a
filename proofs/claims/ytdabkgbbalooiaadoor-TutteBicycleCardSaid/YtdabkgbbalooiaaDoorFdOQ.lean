/- field.Kernel. -/
import Derived.Test.YtdabkgbbalooiaaDoorFdNQ
namespace Go.Proofs.YtdabkgbbalooiaaDoor
open Go.RowKit

variable {p : Int} {c : Nat} {R : List (List Int)}
theorem red_congr {m N : Nat} {f0 g : Nat → Nat → Int} (hp : isP p) (h0 : ∀ i, i < N → ∀ r, r < m → 0 ≤ f0 i r ∧ f0 i r < p) (e : ∀ i, i < N → ∀ r, r < m → g i r = f0 i r) : redN p m N g = redN p m N f0 ∧ ∀ i, i < redN p m N g → ∀ r, r < m → redF p m N g i r = redF p m N f0 i r :=
  red_uniq hp (fun i hi r hr => by rw [e i hi r hr]; exact h0 i hi r hr) h0 (fun i hi => (InS.of hi).cg fun r hr => Em.of (e i hi r hr)) fun i hi => (InS.of hi).cg fun r hr => Em.of (e i hi r hr).symm
theorem redL_mat {N : Nat} {f : Nat → Nat → Int} (hp : isP p) (h0 : ∀ i, i < N → ∀ r, r < c → 0 ≤ f i r ∧ f i r < p) : redL p c (matL N c f) = matL (redN p c N f) c (redF p c N f) := by
  obtain ⟨e1, e2⟩ := red_congr (m := c) (g := rowF (matL N c f)) hp h0 fun i hi r hr => rowF_matL hi hr f
  show matL (redN p c (matL N c f).length (rowF (matL N c f))) c (redF p c (matL N c f).length (rowF (matL N c f))) = _
  rw [matL_len, ← e1]
  exact matL_congr e2
theorem bgN_congr {m : Nat} {q q' : Nat → Int} (h : ∀ r, r < m → q r = q' r) : bgN m q = bgN m q' := by
  unfold bgN
  have : (List.range m).find? (fun r => q r == 1) = (List.range m).find? (fun r => q' r == 1) := by
    have hm : ∀ l : List Nat, (∀ r ∈ l, r < m) → l.find? (fun r => q r == 1) = l.find? (fun r => q' r == 1) := fun l => by
      induction l with
      | nil => intro _; rfl
      | cons a l ih =>
        intro hl
        rw [List.find?_cons, List.find?_cons, h a (hl a (List.mem_cons_self ..)), ih fun r hr => hl r (List.mem_cons_of_mem _ hr)]
    exact hm _ fun r hr => List.mem_range.1 hr
  rw [this]
theorem nbB_congr {k : Nat} {b b' : Nat → Nat} (h : ∀ i, i < k → b i = b' i) : nbB k b = nbB k b' := funext fun a => by
  rw [Bool.eq_iff_iff, nbB_iff, nbB_iff]
  exact ⟨fun h1 i hi => by rw [← h i hi]; exact h1 i hi, fun h1 i hi => by rw [h i hi]; exact h1 i hi⟩
theorem acF_congr {k m a r : Nat} {f f' : Nat → Nat → Int} {b b' : Nat → Nat} (ha : a < m) (hf : ∀ i, i < k → ∀ r, r < m → f i r = f' i r) (h : ∀ i, i < k → b i = b' i) : acF p k f b a r = acF p k f' b' a r := by
  unfold acF
  have : (List.range k).find? (fun i => b i == r) = (List.range k).find? (fun i => b' i == r) := by
    have hm : ∀ l : List Nat, (∀ i ∈ l, i < k) → l.find? (fun i => b i == r) = l.find? (fun i => b' i == r) := fun l => by
      induction l with
      | nil => intro _; rfl
      | cons a l ih =>
        intro hl
        rw [List.find?_cons, List.find?_cons, h a (hl a (List.mem_cons_self ..)), ih fun r hr => hl r (List.mem_cons_of_mem _ hr)]
    exact hm _ fun r hr => List.mem_range.1 hr
  rw [this]
  split
  · rfl
  · split
    · rename_i i hi
      rw [hf i (List.mem_range.1 (List.mem_of_find?_eq_some hi)) a ha]
    · rfl
theorem Rref.congr {m k : Nat} {f f' : Nat → Nat → Int} {b : Nat → Nat} (h : Rref p m k f b) (e : ∀ i, i < k → ∀ r, r < m → f' i r = f i r) : Rref p m k f' b :=
  ⟨h.lt, h.mono, fun i hi => by rw [e i hi _ (h.lt i hi)]; exact h.one i hi, fun i hi j hj hne => by rw [e j hj _ (h.lt i hi)]; exact h.oth i hi j hj hne, fun i hi r hr => by rw [e i hi r (Nat.lt_trans hr (h.lt i hi))]; exact h.fst i hi r hr, fun i hi r hr => by rw [e i hi r hr]; exact h.rng i hi r hr⟩
theorem red_rref (hm : MatOK p c R) : Rref p c (redL p c R).length (rowF (redL p c R)) fun i => bgN c (rowF (redL p c R) i) := by
  obtain ⟨-, b, r1, -, -⟩ := red_ok hm.pr hm.rowc
  rw [← redL_len] at r1
  exact (r1.congr fun i hi r hr => redL_rowF hi hr).begs
/-- The kernel's rows. -/
def kerL (p : Int) (c : Nat) (R : List (List Int)) : List (List Int) := redL p c (acL p c (redL p c R))
theorem ac_is : acL p c (redL p c R) = matL (kerC p c R.length (rowF R)) c (kerA p c R.length (rowF R)) := by
  have hb : ∀ i, i < redN p c R.length (rowF R) → bgN c (rowF (redL p c R) i) = bgN c (redF p c R.length (rowF R) i) := fun i hi => bgN_congr fun r hr => rowF_matL hi hr _
  have hn : nbL c (redN p c R.length (rowF R)) (fun i => bgN c (rowF (redL p c R) i)) = nbL c (redN p c R.length (rowF R)) fun i => bgN c (redF p c R.length (rowF R) i) := by
    unfold nbL
    rw [nbB_congr hb]
  unfold acL kerC kerA
  rw [redL_len, hn]
  refine matL_congr fun j hj r hr => ?_
  unfold acG
  rw [hn]
  exact acF_congr (nb_at hj).1 (fun i hi r hr => rowF_matL hi hr _) hb
theorem kerL_is (hm : MatOK p c R) : kerL p c R = matL (kerC p c R.length (rowF R)) c (kerF p c R.length (rowF R)) := by
  unfold kerL
  rw [ac_is, redL_mat hm.pr fun i _ r _ => kerA_in hm.pr i r, ker_red hm.pr]
  rfl
theorem kerL_len (hm : MatOK p c R) : (kerL p c R).length + (redL p c R).length = c := by
  rw [kerL_is hm, matL_len, redL_len]
  exact ker_len hm.pr hm.rowc
theorem acL_ok (hm : MatOK p c R) (hk : c ≤ (redL p c R).length + 6) : MatOK p c (acL p c (redL p c R)) := by
  rw [ac_is]
  have := ker_len hm.pr hm.rowc
  rw [redL_len] at hk
  exact MatOK.mat hm.pr hm.c8' (by omega) fun i _ r _ => kerA_in hm.pr i r
theorem kerL_ok (hm : MatOK p c R) (hk : c ≤ (redL p c R).length + 6) : MatOK p c (kerL p c R) := redL_ok (acL_ok hm hk)
theorem kerL_rowF (hm : MatOK p c R) {j r : Nat} (hj : j < (kerL p c R).length) (hr : r < c) : rowF (kerL p c R) j r = kerF p c R.length (rowF R) j r := by
  rw [kerL_is hm] at hj ⊢
  rw [matL_len] at hj
  exact rowF_matL hj hr _

set_option maxRecDepth 20000 in
set_option maxHeartbeats 2000000 in
theorem Kernel_ok (p : Int) (c : Nat) (v : Value) (R : List (List Int)) (w : World) (h : RowsI w v R) (hm : MatOK p c R) (hk : c ≤ (redL p c R).length + 6) :
    Calls Tryd.prog 6 #[.agg #[.int .i64 p, .int .i64 c, v]] w fun e w' => ∃ u, e = .returned (.tuple #[.agg #[.int .i64 p, .int .i64 c, u], .int .i64 0]) ∧ RowsN w.heap.size w' u (kerL p c R) ∧ Below w.heap.size w w' := by
  obtain ⟨q1, q2, q3, q4⟩ := bxM_ok w p c v
  have CM := hid (CheckMatrix_any p c v R _ (h.below q2))
  rw [MatOK.iff.2 hm] at CM
  have HX : Hid (∀ w2, Below (bxM w p c v).heap.size (bxM w p c v) w2 → w2.heap[w.heap.size]? = some (.cells #[.int .i64 p, .int .i64 c, v] 24 (0, 0)) ∧ w2.heap[w.heap.size + 1]? = some (.cells #[.int .i64 0, .int .i64 0, .slice none 0 0] 24 (0, 0))) := fun w2 hb => ⟨(hb.block _ (by omega)).trans q3, (hb.block _ (by omega)).trans q4⟩
  have Q1 := hid q1
  have Q2 := hid q2
  obtain ⟨x0, x1, x2⟩ := three_cells q3
  have RD : Hid (∀ w2, Below (bxM w p c v).heap.size (bxM w p c v) w2 → Calls Tryd.prog 22 #[.agg #[.int .i64 p, .int .i64 c, v]] w2 fun e w' => ∃ u, e = .returned (.agg #[.int .i64 p, .int .i64 c, u]) ∧ RowsN w2.heap.size w' u (redL p c R) ∧ Below w2.heap.size w2 w') := fun w2 hb => reduced_any p c v R w2 ((h.below q2).below hb) hm
  have HM := hid hm
  have HKK := hid hk
  have hc8 := hm.c8'
  have hl6 : (redL p c R).length ≤ 6 := (redL_ok hm).rl
  have hkk := hk
  clear h hm q1 q2 q3 q4 hk
  unfold bxM at CM HX Q1 Q2 x0 x1 x2 RD
  go_enter Tryd.func6, Tryd.ntmps6
  go_wp2_with fail
  generalize (w.alloc (.cells #[.int .i64 p, .int .i64 c, v] 24)).alloc (.cells #[.int .i64 0, .int .i64 0, .slice none 0 0] 24) = W0 at CM HX Q1 Q2 x0 x1 x2 RD ⊢
  refine CM.out.mono ?_
  rintro e w2 ⟨rfl, hb2⟩
  have HB2 := hid hb2
  clear CM x0 x1 x2 hb2
  obtain ⟨x0, x1, x2⟩ := three_cells (HX.out _ HB2.out).1
  go_wp2_with fail
  refine (RD.out w2 HB2.out).mono ?_
  rintro e w3 ⟨u, rfl, h3, h4⟩
  obtain ⟨ua, ucap, rfl⟩ := h3.form
  have hk3 := (Below.refl _ w3).alloc (Nat.le_refl _) (.cells #[.int .i64 p, .int .i64 c, .slice ua (redL p c R).length ucap] 24)
  have B3 : Hid (Below W0.heap.size W0 (w3.alloc (.cells #[.int .i64 p, .int .i64 c, .slice ua (redL p c R).length ucap] 24))) := (HB2.out.trans (h4.mono HB2.out.size)).trans (hk3.mono (HB2.out.trans (h4.mono HB2.out.size)).size)
  have RX3 := hid (h3.rows.below hk3)
  have XB3 := hid (World.alloc_heap_new w3 (.cells #[.int .i64 p, .int .i64 c, .slice ua (redL p c R).length ucap] 24))
  clear x0 x1 x2 RD h3 h4 hk3
  obtain ⟨x0, x1, x2⟩ := three_cells (HX.out _ B3.out).1
  obtain ⟨y0, y1, y2⟩ := three_cells XB3.out
  obtain ⟨N, HN⟩ : ∃ N, Hid ((redL p c R).length = N) := ⟨_, rfl⟩
  rw [HN.out] at hl6 hkk x0 x1 x2 y0 y1 y2 B3 RX3 XB3 ⊢
  have hw1 : IntKind.i64.wrap ((c : Int) - (N : Int)) = (c : Int) - N := IntWalk.i64_in _ (by omega)
  have hlt : ¬ (6 : Int) < (c : Int) - (N : Int) := by omega
  have AC := hid (across_ok p c (.slice ua N ucap) (redL p c R) (w3.alloc (.cells #[.int .i64 p, .int .i64 c, .slice ua N ucap] 24)) _ RX3.out (redL_ok HM.out) (red_rref HM.out))
  go_wp2_with fail
  refine AC.out.mono ?_
  rintro e w4 ⟨u, rfl, h5, h6⟩
  have B4 := hid (B3.out.trans (h6.mono B3.out.size))
  have RE := hid (reduced_any p c u (acL p c (redL p c R)) w4 h5 (acL_ok HM.out HKK.out))
  clear AC h5 h6 x0 x1 x2 y0 y1 y2 RX3 XB3
  go_wp2_with fail
  refine RE.out.mono ?_
  rintro e w5 ⟨u5, rfl, h7, h8⟩
  have B5 : Hid (Below W0.heap.size W0 w5) := B4.out.trans (h8.mono B4.out.size)
  have hX3 := HX.out _ B5.out
  obtain ⟨y0, y1, y2⟩ := three_cells hX3.2
  obtain ⟨z0, z1, z2⟩ := three_frozen hX3.2
  have HR3 := hid (set_three (x' := .int .i64 p) (y' := .int .i64 c) (z' := u5) hX3.2)
  have SV := save_three w5 (w.heap.size + 1) (.int .i64 p) (.int .i64 c) u5
  have hs2 := B4.out.size
  have hs0 := Q1.out
  have HRW := hid ((h7.save SV (fun b hb => by omega)).mono (show w.heap.size ≤ w4.heap.size by omega))
  have HBW := hid (SV.below (Q2.out.trans (B5.out.mono (by omega))) (by have := B5.out.size; omega) (fun b e => by omega))
  clear RE HX h7 h8 B3 B4 B5 hX3 SV hs2 hs0
  obtain ⟨n0, n1, n2⟩ := three_cells HR3.out
  obtain ⟨va, vcap, rfl⟩ := HRW.out.form
  clear HR3
  go_wp2_with fail
  refine bodyPost_ret (v := .tuple #[.agg #[.int .i64 p, .int .i64 c, .slice va (redL p c (acL p c (redL p c R))).length vcap], .int .i64 0]) ?_ rfl ⟨_, rfl, HRW.out, HBW.out⟩
  simp [results, Tryd.f6, go_sem, n0, n1, n2]
set_option maxRecDepth 20000 in
set_option maxHeartbeats 2000000 in
theorem Kernel_large (p : Int) (c : Nat) (v : Value) (R : List (List Int)) (w : World) (h : RowsI w v R) (hm : MatOK p c R) (hk : (redL p c R).length + 6 < c) :
    Calls Tryd.prog 6 #[.agg #[.int .i64 p, .int .i64 c, v]] w fun e w' => e = .returned (.tuple #[.agg #[.int .i64 0, .int .i64 0, .slice none 0 0], .int .i64 2]) ∧ Below w.heap.size w w' := by
  obtain ⟨q1, q2, q3, q4⟩ := bxM_ok w p c v
  have CM := hid (CheckMatrix_any p c v R _ (h.below q2))
  rw [MatOK.iff.2 hm] at CM
  have HX : Hid (∀ w2, Below (bxM w p c v).heap.size (bxM w p c v) w2 → w2.heap[w.heap.size]? = some (.cells #[.int .i64 p, .int .i64 c, v] 24 (0, 0)) ∧ w2.heap[w.heap.size + 1]? = some (.cells #[.int .i64 0, .int .i64 0, .slice none 0 0] 24 (0, 0))) := fun w2 hb => ⟨(hb.block _ (by omega)).trans q3, (hb.block _ (by omega)).trans q4⟩
  have Q1 := hid q1
  have Q2 := hid q2
  obtain ⟨x0, x1, x2⟩ := three_cells q3
  have RD : Hid (∀ w2, Below (bxM w p c v).heap.size (bxM w p c v) w2 → Calls Tryd.prog 22 #[.agg #[.int .i64 p, .int .i64 c, v]] w2 fun e w' => ∃ u, e = .returned (.agg #[.int .i64 p, .int .i64 c, u]) ∧ RowsN w2.heap.size w' u (redL p c R) ∧ Below w2.heap.size w2 w') := fun w2 hb => reduced_any p c v R w2 ((h.below q2).below hb) hm
  have HM := hid hm
  have HKK := hid hk
  have hc8 := hm.c8'
  have hl6 : (redL p c R).length ≤ 6 := (redL_ok hm).rl
  have hkk := hk
  clear h hm q1 q2 q3 q4 hk
  unfold bxM at CM HX Q1 Q2 x0 x1 x2 RD
  go_enter Tryd.func6, Tryd.ntmps6
  go_wp2_with fail
  generalize (w.alloc (.cells #[.int .i64 p, .int .i64 c, v] 24)).alloc (.cells #[.int .i64 0, .int .i64 0, .slice none 0 0] 24) = W0 at CM HX Q1 Q2 x0 x1 x2 RD ⊢
  refine CM.out.mono ?_
  rintro e w2 ⟨rfl, hb2⟩
  have HB2 := hid hb2
  clear CM x0 x1 x2 hb2
  obtain ⟨x0, x1, x2⟩ := three_cells (HX.out _ HB2.out).1
  go_wp2_with fail
  refine (RD.out w2 HB2.out).mono ?_
  rintro e w3 ⟨u, rfl, h3, h4⟩
  obtain ⟨ua, ucap, rfl⟩ := h3.form
  have hk3 := (Below.refl _ w3).alloc (Nat.le_refl _) (.cells #[.int .i64 p, .int .i64 c, .slice ua (redL p c R).length ucap] 24)
  have B3 : Hid (Below W0.heap.size W0 (w3.alloc (.cells #[.int .i64 p, .int .i64 c, .slice ua (redL p c R).length ucap] 24))) := (HB2.out.trans (h4.mono HB2.out.size)).trans (hk3.mono (HB2.out.trans (h4.mono HB2.out.size)).size)
  have RX3 := hid (h3.rows.below hk3)
  have XB3 := hid (World.alloc_heap_new w3 (.cells #[.int .i64 p, .int .i64 c, .slice ua (redL p c R).length ucap] 24))
  clear x0 x1 x2 RD h3 h4 hk3
  obtain ⟨x0, x1, x2⟩ := three_cells (HX.out _ B3.out).1
  obtain ⟨y0, y1, y2⟩ := three_cells XB3.out
  obtain ⟨N, HN⟩ : ∃ N, Hid ((redL p c R).length = N) := ⟨_, rfl⟩
  rw [HN.out] at hl6 hkk x0 x1 x2 y0 y1 y2 B3 RX3 XB3 ⊢
  have hw1 : IntKind.i64.wrap ((c : Int) - (N : Int)) = (c : Int) - N := IntWalk.i64_in _ (by omega)
  have hlt : (6 : Int) < (c : Int) - (N : Int) := by omega
  clear HKK HM
  have hX3 := (HX.out _ B3.out).2
  obtain ⟨y0, y1, y2⟩ := three_cells hX3
  obtain ⟨z0, z1, z2⟩ := three_frozen hX3
  have HR3 := hid (set_three (x' := .int .i64 0) (y' := .int .i64 0) (z' := .slice none 0 0) hX3)
  have SV := save_three (w3.alloc (.cells #[.int .i64 p, .int .i64 c, .slice ua N ucap] 24)) (w.heap.size + 1) (.int .i64 0) (.int .i64 0) (.slice none 0 0)
  have hs2 := B3.out.size
  have hs0 := Q1.out
  have HBW := hid (SV.below (Q2.out.trans (B3.out.mono (by omega))) (by omega) (fun b e => by omega))
  clear HX hX3 SV hs2 hs0
  obtain ⟨n0, n1, n2⟩ := three_cells HR3.out
  clear HR3
  go_wp2_with fail
  refine bodyPost_ret (v := .tuple #[.agg #[.int .i64 0, .int .i64 0, .slice none 0 0], .int .i64 2]) ?_ rfl ⟨rfl, HBW.out⟩
  simp [results, Tryd.f6, go_sem, n0, n1, n2]
set_option maxRecDepth 20000 in
set_option maxHeartbeats 2000000 in
theorem Kernel_bad (p c : Int) (v : Value) (R : List (List Int)) (w : World) (h : RowsI w v R) (hm : matR p c R = 1) :
    Calls Tryd.prog 6 #[.agg #[.int .i64 p, .int .i64 c, v]] w fun e w' => e = .returned (.tuple #[.agg #[.int .i64 0, .int .i64 0, .slice none 0 0], .int .i64 1]) ∧ Below w.heap.size w w' := by
  obtain ⟨q1, q2, q3, q4⟩ := bxM_ok w p c v
  have CM := hid (CheckMatrix_any p c v R _ (h.below q2))
  rw [hm] at CM
  have HX : Hid (∀ w2, Below (bxM w p c v).heap.size (bxM w p c v) w2 → w2.heap[w.heap.size]? = some (.cells #[.int .i64 p, .int .i64 c, v] 24 (0, 0)) ∧ w2.heap[w.heap.size + 1]? = some (.cells #[.int .i64 0, .int .i64 0, .slice none 0 0] 24 (0, 0))) := fun w2 hb => ⟨(hb.block _ (by omega)).trans q3, (hb.block _ (by omega)).trans q4⟩
  have Q1 := hid q1
  have Q2 := hid q2
  obtain ⟨x0, x1, x2⟩ := three_cells q3
  clear h hm q1 q2 q3 q4
  unfold bxM at CM HX Q1 Q2 x0 x1 x2
  go_enter Tryd.func6, Tryd.ntmps6
  go_wp2_with fail
  generalize (w.alloc (.cells #[.int .i64 p, .int .i64 c, v] 24)).alloc (.cells #[.int .i64 0, .int .i64 0, .slice none 0 0] 24) = W0 at CM HX Q1 Q2 x0 x1 x2 ⊢
  refine CM.out.mono ?_
  rintro e w2 ⟨rfl, hb2⟩
  have HB2 := hid hb2
  clear CM x0 x1 x2 hb2
  have hX3 := (HX.out _ HB2.out).2
  obtain ⟨y0, y1, y2⟩ := three_cells hX3
  obtain ⟨z0, z1, z2⟩ := three_frozen hX3
  have HR3 := hid (set_three (x' := .int .i64 0) (y' := .int .i64 0) (z' := .slice none 0 0) hX3)
  have SV := save_three w2 (w.heap.size + 1) (.int .i64 0) (.int .i64 0) (.slice none 0 0)
  have hs2 := HB2.out.size
  have hs0 := Q1.out
  have HBW := hid (SV.below (Q2.out.trans (HB2.out.mono (by omega))) (by omega) (fun b e => by omega))
  clear HX hX3 SV hs2 hs0
  obtain ⟨n0, n1, n2⟩ := three_cells HR3.out
  clear HR3
  go_wp2_with fail
  refine bodyPost_ret (v := .tuple #[.agg #[.int .i64 0, .int .i64 0, .slice none 0 0], .int .i64 1]) ?_ rfl ⟨rfl, HBW.out⟩
  simp [results, Tryd.f6, go_sem, n0, n1, n2]
end Go.Proofs.YtdabkgbbalooiaaDoor
