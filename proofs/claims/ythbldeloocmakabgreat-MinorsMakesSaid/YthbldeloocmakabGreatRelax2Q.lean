/- minors.Relax, where it relaxes. -/
import Derived.Test.YthbldeloocmakabGreatRelaxQ
import Derived.Test.YthbldeloocmakabGreatConc2Q
namespace Go.Proofs.YthbldeloocmakabGreat
open Go.RowKit

/-- s, laid in where it belongs. -/
def insL (l : List Nat) (s : Nat) : List Nat := flatN [l.take (l.filter (· < s)).length, [s], l.drop (l.filter (· < s)).length] 3
theorem addr_add (b off j : Nat) : (⟨b, off, none⟩ : Addr).add j = ⟨b, off + j, none⟩ := by
  simp only [Addr.add]
  split
  · rename_i h; subst h; rfl
  · rfl
theorem V_get {l : List Nat} {j : Nat} {u : Value} (h : (V l)[j]? = some u) : j < l.length ∧ u = .int .i64 (l.getD j 0 : Nat) := by
  unfold V at h
  rw [List.getElem?_map] at h
  obtain ⟨x, hx, rfl⟩ := Option.map_eq_some_iff.1 h
  obtain ⟨h1, h2⟩ := List.getElem?_eq_some_iff.1 hx
  exact ⟨h1, by simp [List.getD, h1, h2]⟩
/-- The blocks that stand where slices.Concat is called. -/
def conW (w : World) (b off k c1 c3 s n : Nat) (q : Option Addr) : World := ((w.alloc (.cells #[.int .i64 (s : Int)] 3)).alloc (.cells #[.slice (some ⟨b, off, none⟩) k c1, .slice (some ⟨w.heap.size, 0, none⟩) 1 1, .slice q (n - k) c3] 22)).drew
theorem conW_size (w : World) (b off k c1 c3 s n : Nat) (q : Option Addr) : (conW w b off k c1 c3 s n q).heap.size = w.heap.size + 2 := by
  show ((w.alloc _).alloc _).heap.size = _
  simp
theorem conW_below (w : World) (b off k c1 c3 s n : Nat) (q : Option Addr) : Below w.heap.size w (conW w b off k c1 c3 s n q) := (((Below.refl _ _).alloc (Nat.le_refl _) _).alloc (by simp) _).drew
theorem conW_cell (w : World) (b off k c1 c3 s n : Nat) (q : Option Addr) (j : Nat) : (conW w b off k c1 c3 s n q).cell? ⟨w.heap.size + 1, j, none⟩ = #[.slice (some ⟨b, off, none⟩) k c1, .slice (some ⟨w.heap.size, 0, none⟩) 1 1, .slice q (n - k) c3][j]? := by
  show ((w.alloc (.cells #[.int .i64 (s : Int)] 3)).alloc _).cell? _ = _
  rw [World.cell?_alloc_at _ _ _ _ (by simp)]
theorem conW_one (w : World) (b off k c1 c3 s n : Nat) (q : Option Addr) : (conW w b off k c1 c3 s n q).cell? ⟨w.heap.size, 0, none⟩ = some (.int .i64 (s : Int)) := cellA _ (Boxed.new w 3 (.int .i64 (s : Int))).cell
theorem conW_at (w : World) (b off k c1 c3 s : Nat) (q : Option Addr) (l : List Nat) (hk : k ≤ l.length) (hb : b < w.heap.size) (hcell : ∀ i, i < l.length → w.cell? ⟨b, off + i, none⟩ = some (.int .i64 (l.getD i 0 : Nat))) (hq : q = some ⟨b, off, none⟩ ∧ l.length = k ∨ q = some ⟨b, off + k, none⟩) :
    ∀ j, j < [l.take k, [s], l.drop k].length → SlAt (conW w b off k c1 c3 s l.length q) (w.heap.size + 1) j ([l.take k, [s], l.drop k].getD j []) := by
  have hB := conW_below w b off k c1 c3 s l.length q
  have hS := conW_size w b off k c1 c3 s l.length q
  have hC : ∀ i, i < l.length → (conW w b off k c1 c3 s l.length q).cell? ⟨b, off + i, none⟩ = some (.int .i64 (l.getD i 0 : Nat)) := fun i hi => (hB.cell (p := ⟨b, off + i, none⟩) hb).trans (hcell i hi)
  intro j hj
  match j, hj with
  | 0, _ =>
    refine ⟨b, off, c1, ?_, by omega, fun i u hu => ?_⟩
    · rw [conW_cell]
      have : (l.take k).length = k := by simp; omega
      simp [this]
    · obtain ⟨h1, rfl⟩ := V_get hu
      rw [addr_add]
      have h1' : i < l.length ∧ i < k := by simp at h1; omega
      rw [hC i h1'.1]
      simp [List.getD, h1'.1, h1'.2]
  | 1, _ =>
    refine ⟨w.heap.size, 0, 1, ?_, by omega, fun i u hu => ?_⟩
    · rw [conW_cell]
      rfl
    · obtain ⟨h1, rfl⟩ := V_get hu
      rw [addr_add]
      have h1' : i = 0 := by simpa using h1
      subst h1'
      exact conW_one w b off k c1 c3 s l.length q
  | 2, _ =>
    rcases hq with ⟨rfl, e⟩ | rfl
    · refine ⟨b, off, c3, ?_, by omega, fun i u hu => ?_⟩
      · rw [conW_cell]
        simp
      · obtain ⟨h1, rfl⟩ := V_get hu
        simp [e] at h1
    · refine ⟨b, off + k, c3, ?_, by omega, fun i u hu => ?_⟩
      · rw [conW_cell]
        simp
      · obtain ⟨h1, rfl⟩ := V_get hu
        rw [addr_add, Nat.add_assoc]
        have h1' : k + i < l.length := by simp at h1; omega
        rw [hC (k + i) h1']
        simp [List.getD]
theorem ins_len (l : List Nat) (s : Nat) : (insL l s).length = l.length + 1 := by
  unfold insL flatN
  simp
  have := List.length_filter_le (fun x => decide (x < s)) l
  omega
set_option maxRecDepth 20000 in
set_option maxHeartbeats 1600000 in
theorem Relax_ok (m s : Nat) (v : Value) (l : List Nat) (w : World) (hm : m ≤ 8) (hf : Fam m l) (hb : Bas l) (h : Ints w v (N l)) (hcp : ∀ a L c, v = .slice a L c → L ≤ c) (hs : s < 2 ^ m) (hn1 : cirB (rk l) s = true) (hn2 : hypB (rk l) m s = true) :
    Calls Tryz.prog 19 #[.agg #[.int .i64 m, v], .int .i64 s] w (GivesO w m (insL l s)) := by
  have HI := hid h
  obtain ⟨a, cap, hv, _, hcells⟩ := h.nats
  subst hv
  have hcap := hcp _ _ _ rfl
  obtain ⟨b0, off0, rfl, hb0, hcell⟩ := hcells (List.length_pos_iff.2 hb.ne)
  have HCELL := hid hcell
  clear hcells hcell hcp
  have HB0 := hid (boxM_below w m (.slice (some ⟨b0, off0, none⟩) l.length cap))
  have HRK := hid (Circuits_ok m _ l _ hm hf hb (HI.out.below HB0.out))
  have HHY := hid (fun w' (hb' : Below w.heap.size w w') => Hyperplanes_ok m _ l w' hm hf hb (HI.out.below hb'))
  have HX : Hid (∀ w2, Below (boxM w m (.slice (some ⟨b0, off0, none⟩) l.length cap)).heap.size (boxM w m (.slice (some ⟨b0, off0, none⟩) l.length cap)) w2 → _) := fun w2 h => boxM_blocks h
  have HSZ := hid (boxM_size w m (.slice (some ⟨b0, off0, none⟩) l.length cap))
  have HSC := hid (fun w' => setsCheck_any m s w')
  rw [setR_ok hm hs] at HSC
  have HN1 := hid ((in_fil (p := cirB (rk l)) hs).trans hn1)
  have HN2 := hid ((in_fil (p := hypB (rk l) m) hs).trans hn2)
  have HBS := hid (fun w' (hb' : Below w.heap.size w w') => Bin_any _ l s w' (fam_len hm hf) hf.up (HI.out.below hb'))
  have hcl := ran_len hm (cirB (rk l))
  have hhl := ran_len hm (hypB (rk l) m)
  generalize (List.range (2 ^ m)).filter (cirB (rk l)) = cs at *
  generalize (List.range (2 ^ m)).filter (hypB (rk l) m) = hs' at *
  have HLEN := hid (ins_len l s)
  have hl256 := fam_len hm hf
  obtain ⟨acc, HACC⟩ : ∃ acc : List Nat, Hid (insL l s = acc) := ⟨_, rfl⟩
  have HACC2 := hid HACC.out
  unfold insL at HACC2
  rw [HACC.out] at HLEN ⊢
  clear HACC
  go_enter Tryz.func19, Tryz.ntmps19
  go_wp2_with fail
  refine HRK.out.mono ?_
  rintro e w1 ⟨r1, rfl, hr1, hb1⟩
  obtain ⟨ra, rc, rfl⟩ := ownsRow_form' hr1
  have HR1 := hid hr1
  obtain ⟨hx0, hx3⟩ := HX.out w1 hb1
  have HY0 := hid hx0
  have HY1 := hid hx3
  obtain ⟨x0, x1, _, _⟩ := two_cells hx0
  have hsz1 : w.heap.size + 2 ≤ w1.heap.size := by have := hb1.size; have := HSZ.out; omega
  have HB1 : Hid (Below w.heap.size w w1) := HB0.out.trans (hb1.mono HB0.out.size)
  clear hb1 hx3 hx0 hr1
  go_wp2_with fail
  refine (HSC.out _).mono ?_
  rintro e w1' ⟨rfl, rfl⟩
  go_wp2_with fail
  refine (HHY.out _ HB1.out).mono ?_
  rintro e w2 ⟨r2, rfl, hr2, hb2⟩
  obtain ⟨ra2, rc2, rfl⟩ := ownsRow_form' hr2
  have HR2 := hid hr2
  have HB2 : Hid (Below w.heap.size w w2) := HB1.out.trans (hb2.mono HB1.out.size)
  have HZ1 : Hid (w2.heap[w.heap.size + 1]? = some (.cells #[.int .i64 0, .slice none 0 0] 24 (0, 0))) := (hb2.block _ (by omega)).trans HY1.out
  have hsz2 := hb2.size
  have HZ0 : Hid (w2.heap[w.heap.size]? = some (.cells #[.int .i64 m, .slice (some ⟨b0, off0, none⟩) l.length cap] 24 (0, 0))) := (hb2.block _ (by omega)).trans HY0.out
  have HI1 := hid (HR1.out.ints hcl)
  have HC1 := hid (fun w' (hb' : Below w2.heap.size w2 w') => ContainsC_any _ _ (s : Int) w' ((HI1.out.below hb2).below hb'))
  have HC2 := hid (fun w' (hb' : Below w2.heap.size w2 w') => ContainsC_any _ _ (s : Int) w' ((HR2.out.ints hhl).below hb'))
  rw [HN1.out] at HC1
  rw [HN2.out] at HC2
  clear hr2 hb2 x0 x1
  go_wp2_with fail
  refine (HC1.out _ (Below.refl _ _)).mono ?_
  rintro e w3 ⟨rfl, hb3⟩
  have HB_w3 := hid hb3
  clear hb3
  go_wp2_with fail
  refine (HC2.out _ HB_w3.out).mono ?_
  rintro e w4 ⟨rfl, hb4⟩
  have HB_w4 := hid (HB_w3.out.trans (hb4.mono HB_w3.out.size))
  have HBA := hid (HB2.out.trans (HB_w4.out.mono HB2.out.size))
  have hsz4 := HB_w4.out.size
  have HY4 : Hid (w4.heap[w.heap.size]? = some (.cells #[.int .i64 m, .slice (some ⟨b0, off0, none⟩) l.length cap] 24 (0, 0))) := (HB_w4.out.block _ (by omega)).trans HZ0.out
  obtain ⟨x0, x1, _, _⟩ := two_cells HY4.out
  clear hb4
  go_wp2_with fail
  refine (HBS.out _ HBA.out).mono ?_
  rintro e w5 ⟨rfl, hb5⟩
  clear x0 x1
  have HB5 := hid (HBA.out.trans (hb5.mono HBA.out.size))
  have hsz5 := hb5.size
  have HY5 : Hid (w5.heap[w.heap.size]? = some (.cells #[.int .i64 m, .slice (some ⟨b0, off0, none⟩) l.length cap] 24 (0, 0))) := (hb5.block _ (by omega)).trans HY4.out
  have HZ5 := hid ((hb5.block (w.heap.size + 1) (by omega)).trans ((HB_w4.out.block _ (by omega)).trans HZ1.out))
  obtain ⟨x0, x1, _, _⟩ := two_cells HY5.out
  clear hb5
  go_wp2_with fail
  have hat : (l.filter (· < s)).length ≤ l.length := List.length_filter_le _ _
  generalize hatE : (l.filter (· < s)).length = at' at *
  by_cases hca : cap = at'
  · subst hca
    have HC5 : Hid (∀ i, i < l.length → w5.cell? ⟨b0, off0 + i, none⟩ = some (.int .i64 (l.getD i 0 : Nat))) := fun i hi => (HB5.out.cell (p := ⟨b0, off0 + i, none⟩) hb0).trans (HCELL.out i hi)
    have HW1 : Hid (w5.heap[w.heap.size + 1]? = some (.cells #[.int .i64 0, .slice none 0 0] 24 (0, 0))) := HZ5.out
    have HCB := hid (conW_below w5 b0 off0 cap cap (cap - cap) s l.length (some ⟨b0, off0, none⟩))
    have HCS := hid (conW_size w5 b0 off0 cap cap (cap - cap) s l.length (some ⟨b0, off0, none⟩))
    have HCON := hid (Concat_any (w5.heap.size + 1) 3 [l.take cap, [s], l.drop cap] (conW w5 b0 off0 cap cap (cap - cap) s l.length (some ⟨b0, off0, none⟩)) (by have := HCS.out; omega) (by simp) (by have := HACC2.out; have := HLEN.out; rw [show [l.take cap, [s], l.drop cap].length = 3 from rfl, HACC2.out]; omega) (by have := HACC2.out; have := HLEN.out; rw [show [l.take cap, [s], l.drop cap].length = 3 from rfl, HACC2.out]; omega)
      (conW_at w5 b0 off0 cap cap (cap - cap) s _ l hat (by omega) HC5.out (.inl ⟨rfl, by omega⟩)))
    rw [show flatN [l.take cap, [s], l.drop cap] [l.take cap, [s], l.drop cap].length = acc from HACC2.out] at HCON
    have e0 : conW w5 b0 off0 cap cap (cap - cap) s l.length (some ⟨b0, off0, none⟩) = ((w5.alloc (.cells #[.int .i64 (s : Int)] 3)).alloc (.cells #[.slice (some ⟨b0, off0, none⟩) cap cap, .slice (some ⟨w5.heap.size, 0, none⟩) 1 1, .slice (some ⟨b0, off0, none⟩) 0 0] 22)).drew := by
      unfold conW
      rw [Nat.sub_self, show l.length - cap = 0 by omega]
    rw [e0] at HCON HCB HCS
    clear e0
    have ha1 : ¬ (cap : Int) < 0 := by omega
    have ha2 : ¬ (cap : Int) < (cap : Int) := by omega
    have ha3 : ¬ (l.length : Int) < (cap : Int) := by omega
    have ha4 : ¬ (cap : Int) < (l.length : Int) := by omega
    have ha5 : (cap : Int) ≤ l.length := by omega
    have ha6 : (cap : Int) ≤ cap := by omega
    have ha7 : (l.length : Int) ≤ cap := by omega
    go_region_held3 (fun w' => w'.cell? ⟨w.heap.size, 0, none⟩ = some (.int .i64 m) ∧ w'.cell? ⟨w.heap.size, 1, none⟩ = some (.slice (some ⟨b0, off0, none⟩) l.length cap)) (go_keep)
     (first
      | (go_at_call 55; refine HCON.out.mono ?_; rintro e w7 ⟨r7, rfl, hr7, hb7⟩; have hb7' := HCB.out.trans (hb7.mono HCB.out.size); obtain ⟨q0, q1⟩ := (show w7.cell? ⟨w.heap.size, 0, none⟩ = some (.int .i64 m) ∧ w7.cell? ⟨w.heap.size, 1, none⟩ = some (.slice (some ⟨b0, off0, none⟩) l.length cap) from ⟨(hb7'.cell (p := ⟨w.heap.size, 0, none⟩) (by show w.heap.size < _; omega)).trans x0, (hb7'.cell (p := ⟨w.heap.size, 1, none⟩) (by show w.heap.size < _; omega)).trans x1⟩); obtain ⟨ra7, rc7, hr⟩ := ownsRow_form' hr7; subst hr; have hx1 := (hb7'.block (w.heap.size + 1) (by omega)).trans HW1.out; obtain ⟨y2, y3, g2, g3⟩ := two_cells hx1; have HC := hid (set_two (x := .int .i64 m) (y := .slice ra7 acc.length rc7) hx1); have HB7 := hid (HB5.out.trans (hb7'.mono HB5.out.size)); have HD := hid (below_two (b := w.heap.size + 1) (x := .int .i64 m) (y := .slice ra7 acc.length rc7) HB7.out (by omega)); have HII := hid ((hr7.set2 (b := w.heap.size + 1) (x := .int .i64 m) (y := .slice ra7 acc.length rc7) (by have := HCS.out; omega)).mono (by have := HCS.out; omega : w.heap.size ≤ _)); clear hb7 hb7' hr7 hx1))
    go_wp2_with fail
    obtain ⟨c0, c1⟩ := HC.out
    refine bodyPost_ret (v := .tuple #[.agg #[.int .i64 m, .slice ra7 _ rc7], .int .i64 0]) ?_ rfl ⟨_, rfl, HII.out, HD.out⟩
    simp [results, Tryz.f19, go_sem, c0, c1]
  · have HC5 : Hid (∀ i, i < l.length → w5.cell? ⟨b0, off0 + i, none⟩ = some (.int .i64 (l.getD i 0 : Nat))) := fun i hi => (HB5.out.cell (p := ⟨b0, off0 + i, none⟩) hb0).trans (HCELL.out i hi)
    have HW1 : Hid (w5.heap[w.heap.size + 1]? = some (.cells #[.int .i64 0, .slice none 0 0] 24 (0, 0))) := HZ5.out
    have HCB := hid (conW_below w5 b0 off0 at' cap (cap - at') s l.length (some ⟨b0, off0 + at', none⟩))
    have HCS := hid (conW_size w5 b0 off0 at' cap (cap - at') s l.length (some ⟨b0, off0 + at', none⟩))
    have HCON := hid (Concat_any (w5.heap.size + 1) 3 [l.take at', [s], l.drop at'] (conW w5 b0 off0 at' cap (cap - at') s l.length (some ⟨b0, off0 + at', none⟩)) (by have := HCS.out; omega) (by simp) (by have := HACC2.out; have := HLEN.out; rw [show [l.take at', [s], l.drop at'].length = 3 from rfl, HACC2.out]; omega) (by have := HACC2.out; have := HLEN.out; rw [show [l.take at', [s], l.drop at'].length = 3 from rfl, HACC2.out]; omega)
      (conW_at w5 b0 off0 at' cap (cap - at') s _ l hat (by omega) HC5.out (.inr rfl)))
    rw [show flatN [l.take at', [s], l.drop at'] [l.take at', [s], l.drop at'].length = acc from HACC2.out] at HCON
    have ha1 : ¬ (at' : Int) < 0 := by omega
    have ha2 : ¬ (cap : Int) < (at' : Int) := by omega
    have ha3 : ¬ (l.length : Int) < (at' : Int) := by omega
    have ha4 : ¬ (cap : Int) < (l.length : Int) := by omega
    have ha5 : (at' : Int) ≤ l.length := by omega
    have ha6 : (at' : Int) ≤ cap := by omega
    have ha7 : (l.length : Int) ≤ cap := by omega
    go_region_held3 (fun w' => w'.cell? ⟨w.heap.size, 0, none⟩ = some (.int .i64 m) ∧ w'.cell? ⟨w.heap.size, 1, none⟩ = some (.slice (some ⟨b0, off0, none⟩) l.length cap)) (go_keep)
     (first
      | (go_at_call 55; refine HCON.out.mono ?_; rintro e w7 ⟨r7, rfl, hr7, hb7⟩; have hb7' := HCB.out.trans (hb7.mono HCB.out.size); obtain ⟨q0, q1⟩ := (show w7.cell? ⟨w.heap.size, 0, none⟩ = some (.int .i64 m) ∧ w7.cell? ⟨w.heap.size, 1, none⟩ = some (.slice (some ⟨b0, off0, none⟩) l.length cap) from ⟨(hb7'.cell (p := ⟨w.heap.size, 0, none⟩) (by show w.heap.size < _; omega)).trans x0, (hb7'.cell (p := ⟨w.heap.size, 1, none⟩) (by show w.heap.size < _; omega)).trans x1⟩); obtain ⟨ra7, rc7, hr⟩ := ownsRow_form' hr7; subst hr; have hx1 := (hb7'.block (w.heap.size + 1) (by omega)).trans HW1.out; obtain ⟨y2, y3, g2, g3⟩ := two_cells hx1; have HC := hid (set_two (x := .int .i64 m) (y := .slice ra7 acc.length rc7) hx1); have HB7 := hid (HB5.out.trans (hb7'.mono HB5.out.size)); have HD := hid (below_two (b := w.heap.size + 1) (x := .int .i64 m) (y := .slice ra7 acc.length rc7) HB7.out (by omega)); have HII := hid ((hr7.set2 (b := w.heap.size + 1) (x := .int .i64 m) (y := .slice ra7 acc.length rc7) (by have := HCS.out; omega)).mono (by have := HCS.out; omega : w.heap.size ≤ _)); clear hb7 hb7' hr7 hx1))
    go_wp2_with fail
    obtain ⟨c0, c1⟩ := HC.out
    refine bodyPost_ret (v := .tuple #[.agg #[.int .i64 m, .slice ra7 _ rc7], .int .i64 0]) ?_ rfl ⟨_, rfl, HII.out, HD.out⟩
    simp [results, Tryz.f19, go_sem, c0, c1]
end Go.Proofs.YthbldeloocmakabGreat
