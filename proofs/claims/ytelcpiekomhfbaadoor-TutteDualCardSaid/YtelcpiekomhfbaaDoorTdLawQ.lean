/- rotakeep.TutteDual. -/
import Derived.Test.YtelcpiekomhfbaaDoorTtDQ
import Derived.Test.YtelcpiekomhfbaaDoorTvCQ
import Derived.Test.YtelcpiekomhfbaaDoorDualQ
import Derived.Test.YtelcpiekomhfbaaDoorPlainAll
import Derived.Test.YtelcpiekomhfbaaDoorRefQ
import Derived.Test.YtelcpiekomhfbaaDoorItAQ
import Derived.Lib.AppendIntMem
import Derived.Deep.RegionHeld3
import Derived.Deep.CutRange
namespace Go.Proofs.YtelcpiekomhfbaaDoor
open Go.RowKit

/-- Of the first k sets: those that ask. -/
def cnK (p : Nat → Bool) (k : Nat) : Nat := ((List.range k).filter p).length
theorem cnK_step (p : Nat → Bool) (k : Nat) : cnK p (k + 1) = if p k = true then cnK p k + 1 else cnK p k := by
  unfold cnK
  rw [List.range_succ, List.filter_append, List.length_append, List.filter_cons]
  by_cases h : p k = true
  · rw [if_pos h, if_pos h]; rfl
  · rw [if_neg h, if_neg h]; rfl
theorem cnK_le (p : Nat → Bool) (k : Nat) : cnK p k ≤ k := Nat.le_trans (List.length_filter_le _ _) (by rw [List.length_range]; exact Nat.le_refl _)
theorem two_full : rk twoL (2 ^ 4 - 1) = 2 := by decide +kernel
theorem lit_tt : ∀ i, i < 3 → ∀ j, j < 3 → (ttN 4 twoL i j : Int) = ((([[0, 2, 1], [2, 0, 0], [1, 0, 0]] : List (List Int)).getD i []).getD j 0) := by decide +kernel
/-- The world with the three rows. -/
def litW (w : World) : World := (((w.alloc (.cells #[.int .i64 0, .int .i64 2, .int .i64 1] 2)).alloc (.cells #[.int .i64 2, .int .i64 0, .int .i64 0] 2)).alloc (.cells #[.int .i64 1, .int .i64 0, .int .i64 0] 2)).alloc (.cells #[.slice (some ⟨w.heap.size, 0, none⟩) 3 3, .slice (some ⟨w.heap.size + 1, 0, none⟩) 3 3, .slice (some ⟨w.heap.size + 1 + 1, 0, none⟩) 3 3] 31)
theorem lit_below (w : World) : Below w.heap.size w (litW w) := ((((Below.refl _ _).alloc (Nat.le_refl _) _).alloc (by simp) _).alloc (by simp; omega) _).alloc (by simp; omega) _
theorem lit_rows (w : World) : RowsZ (litW w) (.slice (some ⟨w.heap.size + 1 + 1 + 1, 0, none⟩) 3 3) 3 3 (fun i j => (ttN 4 twoL i j : Int)) := by
  have e0 : (litW w).heap[w.heap.size]? = some (.cells #[.int .i64 0, .int .i64 2, .int .i64 1] 2 (0, 0)) := by
    unfold litW
    rw [Below.heap_alloc _ _ _ (by simp; omega), Below.heap_alloc _ _ _ (by simp; omega), Below.heap_alloc _ _ _ (by simp)]
    exact World.alloc_heap_new w _
  have e1 : (litW w).heap[w.heap.size + 1]? = some (.cells #[.int .i64 2, .int .i64 0, .int .i64 0] 2 (0, 0)) := by
    unfold litW
    rw [Below.heap_alloc _ _ _ (by simp), Below.heap_alloc _ _ _ (by simp)]
    have := World.alloc_heap_new (w.alloc (.cells #[.int .i64 0, .int .i64 2, .int .i64 1] 2)) (.cells #[.int .i64 2, .int .i64 0, .int .i64 0] 2)
    rwa [World.size_alloc] at this
  have e2 : (litW w).heap[w.heap.size + 1 + 1]? = some (.cells #[.int .i64 1, .int .i64 0, .int .i64 0] 2 (0, 0)) := by
    unfold litW
    rw [Below.heap_alloc _ _ _ (by simp)]
    have := World.alloc_heap_new ((w.alloc (.cells #[.int .i64 0, .int .i64 2, .int .i64 1] 2)).alloc (.cells #[.int .i64 2, .int .i64 0, .int .i64 0] 2)) (.cells #[.int .i64 1, .int .i64 0, .int .i64 0] 2)
    rwa [World.size_alloc, World.size_alloc] at this
  have e3 : (litW w).heap[w.heap.size + 1 + 1 + 1]? = some (.cells #[.slice (some ⟨w.heap.size, 0, none⟩) 3 3, .slice (some ⟨w.heap.size + 1, 0, none⟩) 3 3, .slice (some ⟨w.heap.size + 1 + 1, 0, none⟩) 3 3] 31 (0, 0)) := by
    have := World.alloc_heap_new (((w.alloc (.cells #[.int .i64 0, .int .i64 2, .int .i64 1] 2)).alloc (.cells #[.int .i64 2, .int .i64 0, .int .i64 0] 2)).alloc (.cells #[.int .i64 1, .int .i64 0, .int .i64 0] 2)) (.cells #[.slice (some ⟨w.heap.size, 0, none⟩) 3 3, .slice (some ⟨w.heap.size + 1, 0, none⟩) 3 3, .slice (some ⟨w.heap.size + 1 + 1, 0, none⟩) 3 3] 31)
    rwa [World.size_alloc, World.size_alloc, World.size_alloc] at this
  have s0 := (Array.getElem?_eq_some_iff.1 e0).1
  have s1 := (Array.getElem?_eq_some_iff.1 e1).1
  have s2 := (Array.getElem?_eq_some_iff.1 e2).1
  have s3 := (Array.getElem?_eq_some_iff.1 e3).1
  generalize litW w = W at *
  have rowk : ∀ (b : Nat) (x y z : Int) (i : Nat), W.heap[b]? = some (.cells #[.int .i64 x, .int .i64 y, .int .i64 z] 2 (0, 0)) → (∀ j, j < 3 → (ttN 4 twoL i j : Int) = ([x, y, z] : List Int).getD j 0) → RkZ W (.slice (some ⟨b, 0, none⟩) 3 3) 3 (fun j => (ttN 4 twoL i j : Int)) := fun b x y z i hb ht => by
    refine ⟨b, 0, 3, rfl, (Array.getElem?_eq_some_iff.1 hb).1, fun j hj => ?_⟩
    show W.cell? ⟨b, 0 + j, none⟩ = some (.int .i64 (ttN 4 twoL i j : Int))
    rw [ht j hj]
    match j, hj with
    | 0, _ => simp [World.cell?, hb]
    | 1, _ => simp [World.cell?, hb]
    | 2, _ => simp [World.cell?, hb]
  refine ⟨_, 0, 3, rfl, s3, fun i hi => ?_⟩
  match i, hi with
  | 0, _ => exact ⟨.slice (some ⟨w.heap.size, 0, none⟩) 3 3, by simp [World.cell?, e3], rowk _ _ _ _ 0 e0 (lit_tt 0 (by omega))⟩
  | 1, _ => exact ⟨.slice (some ⟨w.heap.size + 1, 0, none⟩) 3 3, by simp [World.cell?, e3], rowk _ _ _ _ 1 e1 (lit_tt 1 (by omega))⟩
  | 2, _ => exact ⟨.slice (some ⟨w.heap.size + 1 + 1, 0, none⟩) 3 3, by simp [World.cell?, e3], rowk _ _ _ _ 2 e2 (lit_tt 2 (by omega))⟩
theorem dual_full {m : Nat} {l : List Nat} (hm : m ≤ 8) (hf : Fam m l) (hb : Bas l) : rk (cmp m l) (2 ^ m - 1) = m - rk l (2 ^ m - 1) := by
  have h := dual_sum hm hf hb (s := 2 ^ m - 1) (Nat.sub_lt (Nat.two_pow_pos m) (by decide))
  have h0 := (hb.rk.le 0)
  rw [Nat.sub_self, pop_fullE m hm] at h
  rw [show pop 0 = 0 from rfl] at h0
  omega
/-- The table of the power tables of strconv. -/
abbrev Pow10 (w : World) : Prop := Lib.TabIs Tryd.prog w "internal/strconv.uint64pow10" .u64 Lib.pow10Tab
set_option maxRecDepth 20000 in
set_option maxHeartbeats 8000000 in
theorem tdual_law (n : Int) (v : Value) (zs : List Int) (w : World) (h : Ints w v zs) (hw : Pow10 w) :
    Calls Tryd.prog 3 #[.agg #[.int .i64 n, v]] w fun e w' => e = .returned (.bool true) ∧ Below w.heap.size w w' := by
  have HI := hid h
  obtain ⟨a, cap, rfl, -, -⟩ := h
  have hB0 := below_box w #[.int .i64 n, .slice a zs.length cap]
  have HB0 := hid hB0
  have HI0 := hid (HI.out.below hB0)
  have HX : Hid (∀ w2, Below (w.alloc (.cells #[.int .i64 n, .slice a zs.length cap] 24)).heap.size (w.alloc (.cells #[.int .i64 n, .slice a zs.length cap] 24)) w2 → _) := fun w2 hb => box_cells hb
  have HW := hid (Lib.tabBelow_of_tabIs hw)
  clear hB0 HI hw
  go_enter Tryd.func3, Tryd.ntmps3
  go_wp2_with fail
  refine (two_any _).mono ?_
  rintro e w1 ⟨v1, rfl, hi1, hb1⟩
  have C1 : Hid (Calls Tryd.prog 4 #[.agg #[.int .i64 4, v1]] w1 fun e w' => ∃ g, e = .returned (.tuple #[.slice (some ⟨g, 0, none⟩) 3 3, .int .i64 0]) ∧ w1.heap.size ≤ g ∧ TblM g w' 3 3 (fun i j => (ttN 4 twoL i j : Int)) ∧ Below w1.heap.size w1 w') := by
    have := Polynomial_ok 4 v1 twoL w1 (by omega) two_fam two_bas hi1
    rw [two_full] at this
    exact this
  clear hi1
  go_wp2_with fail
  refine C1.out.mono ?_
  rintro e w2 ⟨g2, rfl, hg2, ht2, hb2⟩
  have hb12 := hb1.trans (hb2.mono hb1.size)
  have LR := lit_rows w2
  have hb23 := lit_below w2
  have RA := hid (ht2.rows (cap := 3))
  have CR : Hid (Calls Tryd.prog 6 #[.slice (some ⟨g2, 0, none⟩) 3 3, .slice (some ⟨w2.heap.size + 1 + 1 + 1, 0, none⟩) 3 3] (litW w2) fun e w' => e = .returned (.bool true) ∧ Below (litW w2).heap.size (litW w2) w') := Rows_same _ _ 3 3 (fun i j => (ttN 4 twoL i j : Int)) _ (by omega) (by omega) (RA.out.below hb23) LR
  unfold litW at CR
  clear hb2 hb1 C1 RA LR ht2 hg2
  go_wp2_with fail
  refine CR.out.mono ?_
  rintro e w3 ⟨rfl, hb3⟩
  have hb13 := hb12.trans ((hb23.trans ((show Below (litW w2).heap.size (litW w2) w3 from hb3).mono hb23.size)).mono hb12.size)
  obtain ⟨x0, x1⟩ := HX.out w3 hb13
  have hs3 : w.heap.size + 1 ≤ w3.heap.size := by have := hb13.size; simpa using this
  have HB3 := hid (HB0.out.trans (hb13.mono HB0.out.size))
  have HI3 := hid (HI0.out.below hb13)
  clear hb3 hb13 hb12 hb23 CR HX HB0 HI0
  by_cases hq : chkR n zs = 0
  rotate_left
  · have PB := hid (Polynomial_bad n _ zs w3 HI3.out hq)
    have hq1 : (chkR n zs != 0) = true := by rw [bne_iff_ne]; exact hq
    generalize chkR n zs = q at *
    clear hq
    go_wp2_with fail
    refine PB.out.mono ?_
    rintro e w4 ⟨rfl, hb4⟩
    have HB4 := hid (HB3.out.trans (hb4.mono HB3.out.size))
    clear hb4 PB
    go_wp2_with fail
    go_ret
    exact ⟨rfl, HB4.out⟩
  obtain ⟨m, l, rfl, hm, rfl, hf, hb⟩ := chk_of hq
  rw [N_len] at x1 HI3 ⊢
  clear hq
  have PO := hid (Polynomial_ok m _ l w3 hm hf hb HI3.out)
  have hRm := rank_n hm hb
  have hlen := fam_lenT hm hf
  have hl256 : l.length ≤ 256 := by omega
  have hdr : rk (cmp m l) (2 ^ m - 1) = m - rk l (2 ^ m - 1) := dual_full hm hf hb
  have DU : Hid (∀ W, Below w3.heap.size w3 W → Calls Tryd.prog 7 #[.agg #[.int .i64 m, .slice a l.length cap]] W (GivesO W m (cmp m l))) := fun W hW => Dual_ok m _ l W hm hf hb (HI3.out.below hW)
  have PD : Hid (∀ W u, Ints W u (N (cmp m l)) → Calls Tryd.prog 4 #[.agg #[.int .i64 m, u]] W fun e w' => ∃ g, e = .returned (.tuple #[.slice (some ⟨g, 0, none⟩) (m - rk l (2 ^ m - 1) + 1) (m - rk l (2 ^ m - 1) + 1), .int .i64 0]) ∧ TblM g w' (m - rk l (2 ^ m - 1) + 1) (rk l (2 ^ m - 1) + 1) (fun i j => (ttN m l j i : Int)) ∧ Below W.heap.size W w') := fun W u hu => by
    have := Polynomial_ok m u (cmp m l) W hm (cmp_fam hf) (dual_bas hm hf hb) hu
    rw [hdr, show m - (m - rk l (2 ^ m - 1)) = rk l (2 ^ m - 1) by omega] at this
    exact this.mono fun e w' ⟨g, h1, _, h3, h4⟩ => ⟨g, h1, h3.congr fun i _ j _ => by rw [tt_cmp hf.lt], h4⟩
  have RK : Hid (∀ W, Below w3.heap.size w3 W → Calls Tryd.prog 8 #[.agg #[.int .i64 m, .slice a l.length cap]] W fun e w' => ∃ r, e = .returned (.tuple #[r, .int .i64 0]) ∧ RkAt w' r (2 ^ m) (rk l) ∧ Below w3.heap.size w3 w') := fun W hW => (Ranks_ok m _ l W hm hf hb (HI3.out.below hW)).mono fun e w' ⟨r, h1, h2, h3⟩ => ⟨r, h1, h2, hW.trans (h3.mono hW.size)⟩
  have AT : Hid (∀ (x y : Int) W, -1000 ≤ x → x ≤ 1000 → -1000 ≤ y → y ≤ 1000 → Below w3.heap.size w3 W → Calls Tryd.prog 10 #[.agg #[.int .i64 m, .slice a l.length cap], .int .i64 x, .int .i64 y] W fun e w' => e = .returned (.tuple #[.string ⟨(decZ (pvZ m l x y)).toArray⟩, .int .i64 0]) ∧ Below w3.heap.size w3 w') := fun x y W h1 h2 h3 h4 hW => (At_ok m _ l x y W hm hf hb h1 h2 h3 h4 (HI3.out.below hW)).mono fun e w' h9 => ⟨h9.1, hW.trans (h9.2.mono hW.size)⟩
  have IT : Hid (∀ (k : Nat) W, k ≤ 256 → Below w3.heap.size w3 W → Calls Tryd.prog 11 #[.int .i64 k] W fun e w' => e = .returned (.string ⟨(decZ k).toArray⟩) ∧ Below w3.heap.size w3 w') := fun k W hk hW => (Itoa_ok k W (by omega) (by omega) (HW.out W (HB3.out.trans (hW.mono HB3.out.size)))).mono fun e w' h9 => ⟨h9.1, hW.trans (h9.2.mono hW.size)⟩
  have p11 := pv_11 m l
  have p21 := pv_21 hm hf hb
  have p12 := pv_12 hm hf hb
  have p22 := pv_22 hm hf hb
  have A11 : Hid (∀ W, Below w3.heap.size w3 W → _) := fun W hW => AT.out 1 1 W (by omega) (by omega) (by omega) (by omega) hW
  have A21 : Hid (∀ W, Below w3.heap.size w3 W → _) := fun W hW => AT.out 2 1 W (by omega) (by omega) (by omega) (by omega) hW
  have A12 : Hid (∀ W, Below w3.heap.size w3 W → _) := fun W hW => AT.out 1 2 W (by omega) (by omega) (by omega) (by omega) hW
  have A22 : Hid (∀ W, Below w3.heap.size w3 W → _) := fun W hW => AT.out 2 2 W (by omega) (by omega) (by omega) (by omega) hW
  rw [p11] at A11
  rw [p21] at A21
  rw [p12] at A12
  rw [p22] at A22
  have KX : Hid (∀ W, Below w3.heap.size w3 W → W.cell? ⟨w.heap.size, 0, none⟩ = some (.int .i64 m) ∧ W.cell? ⟨w.heap.size, 1, none⟩ = some (.slice a l.length cap)) := fun W hW => ⟨(hW.cell (p := ⟨w.heap.size, 0, none⟩) (by show w.heap.size < _; omega)).trans x0, (hW.cell (p := ⟨w.heap.size, 1, none⟩) (by show w.heap.size < _; omega)).trans x1⟩
  clear hf hb hdr AT HW HI3 p11 p21 p12 p22
  obtain ⟨R, HR⟩ : ∃ R, Hid (rk l (2 ^ m - 1) = R) := ⟨_, rfl⟩
  rw [HR.out] at PO PD hRm
  obtain ⟨N1, HN⟩ : ∃ N1, Hid (R + 1 = N1) := ⟨_, rfl⟩
  obtain ⟨M1, HM⟩ : ∃ M1, Hid (m - R + 1 = M1) := ⟨_, rfl⟩
  rw [HN.out, HM.out] at PO PD
  have hN9 : N1 ≤ 9 := by rw [← HN.out]; omega
  have hM9 : M1 ≤ 9 := by rw [← HM.out]; omega
  have hN0 : 0 < N1 := by rw [← HN.out]; omega
  obtain ⟨f, HF⟩ : ∃ f : Nat → Nat → Nat, Hid (ttN m l = f) := ⟨_, rfl⟩
  rw [HF.out] at PO PD
  go_wp2_with fail
  refine PO.out.mono ?_
  rintro e w4 ⟨gt, rfl, hgt, htm, hb4⟩
  have B4 := hid hb4
  have T4 := hid htm
  clear hb4 htm PO x0 x1 hgt
  obtain ⟨x0, x1⟩ := KX.out _ B4.out
  go_wp2_with fail
  refine (DU.out _ B4.out).mono ?_
  rintro e w5 ⟨r5, rfl, ho5, hb5⟩
  have hi5 := ho5.ints (by have := cmp_len m l; omega)
  obtain ⟨ra5, rc5, hr5⟩ := ownsRow_form' ho5
  subst hr5
  have hk5 := (Below.refl _ w5).alloc (Nat.le_refl _) (.cells #[.int .i64 m, .slice ra5 (cmp m l).length rc5] 24)
  have B5 := hid (B4.out.trans ((hb5.trans (hk5.mono hb5.size)).mono B4.out.size))
  have T5 := hid (T4.out.below (hb5.trans (hk5.mono hb5.size)))
  have D5 := hid (PD.out _ _ (hi5.below hk5))
  obtain ⟨y0, y1, -, -⟩ := two_cells (World.alloc_heap_new w5 (.cells #[.int .i64 m, .slice ra5 (cmp m l).length rc5] 24))
  clear ho5 hb5 hi5 hk5 T4 B4 DU PD x0 x1
  go_wp2_with fail
  refine D5.out.mono ?_
  rintro e w6 ⟨gu, rfl, hum, hb6⟩
  have B6 := hid (B5.out.trans (hb6.mono B5.out.size))
  have T6 := hid (T5.out.below hb6)
  have U6 := hid hum
  clear hb6 hum T5 B5 D5 y0 y1
  have c0 := T6.out.head 0 hN0
  have hn2 : ((M1 : Int) != (M1 : Int)) = false := by simp
  go_wp2_with fail
  clear c0 hn2
  go_loopw [11, 12, 77, 85] (fun _ _ i _ W => ∃ k : Nat, k ≤ N1 ∧ i = .int .i64 k ∧ Hid (Below w6.heap.size w6 W)) (fun _ _ i _ _ => N1 - (intOf i).toNat)
  case atStart => exact ⟨0, Nat.zero_le _, rfl, Below.refl _ _⟩
  case round =>
    obtain ⟨i, hi, rfl, BI⟩ := hrel
    by_cases hlt : i < N1
    · have hii : (i : Int) < (N1 : Int) := by omega
      have hmi : N1 - (i + 1) < N1 - i := by omega
      have TI := hid (T6.out.below BI.out)
      have c0 := TI.out.head i hlt
      go_wp2_with fail
      clear c0 TI
      go_loopw [12, 85] (fun _ j W => ∃ k : Nat, k ≤ M1 ∧ j = .int .i64 k ∧ Hid (Below w6.heap.size w6 W)) (fun _ j _ => M1 - (intOf j).toNat)
      case atStart => exact ⟨0, Nat.zero_le _, rfl, BI⟩
      case round =>
        obtain ⟨j, hj, rfl, BJ⟩ := hrel
        clear BI
        by_cases hjt : j < M1
        · have hji : (j : Int) < (M1 : Int) := by omega
          have hmj : M1 - (j + 1) < M1 - j := by omega
          have TJ := hid (T6.out.below BJ.out)
          have UJ := hid (U6.out.below BJ.out)
          have c0 := TJ.out.head i hlt
          have c1 := (TJ.out.row i hlt).cell j hjt
          have c2 := UJ.out.head j hjt
          have c3 := (UJ.out.row j hjt).cell i hlt
          obtain ⟨x, hx⟩ : ∃ x : Nat, f i j = x := ⟨_, rfl⟩
          have c1' : wr.cell? ⟨gt + 1 + i, j, none⟩ = some (.int .i64 (x : Int)) := by rw [← hx]; exact c1
          have c3' : wr.cell? ⟨gu + 1 + j, i, none⟩ = some (.int .i64 (x : Int)) := by rw [← hx]; exact c3
          have hx0 : ¬ ((x : Int) < 0) := by omega
          have hxx : ((x : Int) != (x : Int)) = false := by simp
          clear c1 c3 hx TJ UJ
          go_upto_region 17 with fail
          go_cut [112] from 88 to 111 (fun y W => y = .bool false ∧ Hid (Below w6.heap.size w6 W))
          case first =>
            clear hmj
            go_wp2_with fail
            go_quiet (fail)
            have BQ := hid (BJ.out.trans ((drewN_below _ _ nq).mono BJ.out.size))
            go_wp2_with fail
            go_meet
            exact ⟨rfl, BQ⟩
          case rest =>
          obtain ⟨rfl, BQ⟩ := hcut
          go_wp2_with fail
          go_roundw
          case rel => exact ⟨j + 1, hjt, by go_num, BQ⟩
          case measure => exact hmj
        · obtain rfl : j = M1 := by omega
          have hnj : ¬ (j : Int) < (j : Int) := by omega
          go_wp2_with fail
          go_roundw
          case rel => exact ⟨i + 1, hlt, by go_num, BJ⟩
          case measure => exact hmi
    · obtain rfl : i = N1 := by omega
      have hni : ¬ (i : Int) < (i : Int) := by omega
      have B7 := hid (B6.out.trans (BI.out.mono B6.out.size))
      obtain ⟨x0, x1⟩ := KX.out _ B7.out
      clear T6 U6 BI
      go_wp2_with fail
      refine (RK.out _ B7.out).mono ?_
      rintro e w8 ⟨r8, rfl, hr8, hb8⟩
      have B8 := hid hb8
      clear hb8 B7 x0 x1 RK
      obtain ⟨T, HT⟩ : ∃ T : Nat, Hid (2 ^ m = T) := ⟨2 ^ m, hid rfl⟩
      have hT256 : T ≤ 256 := by rw [← HT.out]; exact (pow_wrap m hm).2
      have hT0 : 0 < T := by rw [← HT.out]; exact Nat.two_pow_pos m
      have hTw : wrap64 (2 ^ m) = (T : Int) := by rw [← HT.out]; exact (pow_wrap m hm).1
      rw [HT.out] at hr8 A21 A12 A22
      obtain ⟨rb, ro, rcp, rfl, hrb, hrc⟩ := hr8
      have RC : Hid (∀ i, i < T → w8.cell? ⟨rb, ro + i, none⟩ = some (.int .i64 (rk l i : Nat))) := hrc
      have HRT : Hid (rk l (T - 1) = R) := by show _ = _; rw [← HT.out]; exact HR.out
      clear hrc
      obtain ⟨U, HU⟩ : ∃ U : Nat, Hid (U + 1 = T) := ⟨T - 1, hid (by omega)⟩
      have hUi : (T : Int) - 1 = (U : Int) := by have := HU.out; omega
      have hUT : U < T := by have := HU.out; omega
      have hUj : (U : Int) < (T : Int) := by omega
      rw [show T - 1 = U by have := HU.out; omega] at HRT A12
      obtain ⟨pF, HPF⟩ : ∃ pF : Nat → Bool, Hid ((fun s => rk l s == pop s) = pF) := ⟨_, rfl⟩
      obtain ⟨pS, HPS⟩ : ∃ pS : Nat → Bool, Hid ((fun s => rk l s == R) = pS) := ⟨_, rfl⟩
      rw [HPF.out] at A21
      rw [HRT.out, HPS.out] at A12
      have KF : Hid (∀ s, pF s = (rk l s == pop s)) := fun s => by rw [← HPF.out]
      have KS : Hid (∀ s, pS s = (rk l s == R)) := fun s => by rw [← HPS.out]
      have A21' : Hid (∀ W, Below w3.heap.size w3 W → Calls Tryd.prog 10 #[.agg #[.int .i64 m, .slice a l.length cap], .int .i64 2, .int .i64 1] W fun e w' => e = .returned (.tuple #[.string ⟨(decZ (cnK pF T : Nat)).toArray⟩, .int .i64 0]) ∧ Below w3.heap.size w3 w') := A21
      have A12' : Hid (∀ W, Below w3.heap.size w3 W → Calls Tryd.prog 10 #[.agg #[.int .i64 m, .slice a l.length cap], .int .i64 1, .int .i64 2] W fun e w' => e = .returned (.tuple #[.string ⟨(decZ (cnK pS T : Nat)).toArray⟩, .int .i64 0]) ∧ Below w3.heap.size w3 w') := A12
      clear A21 A12 HPF HPS HT hni HN HM HR HF
      have RS : Hid (∀ (s : Nat) W, s < 256 → Below w8.heap.size w8 W → Calls Tryd.prog 9 #[.int .i64 s] W fun e w' => e = .returned (.int .i64 (pop s)) ∧ Below w8.heap.size w8 w') := fun s W hs hW => (Size_any s W hs).mono fun e w' h9 => ⟨h9.1, hW.trans (h9.2.mono hW.size)⟩
      go_wp2_with fail
      go_loopw [15, 16, 17, 18, 122] (fun fr sp _ _ i W => ∃ k : Nat, k ≤ T ∧ i = .int .i64 k ∧ fr = .int .i64 (cnK pF k) ∧ sp = .int .i64 (cnK pS k) ∧ Hid (Below w8.heap.size w8 W)) (fun _ _ _ _ i _ => T - (intOf i).toNat)
      case atStart => exact ⟨0, Nat.zero_le _, rfl, rfl, rfl, Below.refl _ _⟩
      case round =>
        obtain ⟨k, hk, rfl, rfl, rfl, BK⟩ := hrel
        have hcF := cnK_le pF k
        have hcS := cnK_le pS k
        by_cases hkt : k < T
        · have hki : (k : Int) < (T : Int) := by omega
          have hmk : T - (k + 1) < T - k := by omega
          have c1 := (BK.out.cell (p := ⟨rb, ro + k, none⟩) hrb).trans (RC.out k hkt)
          have S1 := hid (RS.out k _ (by omega) BK.out)
          have EF := hid (cnK_step pF k)
          have ES := hid (cnK_step pS k)
          rw [KF.out] at EF
          rw [KS.out] at ES
          obtain ⟨x, hx⟩ : ∃ x, rk l k = x := ⟨_, rfl⟩
          obtain ⟨y, hy⟩ : ∃ y, pop k = y := ⟨_, rfl⟩
          rw [hx] at EF ES c1
          rw [hy] at EF S1
          clear hx hy
          go_wp2_with fail
          refine S1.out.mono ?_
          rintro e w9 ⟨rfl, hb9⟩
          have B9 := hid hb9
          have c2 := (B9.out.cell (p := ⟨rb, ro + U, none⟩) hrb).trans (RC.out U hUT)
          rw [HRT.out] at c2
          clear hb9 S1 c1
          by_cases hxy : x = y
          · have h1 : ((x : Int) == (y : Int)) = true := by rw [beq_iff_eq]; omega
            rw [if_pos (by rw [beq_iff_eq]; exact hxy)] at EF
            by_cases hxR : x = R
            · have h2 : ((x : Int) == (R : Int)) = true := by rw [beq_iff_eq]; omega
              rw [if_pos (by rw [beq_iff_eq]; exact hxR)] at ES
              clear hxR hxy
              go_wp2_with fail
              go_roundw
              case rel => exact ⟨k + 1, hkt, by go_num, by rw [EF.out]; go_num, by rw [ES.out]; go_num, B9⟩
              case measure => exact hmk
            · have h2 : ((x : Int) == (R : Int)) = false := by rw [beq_eq_false_iff_ne]; omega
              rw [if_neg (by rw [beq_iff_eq]; exact hxR)] at ES
              clear hxR hxy
              go_wp2_with fail
              go_roundw
              case rel => exact ⟨k + 1, hkt, by go_num, by rw [EF.out]; go_num, by rw [ES.out], B9⟩
              case measure => exact hmk
          · have h1 : ((x : Int) == (y : Int)) = false := by rw [beq_eq_false_iff_ne]; omega
            rw [if_neg (by rw [beq_iff_eq]; exact hxy)] at EF
            by_cases hxR : x = R
            · have h2 : ((x : Int) == (R : Int)) = true := by rw [beq_iff_eq]; omega
              rw [if_pos (by rw [beq_iff_eq]; exact hxR)] at ES
              clear hxR hxy
              go_wp2_with fail
              go_roundw
              case rel => exact ⟨k + 1, hkt, by go_num, by rw [EF.out], by rw [ES.out]; go_num, B9⟩
              case measure => exact hmk
            · have h2 : ((x : Int) == (R : Int)) = false := by rw [beq_eq_false_iff_ne]; omega
              rw [if_neg (by rw [beq_iff_eq]; exact hxR)] at ES
              clear hxR hxy
              go_wp2_with fail
              go_roundw
              case rel => exact ⟨k + 1, hkt, by go_num, by rw [EF.out], by rw [ES.out], B9⟩
              case measure => exact hmk
        · obtain rfl : k = T := by omega
          have hnk : ¬ (k : Int) < (k : Int) := by omega
          obtain ⟨cF, HCF⟩ : ∃ cF, Hid (cnK pF k = cF) := ⟨_, hid rfl⟩
          obtain ⟨cS, HCS⟩ : ∃ cS, Hid (cnK pS k = cS) := ⟨_, hid rfl⟩
          rw [HCF.out] at A21' hcF ⊢
          rw [HCS.out] at A12' hcS ⊢
          have I1 := hid (fun W hW => IT.out l.length W hl256 hW)
          have I2 := hid (fun W hW => IT.out cF W (Nat.le_trans hcF hT256) hW)
          have I3 := hid (fun W hW => IT.out cS W (Nat.le_trans hcS hT256) hW)
          have I4 := hid (fun W hW => IT.out k W hT256 hW)
          obtain ⟨t1, ht1⟩ : ∃ t1, (⟨(decZ (l.length : Nat)).toArray⟩ : ByteArray) = t1 := ⟨_, rfl⟩
          obtain ⟨t2, ht2⟩ : ∃ t2, (⟨(decZ (cF : Nat)).toArray⟩ : ByteArray) = t2 := ⟨_, rfl⟩
          obtain ⟨t3, ht3⟩ : ∃ t3, (⟨(decZ (cS : Nat)).toArray⟩ : ByteArray) = t3 := ⟨_, rfl⟩
          obtain ⟨t4, ht4⟩ : ∃ t4, (⟨(decZ (k : Nat)).toArray⟩ : ByteArray) = t4 := ⟨_, rfl⟩
          rw [ht1] at A11 I1
          rw [ht2] at A21' I2
          rw [ht3] at A12' I3
          rw [ht4] at A22 I4
          have B9 := hid (B8.out.trans (BK.out.mono B8.out.size))
          clear ht1 ht2 ht3 ht4 HCF HCS IT BK RC RS KF KS B8 HRT hUi
          obtain ⟨x0, x1⟩ := KX.out _ B9.out
          go_wp2_with fail
          refine (A11.out _ B9.out).mono ?_
          rintro e w10 ⟨rfl, hb⟩
          have B10 := hid hb
          clear hb B9 x0 x1 A11
          obtain ⟨x0, x1⟩ := KX.out _ B10.out
          go_wp2_with fail
          refine (A21'.out _ B10.out).mono ?_
          rintro e w11 ⟨rfl, hb⟩
          have B11 := hid hb
          clear hb B10 x0 x1 A21'
          obtain ⟨x0, x1⟩ := KX.out _ B11.out
          go_wp2_with fail
          refine (A12'.out _ B11.out).mono ?_
          rintro e w12 ⟨rfl, hb⟩
          have B12 := hid hb
          clear hb B11 x0 x1 A12'
          obtain ⟨x0, x1⟩ := KX.out _ B12.out
          go_wp2_with fail
          refine (A22.out _ B12.out).mono ?_
          rintro e w13 ⟨rfl, hb⟩
          have B13 := hid hb
          clear hb B12 x0 x1 A22
          obtain ⟨x0, x1⟩ := KX.out _ B13.out
          go_wp2_with fail
          refine (I1.out _ B13.out).mono ?_
          rintro e w14 ⟨rfl, hb⟩
          have B14 := hid hb
          clear hb B13 x0 x1 I1
          obtain ⟨x0, x1⟩ := KX.out _ B14.out
          go_wp2_with fail
          refine (I2.out _ B14.out).mono ?_
          rintro e w15 ⟨rfl, hb⟩
          have B15 := hid hb
          clear hb B14 x0 x1 I2
          obtain ⟨x0, x1⟩ := KX.out _ B15.out
          go_wp2_with fail
          refine (I3.out _ B15.out).mono ?_
          rintro e w16 ⟨rfl, hb⟩
          have B16 := hid hb
          clear hb B15 x0 x1 I3
          obtain ⟨x0, x1⟩ := KX.out _ B16.out
          go_wp2_with fail
          refine (I4.out _ B16.out).mono ?_
          rintro e w17 ⟨rfl, hb⟩
          have B17 := hid hb
          clear hb B16 x0 x1 I4
          go_wp2_with fail
          go_ret
          exact ⟨rfl, HB3.out.trans (B17.out.mono HB3.out.size)⟩
end Go.Proofs.YtelcpiekomhfbaaDoor
