/- The law rotakeep.SameMinors. -/
import Derived.Test.YthlmnhcnpffjdaaMnBQ
import Derived.Test.YthlmnhcnpffjdaaPlainAll
import Derived.Test.YthlmnhcnpffjdaaDualQ
import Derived.Test.YthlmnhcnpffjdaaRefSetQ
import Derived.Deep.CutRange
import Derived.Deep.RegionHeld3
namespace Go.Proofs.Ythlmnhcnpffjdaa
open Go.RowKit

/-- What stays while the law runs. -/
def Base2 (w W : World) (n : Int) (v : Value) (k : Int) (u : Value) : Prop := Below w.heap.size w W ∧ w.heap.size + 2 ≤ W.heap.size ∧ W.heap[w.heap.size]? = some (.cells #[.int .i64 n, v] 24 (0, 0)) ∧ W.heap[w.heap.size + 1]? = some (.cells #[.int .i64 k, u] 24 (0, 0))
theorem Base2.next {w W W' : World} {n : Int} {v : Value} {k : Int} {u : Value} (h : Base2 w W n v k u) (hb : Below W.heap.size W W') : Base2 w W' n v k u := by
  obtain ⟨h1, h2, h3, h4⟩ := h
  exact ⟨h1.trans (hb.mono h1.size), Nat.le_trans h2 hb.size, (hb.block w.heap.size (by omega)).trans h3, (hb.block (w.heap.size + 1) (by omega)).trans h4⟩
theorem Base2.cells {w W : World} {n : Int} {v : Value} {k : Int} {u : Value} (h : Base2 w W n v k u) : W.cell? ⟨w.heap.size, 0, none⟩ = some (.int .i64 n) ∧ W.cell? ⟨w.heap.size, 1, none⟩ = some v ∧ W.cell? ⟨w.heap.size + 1, 0, none⟩ = some (.int .i64 k) ∧ W.cell? ⟨w.heap.size + 1, 1, none⟩ = some u := by
  obtain ⟨_, _, h3, h4⟩ := h
  exact ⟨(cells2 h3).1, (cells2 h3).2, (cells2 h4).1, (cells2 h4).2⟩
theorem Base2.new (w : World) (n : Int) (v : Value) (k : Int) (u : Value) : Base2 w (box2 w n v k u) n v k u := by
  obtain ⟨y0, y1⟩ := box2_blocks (Below.refl _ (box2 w n v k u))
  exact ⟨box2_below w n v k u, by rw [box2_size]; exact Nat.le_refl _, y0, y1⟩
theorem lit_fam : Fam 2 [1, 2] := ⟨by decide, by decide⟩
theorem lit_bas : Bas [1, 2] := (bas_iff (by decide)).2 ⟨by decide, by decide +kernel, by decide +kernel⟩
theorem minE_val (s : Option (Nat × Nat)) : (s.isSome = true ∧ minE s = 0) ∨ (s.isSome = false ∧ minE s = 5) := by cases s <;> simp [minE]
theorem minE_zero {s : Option (Nat × Nat)} (h : s.isSome = true) : minE s = 0 := by unfold minE; rw [if_pos h]
theorem setB_nat {m : Nat} {s : Int} (h : setB m s = true) : ∃ sn : Nat, s = sn ∧ sn < 2 ^ m := by
  unfold setB at h
  rw [decide_eq_true_eq, Int.toNat_natCast] at h
  obtain ⟨_, _, h3, h4⟩ := h
  obtain ⟨sn, rfl⟩ := Int.eq_ofNat_of_zero_le h3
  have e : ((2 ^ m : Nat) : Int) = (2 : Int) ^ m := by simp
  exact ⟨sn, rfl, by omega⟩
theorem box_more (w : World) (n : Int) (v : Value) : Below w.heap.size w (w.alloc (.cells #[.int .i64 n, v] 24)) ∧ (w.alloc (.cells #[.int .i64 n, v] 24)).cell? ⟨w.heap.size, 0, none⟩ = some (.int .i64 n) ∧ (w.alloc (.cells #[.int .i64 n, v] 24)).cell? ⟨w.heap.size, 1, none⟩ = some v :=
  ⟨(Below.refl _ _).alloc (Nat.le_refl _) _, cells2 (World.alloc_heap_new w _)⟩
set_option maxRecDepth 100000 in
set_option maxHeartbeats 2000000 in
theorem sminors_bad (n : Int) (v : Value) (zs : List Int) (k : Int) (u : Value) (ys : List Int) (d c : Int) (w : World) (h : Ints w v zs) (h' : Ints w u ys) (hc : chk2 n zs k ys ≠ 0) :
    Calls Try.prog 5 #[.agg #[.int .i64 n, v], .agg #[.int .i64 k, u], .int .i64 d, .int .i64 c] w fun e w' => e = .returned (.bool true) ∧ Below w.heap.size w w' := by
  have HM1 := hid (fun w' (hb : Below w.heap.size w w') => Minor_bad n k v u zs ys w' (h.below hb) (h'.below hb) hc)
  have CA := hid (fun w' (hb : Below w.heap.size w w') => check_any n v zs w' (h.below hb))
  have CB := hid (fun w' (hb : Below w.heap.size w w') => check_any k u ys w' (h'.below hb))
  have HQ : Hid (chk2 n zs k ys = if chkR n zs = 0 then chkR k ys else chkR n zs) := rfl
  have HC := hid hc
  obtain ⟨a0, c0, rfl, -, -⟩ := h
  obtain ⟨a1, c1, rfl, -, -⟩ := h'
  generalize chkR n zs = qE at *
  generalize chkR k ys = qK at *
  generalize chk2 n zs k ys = q at *
  have hq0 : (q == 0) = false := by simp [hc]
  have hq1 : (q != 0) = true := by simp [hc]
  clear hc
  have hw2 : (w.alloc (.cells #[.int .i64 n, .slice a0 zs.length c0] 24)).alloc (.cells #[.int .i64 k, .slice a1 ys.length c1] 24) = box2 w n (.slice a0 zs.length c0) k (.slice a1 ys.length c1) := rfl
  have S0 := hid (Base2.new w n (.slice a0 zs.length c0) k (.slice a1 ys.length c1))
  generalize box2 w n (.slice a0 zs.length c0) k (.slice a1 ys.length c1) = W2 at *
  go_enter Try.func5, Try.ntmps5
  go_wp2_with fail
  refine (two_any _).mono ?_
  rintro e w5 ⟨v5, rfl, hi5, hb5⟩
  have S5 := hid (S0.out.next hb5)
  have b6 : Below w5.heap.size w5 (w5.alloc (.cells #[.int .i64 1, .int .i64 2] 3)) := (Below.refl _ _).alloc (Nat.le_refl _) _
  have li : Ints (w5.alloc (.cells #[.int .i64 1, .int .i64 2] 3)) (.slice (some ⟨w5.heap.size, 0, none⟩) 2 2) (N [1, 2]) := litsAt w5 [1, 2]
  have S6 := hid (S5.out.next b6)
  have M0 := hid (Minor_ok 4 2 v5 _ twoL [1, 2] _ (by decide) two_fam two_bas (hi5.below b6) (by decide) lit_fam lit_bas li)
  rw [show minO 4 twoL 2 [1, 2] = some (1, 2) from two_min] at M0
  have e0 : minE (some (1, 2)) = 0 := rfl
  obtain ⟨a5, c5, rfl, -, -⟩ := hi5
  clear hb5 b6 li S0 S5 hw2
  go_wp2_with fail
  refine M0.out.mono ?_
  rintro e w7 ⟨rfl, hb7⟩
  have S7 := hid (S6.out.next hb7)
  have N1 := hid (HM1.out w7 S7.out.1)
  clear hb7 S6 M0 e0
  obtain ⟨z0, z1, z2, z3⟩ := S7.out.cells
  go_wp2_with fail
  refine N1.out.mono ?_
  rintro e w8 ⟨rfl, hb8⟩
  have S8 := hid (S7.out.next hb8)
  clear hb8 S7 N1 HM1 z0 z1 z2 z3
  obtain ⟨z0, z1, z2, z3⟩ := S8.out.cells
  have A1 := hid (CA.out w8 S8.out.1)
  by_cases hE : qE = 0
  · have hK : qK ≠ 0 := fun e => HC.out (by rw [HQ.out, if_pos hE, e])
    have hE' : (qE != 0) = false := by simp [hE]
    have hK' : (qK != 0) = true := by simp [hK]
    clear hE hK HQ HC
    go_wp2_with fail
    refine A1.out.mono ?_
    rintro e w9 ⟨rfl, hb9⟩
    have S9 := hid (S8.out.next hb9)
    have A2 := hid (CB.out w9 S9.out.1)
    clear hb9 S8 A1 z0 z1 z2 z3
    obtain ⟨z0, z1, z2, z3⟩ := S9.out.cells
    go_wp2_with fail
    refine A2.out.mono ?_
    rintro e w10 ⟨rfl, hb10⟩
    have S10 := hid (S9.out.next hb10)
    clear hb10 S9 A2 z0 z1 z2 z3
    go_wp2_with fail
    go_ret
    exact ⟨rfl, S10.out.1⟩
  · have hE' : (qE != 0) = true := by simp [hE]
    clear hE HQ HC
    go_wp2_with fail
    refine A1.out.mono ?_
    rintro e w9 ⟨rfl, hb9⟩
    have S9 := hid (S8.out.next hb9)
    clear hb9 S8 A1 z0 z1 z2 z3
    go_wp2_with fail
    go_ret
    exact ⟨rfl, S9.out.1⟩
set_option maxRecDepth 100000 in
set_option maxHeartbeats 4000000 in
theorem sminors_good (m : Nat) (v : Value) (l : List Nat) (k : Nat) (u : Value) (l' : List Nat) (d c : Int) (w : World) (h : Ints w v (N l)) (h' : Ints w u (N l')) (hm : m ≤ 8) (hf : Fam m l) (hb : Bas l) (hk : k ≤ 8) (hf' : Fam k l') (hb' : Bas l') :
    Calls Try.prog 5 #[.agg #[.int .i64 m, v], .agg #[.int .i64 k, u], .int .i64 d, .int .i64 c] w fun e w' => e = .returned (.bool true) ∧ Below w.heap.size w w' := by
  have HM1 := hid (fun w' (hb0 : Below w.heap.size w w') => Minor_ok m k v u l l' w' hm hf hb (h.below hb0) hk hf' hb' (h'.below hb0))
  have CA := hid (fun w' (hb0 : Below w.heap.size w w') => check_any m v (N l) w' (h.below hb0))
  rw [chk_mk hm hf hb] at CA
  have CB := hid (fun w' (hb0 : Below w.heap.size w w') => check_any k u (N l') w' (h'.below hb0))
  rw [chk_mk hk hf' hb'] at CB
  have DA := hid (fun w' (hb0 : Below w.heap.size w w') => Dual_ok m v l w' hm hf hb (h.below hb0))
  have DB := hid (fun w' (hb0 : Below w.heap.size w w') => Dual_ok k u l' w' hk hf' hb' (h'.below hb0))
  have MD := hid (fun v' u' w' (hi : Ints w' v' (N (cmp m l))) (hi' : Ints w' u' (N (cmp k l'))) => Minor_ok m k v' u' (cmp m l) (cmp k l') w' hm (cmp_fam hf) (dual_bas hm hf hb) hi hk (cmp_fam hf') (dual_bas hk hf' hb') hi')
  have HDU := hid (min_dual hm hf hb hk hf' hb')
  have HFO := hid (fun x y => min_found (m := m) (k := k) (x := x) (y := y) (A := l) (B := l') hm)
  have DE := hid (fun x w' (hb0 : Below w.heap.size w w') (hx : x < 2 ^ m) => Delete_ok m x v l w' hm hf hb (h.below hb0) hx)
  have CO := hid (fun x z v' w' (hi : Ints w' v' (N (minL m l x 0))) (hz : z < 2 ^ pop (dif (2 ^ m - 1) x)) => Contract_ok (pop (dif (2 ^ m - 1) x)) z v' (minL m l x 0) w' (kept_le hm x) (min_fam _ _ _ _) (min_bas hm hb x 0) hi hz)
  have IS := hid (fun x z v' w' (hi : Ints w' v' (N (minL (pop (dif (2 ^ m - 1) x)) (minL m l x 0) z z))) (hb0 : Below w.heap.size w w') => Isomorphic_ok (pop (dif (2 ^ pop (dif (2 ^ m - 1) x) - 1) z)) k v' u (minL (pop (dif (2 ^ m - 1) x)) (minL m l x 0) z z) l' w' (kept_le (kept_le hm x) z) (min_fam _ _ _ _) (min_bas (kept_le hm x) (min_bas hm hb x 0) z z) hi hk hf' hb' (h'.below hb0))
  have MS := hid (fun x z v' w' (hi : Ints w' v' (N (minL (pop (dif (2 ^ m - 1) x)) (minL m l x 0) z z))) (hb0 : Below w.heap.size w w') => Minor_ok m (pop (dif (2 ^ pop (dif (2 ^ m - 1) x) - 1) z)) v v' l (minL (pop (dif (2 ^ m - 1) x)) (minL m l x 0) z z) w' hm hf hb (h.below hb0) (kept_le (kept_le hm x) z) (min_fam _ _ _ _) (min_bas (kept_le hm x) (min_bas hm hb x 0) z z) hi)
  have HSE := hid (fun x z (hz : z < 2 ^ pop (dif (2 ^ m - 1) x)) => min_self (A := l) hm hb hz)
  have HL1 : Hid (∀ x, (minL m l x 0).length ≤ 256) := fun x => fam_len (kept_le hm x) (min_fam _ _ _ _)
  have HL2 : Hid (∀ x z, (minL (pop (dif (2 ^ m - 1) x)) (minL m l x 0) z z).length ≤ 256) := fun x z => fam_len (kept_le (kept_le hm x) z) (min_fam _ _ _ _)
  have HLD : Hid ((cmp m l).length ≤ 256 ∧ (cmp k l').length ≤ 256) := ⟨fam_len hm (cmp_fam hf), fam_len hk (cmp_fam hf')⟩
  have SH := hid (fun x y w' (hx : x < 256) (hy : y < 256) => Shifted_any m x y w' hm hx hy)
  have h2m := (pow_wrap m hm).2
  obtain ⟨a0, c0, hv, -, -⟩ := h.nats
  obtain ⟨a1, c1, hu, -, -⟩ := h'.nats
  subst hv
  subst hu
  clear hf hb hf' hb' h h'
  generalize cmp m l = lD at *
  generalize cmp k l' = lD' at *
  generalize minO m l k l' = MO at *
  generalize minO m lD k lD' = MP at *
  have hw2 : (w.alloc (.cells #[.int .i64 m, .slice a0 l.length c0] 24)).alloc (.cells #[.int .i64 k, .slice a1 l'.length c1] 24) = box2 w m (.slice a0 l.length c0) k (.slice a1 l'.length c1) := rfl
  have S0 := hid (Base2.new w m (.slice a0 l.length c0) k (.slice a1 l'.length c1))
  generalize box2 w m (.slice a0 l.length c0) k (.slice a1 l'.length c1) = W2 at *
  go_enter Try.func5, Try.ntmps5
  go_wp2_with fail
  refine (two_any _).mono ?_
  rintro e w5 ⟨v5, rfl, hi5, hb5⟩
  have S5 := hid (S0.out.next hb5)
  have b6 : Below w5.heap.size w5 (w5.alloc (.cells #[.int .i64 1, .int .i64 2] 3)) := (Below.refl _ _).alloc (Nat.le_refl _) _
  have li : Ints (w5.alloc (.cells #[.int .i64 1, .int .i64 2] 3)) (.slice (some ⟨w5.heap.size, 0, none⟩) 2 2) (N [1, 2]) := litsAt w5 [1, 2]
  have S6 := hid (S5.out.next b6)
  have M0 := hid (Minor_ok 4 2 v5 _ twoL [1, 2] _ (by decide) two_fam two_bas (hi5.below b6) (by decide) lit_fam lit_bas li)
  rw [show minO 4 twoL 2 [1, 2] = some (1, 2) from two_min] at M0
  have e0 : minE (some (1, 2)) = 0 := rfl
  obtain ⟨a5, c5, rfl, -, -⟩ := hi5
  clear hb5 b6 li S0 S5 hw2
  go_wp2_with fail
  refine M0.out.mono ?_
  rintro e w7 ⟨rfl, hb7⟩
  have S7 := hid (S6.out.next hb7)
  have N1 := hid (HM1.out w7 S7.out.1)
  clear hb7 S6 M0 e0
  obtain ⟨z0, z1, z2, z3⟩ := S7.out.cells
  go_wp2_with fail
  refine N1.out.mono ?_
  rintro e w8 ⟨rfl, hb8⟩
  have S8 := hid (S7.out.next hb8)
  clear hb8 S7 N1 HM1 z0 z1 z2 z3
  go_upto_if 61 with fail
  go_cut [] from 62 to 99 (fun W => Hid (Below w8.heap.size w8 W))
  case first =>
    rcases MO with _ | ⟨x, y⟩
    · have e5 : minE none = 5 := rfl
      clear CA CB DA DB MD HFO DE CO IS MS HSE HL1 HL2 SH
      go_wp2_with fail
      go_meet
      exact Below.refl _ _
    · obtain ⟨hx, hxy, hy, z, hz, hsh, hiso⟩ := HFO.out x y rfl
      have e0 : minE (some (x, y)) = 0 := rfl
      have hand : bits .and .i64 (x : Int) (y : Int) = 0 := by rw [i64_and_nat _ _ (by omega) (by omega), hxy]; rfl
      have SH1 := hid (fun w' => SH.out x y w' (by omega) (by omega))
      rw [hsh] at SH1
      have D1 := hid (DE.out x w8 S8.out.1 hx)
      have C1 := hid (fun v' w' hi => CO.out x z v' w' hi hz)
      have I1 := hid (fun v' w' hi hb0 => IS.out x z v' w' hi hb0)
      have l1 := HL1.out x
      have l2 := HL2.out x z
      have HIS := hid hiso
      clear CA CB DA DB MD HFO DE CO IS MS HSE HL1 HL2 SH hxy hiso hsh hz
      generalize pop (dif (2 ^ pop (dif (2 ^ m - 1) x) - 1) z) = KM at *
      generalize minL (pop (dif (2 ^ m - 1) x)) (minL m l x 0) z z = LM at *
      generalize minL m l x 0 = L1 at *
      generalize pop (dif (2 ^ m - 1) x) = K at *
      generalize (isoK KM LM k l').head? = IH at *
      obtain ⟨z0, z1, z2, z3⟩ := S8.out.cells
      go_wp2_with fail
      refine D1.out.mono ?_
      rintro e w9 ⟨r9, rfl, ho9, hb9⟩
      obtain ⟨b10, y0, y1⟩ := box_more w9 K r9
      have h910 := hb9.trans (b10.mono hb9.size)
      have S10 := hid (S8.out.next h910)
      have S9 := hid (S8.out.next hb9)
      have hlw9 : w.heap.size < w9.heap.size := by have := S9.out.2.1; omega
      obtain ⟨k0, -, -, -⟩ := S9.out.cells
      have I10 := hid ((ho9.below b10).ints (by omega))
      obtain ⟨ra, rc, hr9⟩ := ownsRow_form' ho9
      subst hr9
      have H10 := hid h910
      have hs10 := h910.size
      have hlt9 : w9.heap.size < (w9.alloc (.cells #[.int .i64 K, .slice ra L1.length rc] 24)).heap.size := by simp
      have hsw := S10.out.2.1
      clear D1 ho9 hb9 b10 h910 z0 z1 z2 z3
      obtain ⟨z0, z1, z2, z3⟩ := S10.out.cells
      clear z1 z2 z3
      go_upto_region 7 with fail
      go_cut [17, 18] from 68 to 77 (fun b f W => ∃ bM r, b = .pointer (some ⟨bM, 0, none⟩) ∧ f = .int .i64 0 ∧ Hid (W.heap[bM]? = some (.cells #[.int .i64 KM, r] 24 (0, 0))) ∧ Hid (Own (w9.alloc (.cells #[.int .i64 K, .slice ra L1.length rc] 24)).heap.size W r LM) ∧ Hid (Below (w9.alloc (.cells #[.int .i64 K, .slice ra L1.length rc] 24)).heap.size (w9.alloc (.cells #[.int .i64 K, .slice ra L1.length rc] 24)) W))
      case first =>
        have CX := hid (fun w' (hb0 : Below (w9.alloc (.cells #[.int .i64 K, .slice ra L1.length rc] 24)).heap.size (w9.alloc (.cells #[.int .i64 K, .slice ra L1.length rc] 24)) w') => C1.out _ w' (I10.out.below hb0))
        have hA : Hid (Below (w9.alloc (.cells #[.int .i64 K, .slice ra L1.length rc] 24)).heap.size (w9.alloc (.cells #[.int .i64 K, .slice ra L1.length rc] 24)) (w9.alloc (.cells #[.int .i64 K, .slice ra L1.length rc] 24)).drew) := (Below.refl _ _).drew
        have hB : Hid (Below (w9.alloc (.cells #[.int .i64 K, .slice ra L1.length rc] 24)).heap.size (w9.alloc (.cells #[.int .i64 K, .slice ra L1.length rc] 24)) ((w9.alloc (.cells #[.int .i64 K, .slice ra L1.length rc] 24)).alloc (.cells #[.int .i64 0, .slice none 0 0] 24)).drew) := ((Below.refl _ _).alloc (Nat.le_refl _) _).drew
        have zB : Hid ((w9.alloc (.cells #[.int .i64 K, .slice ra L1.length rc] 24)).heap.size < ((w9.alloc (.cells #[.int .i64 K, .slice ra L1.length rc] 24)).alloc (.cells #[.int .i64 0, .slice none 0 0] 24)).drew.heap.size ∧ ((w9.alloc (.cells #[.int .i64 K, .slice ra L1.length rc] 24)).alloc (.cells #[.int .i64 0, .slice none 0 0] 24)).drew.heap[(w9.alloc (.cells #[.int .i64 K, .slice ra L1.length rc] 24)).heap.size]? = some (.cells #[.int .i64 0, .slice none 0 0] 24 (0, 0))) := ⟨by show _ < ((w9.alloc (.cells #[.int .i64 K, .slice ra L1.length rc] 24)).alloc (.cells #[.int .i64 0, .slice none 0 0] 24)).heap.size; simp, World.alloc_heap_new (w9.alloc (.cells #[.int .i64 K, .slice ra L1.length rc] 24)) _⟩
        have zD : Hid (((w9.alloc (.cells #[.int .i64 K, .slice ra L1.length rc] 24)).alloc (.cells #[.int .i64 0, .slice none 0 0] 24)).drew.heap[w9.heap.size + 1]? = some (.cells #[.int .i64 0, .slice none 0 0] 24 (0, 0))) := by have := zB.out.2; rw [World.size_alloc] at this; exact this
        have zC : Hid (w9.heap.size < (w9.alloc (.cells #[.int .i64 K, .slice ra L1.length rc] 24)).heap.size) := by show _ < _; simp
        have q1 : ¬ w.heap.size = w9.heap.size + 1 := by omega
        have q2 : ¬ w9.heap.size + 1 = w.heap.size := by omega
        clear C1 I1 HIS
        go_region_held3 (fun w' => w'.cell? ⟨w9.heap.size, 0, none⟩ = some (.int .i64 K) ∧ w'.cell? ⟨w9.heap.size, 1, none⟩ = some (.slice ra L1.length rc) ∧ w'.cell? ⟨w.heap.size, 0, none⟩ = some (.int .i64 m)) (go_keep)
         (first
          | (go_at_call 25; refine (SH1.out _).mono ?_; rintro e w' ⟨rfl, hw'⟩; obtain rfl := hw'.symm)
          | (go_at_call 24; refine (CX.out _ hA.out).mono ?_; rintro e w11 ⟨r11, rfl, ho11, hb11⟩; have H11 := hid (hA.out.trans (hb11.mono hA.out.size)); have O11 := hid (ho11.mono hA.out.size); have t0 := (H11.out.cell (p := ⟨w9.heap.size, 0, none⟩) zC.out).trans y0; have t1 := (H11.out.cell (p := ⟨w9.heap.size, 1, none⟩) zC.out).trans y1; have t2 := (H11.out.cell (p := ⟨w.heap.size, 0, none⟩) (Nat.lt_trans hlw9 zC.out)).trans z0; have n11 := hid (World.alloc_heap_new w11 (.cells #[.int .i64 KM, r11] 24)); obtain ⟨rb, rd, hr11⟩ := ownsRow_form' ho11; subst hr11; clear ho11 hb11)
          | (go_at_call 24; refine (CX.out _ hB.out).mono ?_; rintro e w11 ⟨r11, rfl, ho11, hb11⟩; have H11 := hid (hB.out.trans (hb11.mono hB.out.size)); have O11 := hid (ho11.mono hB.out.size); have OB := hid ho11; have t0 := (H11.out.cell (p := ⟨w9.heap.size, 0, none⟩) zC.out).trans y0; have t1 := (H11.out.cell (p := ⟨w9.heap.size, 1, none⟩) zC.out).trans y1; have t2 := (H11.out.cell (p := ⟨w.heap.size, 0, none⟩) (Nat.lt_trans hlw9 zC.out)).trans z0; have n12 : w11.heap[w9.heap.size + 1]? = some (.cells #[.int .i64 0, .slice none 0 0] 24 (0, 0)) := (hb11.block (w9.heap.size + 1) (by have := zB.out.1; rw [World.size_alloc] at this; exact this)).trans zD.out; have N12 := hid n12; obtain ⟨s0, s1, s2, s3⟩ := two_cells n12; obtain ⟨rb, rd, hr11⟩ := ownsRow_form' ho11; subst hr11; clear ho11 hb11 n12))
        all_goals first
          | (go_wp2_with fail; go_meet; exact ⟨w11.heap.size, _, rfl, rfl, n11, O11.out.below ((Below.refl _ _).alloc (Nat.le_refl _) _), H11.out.alloc H11.out.size _⟩)
          | (go_wp2_with fail; go_meet; exact ⟨w9.heap.size + 1, _, rfl, rfl, set_one (set_nil N12.out), (OB.out.set2 (by show w9.heap.size + 1 < ((w9.alloc (.cells #[.int .i64 K, .slice ra L1.length rc] 24)).alloc (.cells #[.int .i64 0, .slice none 0 0] 24)).heap.size; simp)).mono hB.out.size, below_two H11.out (by rw [World.size_alloc]; exact Nat.le_refl _)⟩)
      case rest =>
        obtain ⟨bM, r11, rfl, rfl, YM, OM, BM⟩ := hcut
        have S12 := hid (S10.out.next BM.out)
        have I2 := hid (I1.out r11 wc (OM.out.ints (by omega)) S12.out.1)
        obtain ⟨m0, m1⟩ := cells2 YM.out
        obtain ⟨rb, rd, hr11⟩ := ownsRow_form' OM.out
        subst hr11
        have H12 := hid (H10.out.trans (BM.out.mono hs10))
        clear z0 y0 y1 C1 I1 SH1 I10
        obtain ⟨z0, z1, z2, z3⟩ := S12.out.cells
        go_wp2_with fail
        refine I2.out.mono ?_
        rintro e w13 ⟨r13, rfl, ho13, hb13⟩
        have H13 := hid (H12.out.trans (hb13.mono H12.out.size))
        obtain ⟨rg, rh, hr13⟩ := ownsRow_form' ho13
        subst hr13
        have ha : ansE IH = 0 := by unfold ansE; rw [if_pos HIS.out]
        clear ho13 hb13 I2 z0 z1 z2 z3 m0 m1
        go_wp2_with fail
        go_meet
        exact H13
  case rest =>
    have S9 := hid (S8.out.next hcut.out)
    clear S8 hcut HFO IS
    have A1 := hid (CA.out wc S9.out.1)
    clear CA
    generalize wc = w9 at *
    obtain ⟨z0, z1, z2, z3⟩ := S9.out.cells
    go_wp2_with fail
    refine A1.out.mono ?_
    rintro e w10 ⟨rfl, hb10⟩
    have S10 := hid (S9.out.next hb10)
    have A2 := hid (CB.out w10 S10.out.1)
    clear A1 hb10 S9 CB z0 z1 z2 z3
    obtain ⟨z0, z1, z2, z3⟩ := S10.out.cells
    go_wp2_with fail
    refine A2.out.mono ?_
    rintro e w11 ⟨rfl, hb11⟩
    have S11 := hid (S10.out.next hb11)
    have D1 := hid (DA.out w11 S11.out.1)
    clear A2 hb11 S10 DA z0 z1 z2 z3
    obtain ⟨z0, z1, z2, z3⟩ := S11.out.cells
    go_wp2_with fail
    refine D1.out.mono ?_
    rintro e w12 ⟨r12, rfl, ho12, hb12⟩
    obtain ⟨b13, y0, y1⟩ := box_more w12 m r12
    have h13 := hb12.trans (b13.mono hb12.size)
    have S13 := hid (S11.out.next h13)
    have O13 := hid (ho12.below b13)
    have D2 := hid (DB.out _ S13.out.1)
    have Y13 := hid (World.alloc_heap_new w12 (.cells #[.int .i64 m, r12] 24))
    have z13 := World.size_alloc w12 (.cells #[.int .i64 m, r12] 24)
    obtain ⟨ra, rc, hr12⟩ := ownsRow_form' ho12
    subst hr12
    have S12 := hid (S11.out.next hb12)
    have hlw : w.heap.size + 1 < w12.heap.size := by have := S12.out.2.1; omega
    clear D1 ho12 hb12 b13 h13 S11 DB z0 z1 z2 z3 y0 y1
    obtain ⟨z0, z1, z2, z3⟩ := S13.out.cells
    obtain ⟨k0, k1, k2, k3⟩ := S12.out.cells
    go_wp2_with fail
    refine D2.out.mono ?_
    rintro e w14 ⟨r14, rfl, ho14, hb14⟩
    obtain ⟨b15, y0, y1⟩ := box_more w14 k r14
    have h15 := hb14.trans (b15.mono hb14.size)
    have S15 := hid (S13.out.next h15)
    have O15 := hid (ho14.below b15)
    have P15 := hid (O13.out.below h15)
    have Y15 := hid ((h15.block w12.heap.size (by omega)).trans Y13.out)
    have Y14 := hid ((hb14.block w12.heap.size (by omega)).trans Y13.out)
    have M1 := hid (MD.out _ r14 _ (P15.out.ints (by have := HLD.out.1; omega)) (O15.out.ints (by have := HLD.out.2; omega)))
    obtain ⟨rb, rd, hr14⟩ := ownsRow_form' ho14
    subst hr14
    have hlx : w12.heap.size < w14.heap.size := by have := hb14.size; omega
    obtain ⟨x0, x1⟩ := cells2 Y15.out
    obtain ⟨x2, x3⟩ := cells2 Y14.out
    clear D2 ho14 hb14 b15 h15 z0 z1 z2 z3 k0 k1 k2 k3 S12 S13 O13 Y13 MD
    go_wp2_with fail
    refine M1.out.mono ?_
    rintro e w16 ⟨rfl, hb16⟩
    have S16 := hid (S15.out.next hb16)
    have HEQ : Hid ((minE MO == 0) = (minE MP == 0)) := by
      show _ = _
      have h0 := HDU.out
      rcases minE_val MO with ⟨e1, e2⟩ | ⟨e1, e2⟩ <;> rcases minE_val MP with ⟨e3, e4⟩ | ⟨e3, e4⟩ <;> rw [e1, e3] at h0 <;> first | (simp at h0; done) | rw [e2, e4]
    have heq1 : (minE MP == 0) = (minE MO == 0) := HEQ.out.symm
    clear M1 hb16 S15 O15 P15 Y15 Y14 x0 x1 x2 x3 y0 y1 HDU HEQ HLD
    obtain ⟨z0, z1, z2, z3⟩ := S16.out.cells
    generalize minE MO = qa at *
    generalize minE MP = qb at *
    have IA := hid (fun w' => IsSet_any m d w')
    have IB := hid (fun w' => IsSet_any m c w')
    rcases hsd : setB m d with _ | _
    · rw [hsd] at IA
      clear CO DE MS HSE HL1 HL2 SH IB hsd
      go_wp2_with fail
      refine (IA.out _).mono ?_
      rintro e w' ⟨rfl, hw'⟩
      obtain rfl := hw'.symm
      go_wp2_with fail
      go_ret
      exact ⟨rfl, S16.out.1⟩
    · obtain ⟨dn, rfl, hdn⟩ := setB_nat hsd
      rw [hsd] at IA
      clear hsd
      rcases hsc : setB m c with _ | _
      · rw [hsc] at IB
        clear CO DE MS HSE HL1 HL2 SH hsc
        go_wp2_with fail
        refine (IA.out _).mono ?_
        rintro e w' ⟨rfl, hw'⟩
        obtain rfl := hw'.symm
        go_wp2_with fail
        refine (IB.out _).mono ?_
        rintro e w' ⟨rfl, hw'⟩
        obtain rfl := hw'.symm
        go_wp2_with fail
        go_ret
        exact ⟨rfl, S16.out.1⟩
      · obtain ⟨cn, rfl, hcn⟩ := setB_nat hsc
        rw [hsc] at IB
        have hand : bits .and .i64 (dn : Int) (cn : Int) = ((dn &&& cn : Nat) : Int) := i64_and_nat _ _ (by omega) (by omega)
        clear hsc
        by_cases h0 : dn &&& cn = 0
        · have h0' : (((dn &&& cn : Nat) : Int) != 0) = false := by rw [h0]; rfl
          have SH1 := hid (fun w' => SH.out dn cn w' (by omega) (by omega))
          have hz := shf_lt (k := dif (2 ^ m - 1) dn) cn
          have D1 := hid (DE.out dn w16 S16.out.1 hdn)
          generalize shf (els (dif (2 ^ m - 1) dn)) cn = z at *
          have C1 := hid (fun v' w' hi => CO.out dn z v' w' hi hz)
          have M2 := hid (fun v' w' hi hb0 => MS.out dn z v' w' hi hb0)
          have HSO := hid (HSE.out dn z hz)
          have l1 := HL1.out dn
          have l2 := HL2.out dn z
          clear DE CO MS HSE HL1 HL2 SH h0 hz
          generalize pop (dif (2 ^ pop (dif (2 ^ m - 1) dn) - 1) z) = KM at *
          generalize minL (pop (dif (2 ^ m - 1) dn)) (minL m l dn 0) z z = LM at *
          generalize minL m l dn 0 = L1 at *
          generalize pop (dif (2 ^ m - 1) dn) = K at *
          generalize minO m l KM LM = MQ at *
          have hE0 : minE MQ = 0 := minE_zero HSO.out
          clear HSO
          go_wp2_with fail
          refine (IA.out _).mono ?_
          rintro e w' ⟨rfl, hw'⟩
          obtain rfl := hw'.symm
          go_wp2_with fail
          refine (IB.out _).mono ?_
          rintro e w' ⟨rfl, hw'⟩
          obtain rfl := hw'.symm
          clear IA IB
          go_wp2_with fail
          refine D1.out.mono ?_
          rintro e w9 ⟨r9, rfl, ho9, hb9⟩
          obtain ⟨b10, y0, y1⟩ := box_more w9 K r9
          have h910 := hb9.trans (b10.mono hb9.size)
          have S10 := hid (S16.out.next h910)
          have S9 := hid (S16.out.next hb9)
          have hlw9 : w.heap.size < w9.heap.size := by have := S9.out.2.1; omega
          obtain ⟨k0, -, -, -⟩ := S9.out.cells
          have I10 := hid ((ho9.below b10).ints (by omega))
          obtain ⟨ra, rc, hr9⟩ := ownsRow_form' ho9
          subst hr9
          have hsw := S10.out.2.1
          clear D1 ho9 hb9 b10 h910 z0 z1 z2 z3
          obtain ⟨z0, z1, z2, z3⟩ := S10.out.cells
          clear z1 z2 z3
          go_upto_region 21 with fail
          go_cut [30, 31] from 164 to 173 (fun b f W => ∃ bM r, b = .pointer (some ⟨bM, 0, none⟩) ∧ f = .int .i64 0 ∧ Hid (W.heap[bM]? = some (.cells #[.int .i64 KM, r] 24 (0, 0))) ∧ Hid (Own (w9.alloc (.cells #[.int .i64 K, .slice ra L1.length rc] 24)).heap.size W r LM) ∧ Hid (Below (w9.alloc (.cells #[.int .i64 K, .slice ra L1.length rc] 24)).heap.size (w9.alloc (.cells #[.int .i64 K, .slice ra L1.length rc] 24)) W))
          case first =>
            have CX := hid (fun w' (hb0 : Below (w9.alloc (.cells #[.int .i64 K, .slice ra L1.length rc] 24)).heap.size (w9.alloc (.cells #[.int .i64 K, .slice ra L1.length rc] 24)) w') => C1.out _ w' (I10.out.below hb0))
            have hA : Hid (Below (w9.alloc (.cells #[.int .i64 K, .slice ra L1.length rc] 24)).heap.size (w9.alloc (.cells #[.int .i64 K, .slice ra L1.length rc] 24)) (w9.alloc (.cells #[.int .i64 K, .slice ra L1.length rc] 24)).drew) := (Below.refl _ _).drew
            have hB : Hid (Below (w9.alloc (.cells #[.int .i64 K, .slice ra L1.length rc] 24)).heap.size (w9.alloc (.cells #[.int .i64 K, .slice ra L1.length rc] 24)) ((w9.alloc (.cells #[.int .i64 K, .slice ra L1.length rc] 24)).alloc (.cells #[.int .i64 0, .slice none 0 0] 24)).drew) := ((Below.refl _ _).alloc (Nat.le_refl _) _).drew
            have zB : Hid ((w9.alloc (.cells #[.int .i64 K, .slice ra L1.length rc] 24)).heap.size < ((w9.alloc (.cells #[.int .i64 K, .slice ra L1.length rc] 24)).alloc (.cells #[.int .i64 0, .slice none 0 0] 24)).drew.heap.size ∧ ((w9.alloc (.cells #[.int .i64 K, .slice ra L1.length rc] 24)).alloc (.cells #[.int .i64 0, .slice none 0 0] 24)).drew.heap[(w9.alloc (.cells #[.int .i64 K, .slice ra L1.length rc] 24)).heap.size]? = some (.cells #[.int .i64 0, .slice none 0 0] 24 (0, 0))) := ⟨by show _ < ((w9.alloc (.cells #[.int .i64 K, .slice ra L1.length rc] 24)).alloc (.cells #[.int .i64 0, .slice none 0 0] 24)).heap.size; simp, World.alloc_heap_new (w9.alloc (.cells #[.int .i64 K, .slice ra L1.length rc] 24)) _⟩
            have zD : Hid (((w9.alloc (.cells #[.int .i64 K, .slice ra L1.length rc] 24)).alloc (.cells #[.int .i64 0, .slice none 0 0] 24)).drew.heap[w9.heap.size + 1]? = some (.cells #[.int .i64 0, .slice none 0 0] 24 (0, 0))) := by have := zB.out.2; rw [World.size_alloc] at this; exact this
            have zC : Hid (w9.heap.size < (w9.alloc (.cells #[.int .i64 K, .slice ra L1.length rc] 24)).heap.size) := by show _ < _; simp
            have q1 : ¬ w.heap.size = w9.heap.size + 1 := by omega
            have q2 : ¬ w9.heap.size + 1 = w.heap.size := by omega
            clear C1 M2
            go_region_held3 (fun w' => w'.cell? ⟨w9.heap.size, 0, none⟩ = some (.int .i64 K) ∧ w'.cell? ⟨w9.heap.size, 1, none⟩ = some (.slice ra L1.length rc) ∧ w'.cell? ⟨w.heap.size, 0, none⟩ = some (.int .i64 m)) (go_keep)
             (first
              | (go_at_call 25; refine (SH1.out _).mono ?_; rintro e w' ⟨rfl, hw'⟩; obtain rfl := hw'.symm)
              | (go_at_call 24; refine (CX.out _ hA.out).mono ?_; rintro e w11 ⟨r11, rfl, ho11, hb11⟩; have H11 := hid (hA.out.trans (hb11.mono hA.out.size)); have O11 := hid (ho11.mono hA.out.size); have t0 := (H11.out.cell (p := ⟨w9.heap.size, 0, none⟩) zC.out).trans y0; have t1 := (H11.out.cell (p := ⟨w9.heap.size, 1, none⟩) zC.out).trans y1; have t2 := (H11.out.cell (p := ⟨w.heap.size, 0, none⟩) (Nat.lt_trans hlw9 zC.out)).trans z0; have n11 := hid (World.alloc_heap_new w11 (.cells #[.int .i64 KM, r11] 24)); obtain ⟨rb, rd, hr11⟩ := ownsRow_form' ho11; subst hr11; clear ho11 hb11)
              | (go_at_call 24; refine (CX.out _ hB.out).mono ?_; rintro e w11 ⟨r11, rfl, ho11, hb11⟩; have H11 := hid (hB.out.trans (hb11.mono hB.out.size)); have O11 := hid (ho11.mono hB.out.size); have OB := hid ho11; have t0 := (H11.out.cell (p := ⟨w9.heap.size, 0, none⟩) zC.out).trans y0; have t1 := (H11.out.cell (p := ⟨w9.heap.size, 1, none⟩) zC.out).trans y1; have t2 := (H11.out.cell (p := ⟨w.heap.size, 0, none⟩) (Nat.lt_trans hlw9 zC.out)).trans z0; have n12 : w11.heap[w9.heap.size + 1]? = some (.cells #[.int .i64 0, .slice none 0 0] 24 (0, 0)) := (hb11.block (w9.heap.size + 1) (by have := zB.out.1; rw [World.size_alloc] at this; exact this)).trans zD.out; have N12 := hid n12; obtain ⟨s0, s1, s2, s3⟩ := two_cells n12; obtain ⟨rb, rd, hr11⟩ := ownsRow_form' ho11; subst hr11; clear ho11 hb11 n12))
            all_goals first
              | (go_wp2_with fail; go_meet; exact ⟨w11.heap.size, _, rfl, rfl, n11, O11.out.below ((Below.refl _ _).alloc (Nat.le_refl _) _), H11.out.alloc H11.out.size _⟩)
              | (go_wp2_with fail; go_meet; exact ⟨w9.heap.size + 1, _, rfl, rfl, set_one (set_nil N12.out), (OB.out.set2 (by show w9.heap.size + 1 < ((w9.alloc (.cells #[.int .i64 K, .slice ra L1.length rc] 24)).alloc (.cells #[.int .i64 0, .slice none 0 0] 24)).heap.size; simp)).mono hB.out.size, below_two H11.out (by rw [World.size_alloc]; exact Nat.le_refl _)⟩)
          case rest =>
            obtain ⟨bM, r11, rfl, rfl, YM, OM, BM⟩ := hcut
            have S12 := hid (S10.out.next BM.out)
            have M3 := hid (M2.out r11 wc (OM.out.ints (by omega)) S12.out.1)
            obtain ⟨m0, m1⟩ := cells2 YM.out
            obtain ⟨rb, rd, hr11⟩ := ownsRow_form' OM.out
            subst hr11
            clear z0 y0 y1 C1 M2 SH1 I10
            obtain ⟨z0, z1, z2, z3⟩ := S12.out.cells
            go_wp2_with fail
            refine M3.out.mono ?_
            rintro e w13 ⟨rfl, hb13⟩
            have S13 := hid (S12.out.next hb13)
            clear hb13 M3 z0 z1 z2 z3 m0 m1
            go_wp2_with fail
            go_ret
            exact ⟨rfl, S13.out.1⟩
        · have h0' : (((dn &&& cn : Nat) : Int) != 0) = true := by rw [bne_iff_ne]; omega
          clear CO DE MS HSE HL1 HL2 SH h0
          go_wp2_with fail
          refine (IA.out _).mono ?_
          rintro e w' ⟨rfl, hw'⟩
          obtain rfl := hw'.symm
          go_wp2_with fail
          refine (IB.out _).mono ?_
          rintro e w' ⟨rfl, hw'⟩
          obtain rfl := hw'.symm
          go_wp2_with fail
          go_ret
          exact ⟨rfl, S16.out.1⟩
theorem sminors_law (n : Int) (v : Value) (zs : List Int) (k : Int) (u : Value) (ys : List Int) (d c : Int) (w : World) (h : Ints w v zs) (h' : Ints w u ys) :
    Calls Try.prog 5 #[.agg #[.int .i64 n, v], .agg #[.int .i64 k, u], .int .i64 d, .int .i64 c] w fun e w' => e = .returned (.bool true) ∧ Below w.heap.size w w' := by
  by_cases hc : chk2 n zs k ys = 0
  · have h1 : chkR n zs = 0 := by
      unfold chk2 at hc
      split at hc
      · assumption
      · exact hc
    have h2 : chkR k ys = 0 := by
      unfold chk2 at hc
      rwa [if_pos h1] at hc
    obtain ⟨m, l, rfl, hm, rfl, hf, hb⟩ := chk_of h1
    obtain ⟨j, l', rfl, hj, rfl, hf', hb'⟩ := chk_of h2
    exact sminors_good m v l j u l' d c w h h' hm hf hb hj hf' hb'
  · exact sminors_bad n v zs k u ys d c w h h' hc
end Go.Proofs.Ythlmnhcnpffjdaa
