/- The walk of the law AxiomsMeet. -/
import Derived.Test.YthbldeloocmakaaRanksLawQ
import Derived.Test.YthbldeloocmakaaThoseQ
namespace Go.Proofs.Ythbldeloocmakaa
open Go.RowKit

theorem All_nat (n : Nat) (w : World) (hn : n ≤ 8) :
    Calls Try.prog 42 #[.int .i64 n] w fun e w' => e = .returned (.int .i64 ((2 ^ n - 1 : Nat) : Int)) ∧ w' = w := by
  have h1 := Nat.one_le_two_pow (n := n)
  refine (All_any n w hn).mono ?_
  rintro e w' ⟨rfl, rfl⟩
  exact ⟨ret_int (by omega), rfl⟩
theorem two_flats : ((List.range (2 ^ 4)).filter (flatB (rk twoL) 4)).length = 6 := by decide +kernel
/-- What the first j of them have that are around a. -/
def meetTo (m a : Nat) (l : List Nat) (j : Nat) : Nat := meetAll m a (l.take j)
theorem meetTo_succ {m a : Nat} {l : List Nat} {j : Nat} (h : j < l.length) : meetTo m a l (j + 1) = if subB a (l.getD j 0) = true then meetTo m a l j &&& l.getD j 0 else meetTo m a l j := by
  unfold meetTo meetAll
  rw [take_snoc h, List.foldl_append]
  rfl
theorem meetTo_lt {m : Nat} (hm : m ≤ 8) (a : Nat) (l : List Nat) (j : Nat) : meetTo m a l j < 256 := by
  have h : meetTo m a l j < 2 ^ m := lt_of_bits fun i hi => by
    unfold meetTo meetAll at hi
    rw [meets_bit, full_bit] at hi
    simp at hi
    exact hi.1
  exact lt256 hm h

set_option maxRecDepth 100000 in
set_option maxHeartbeats 4000000 in
theorem meet_law (n : Int) (v : Value) (zs : List Int) (w : World) (h : Ints w v zs) :
    Calls Try.prog 6 #[.agg #[.int .i64 n, v]] w fun e w' => e = .returned (.bool true) ∧ Below w.heap.size w w' := by
  have HI := hid h
  obtain ⟨a, cap, rfl, _, _⟩ := h
  have T2 := hid (fun w v (h : Ints w v (N twoL)) => Flats_ok 4 v twoL w (by omega) two_fam two_bas h)
  go_enter Try.func6, Try.ntmps6
  go_wp2_with fail
  refine (two_any _).mono ?_
  rintro e w1 ⟨v2, rfl, hv2, hb1⟩
  have X1 := hid (box_cells hb1)
  have B1 := hid ((below_box w #[.int .i64 n, .slice a zs.length cap]).trans (hb1.mono (below_box w #[.int .i64 n, .slice a zs.length cap]).size))
  have S1 : w.heap.size + 1 ≤ w1.heap.size := by have := hb1.size; simpa using this
  have C2 := hid (T2.out _ _ hv2)
  obtain ⟨a2, cap2, rfl, _, _⟩ := hv2
  clear hb1
  go_wp2_with fail
  refine C2.out.mono ?_
  rintro e w2 ⟨r2, rfl, hr2, hb2⟩
  have X2 := hid (box_back X1.out hb2 (by omega))
  have B2 := hid (B1.out.trans (hb2.mono B1.out.size))
  have S2 : w.heap.size + 1 ≤ w2.heap.size := Nat.le_trans S1 hb2.size
  obtain ⟨fa, fcap, rfl⟩ := hr2.form
  rw [two_flats] at *
  obtain ⟨x0, x1⟩ := X2.out
  clear hb2 hr2 T2 C2 X1
  go_wp2_with fail
  by_cases hc : chkR n zs = 0
  · obtain ⟨m, l, rfl, hm, rfl, hfam, hbas⟩ := chk_of hc
    have HM := hid (fun w' (hb : Below w.heap.size w w') => HI.out.below hb)
    have RK := hid hbas.rk
    have PW := hid (pow_wrap m hm).2
    have AL := hid (fun w => All_nat m w hm)
    have ML := hid (fun a l j => meetTo_lt hm a l j)
    refine (Flats_ok m _ l _ hm hfam hbas (HM.out _ B2.out)).mono ?_
    rintro e w3 ⟨u3, rfl, ho3, hb3⟩
    have X3 := hid (box_back X2.out hb3 (by omega))
    have B3 := hid (B2.out.trans (hb3.mono B2.out.size))
    have S3 : w.heap.size + 1 ≤ w3.heap.size := Nat.le_trans S2 hb3.size
    have I3 := hid (ho3.ints (Nat.le_trans (rg_le _ _) (Nat.le_trans PW.out (by omega))))
    obtain ⟨a3, cap3, rfl⟩ := ho3.form
    clear hb3 x0 x1 X2 ho3
    obtain ⟨x0, x1⟩ := X3.out
    go_wp2_with fail
    refine (Hyperplanes_ok m _ l _ hm hfam hbas (HM.out _ B3.out)).mono ?_
    rintro e w4 ⟨u4, rfl, ho4, hb4⟩
    have X4 := hid (box_back X3.out hb4 (by omega))
    have B4 := hid (B3.out.trans (hb4.mono B3.out.size))
    have S4 : w.heap.size + 1 ≤ w4.heap.size := Nat.le_trans S3 hb4.size
    have I4 := hid (ho4.ints (Nat.le_trans (rg_le _ _) (Nat.le_trans PW.out (by omega))))
    have J4 := hid (I3.out.below hb4)
    obtain ⟨a4, cap4, rfl⟩ := ho4.form
    clear hb4 x0 x1 X3 ho4 I3
    obtain ⟨x0, x1⟩ := X4.out
    obtain ⟨L, hL⟩ : ∃ L, (List.range (2 ^ m)).filter (flatB (rk l) m) = L := ⟨_, rfl⟩
    obtain ⟨H, hH⟩ : ∃ H, (List.range (2 ^ m)).filter (hypB (rk l) m) = H := ⟨_, rfl⟩
    have FL : Hid (∀ x ∈ L, x < 256 ∧ (∀ y ∈ L, memB (x &&& y) L = true) ∧ meetAll m x H = x) := fun x hx => by
      rw [← hL, List.mem_filter, List.mem_range] at hx
      refine ⟨lt256 hm hx.1, fun y hy => ?_, by rw [← hH]; exact RK.out.meets hm hx.1 hx.2⟩
      rw [← hL, List.mem_filter, List.mem_range] at hy
      unfold memB
      rw [← hL, decide_eq_true_iff, List.mem_filter, List.mem_range]
      exact ⟨Nat.lt_of_le_of_lt Nat.and_le_left hx.1, RK.out.meet hm hx.1 hy.1 hx.2 hy.2⟩
    have HY : Hid (∀ x ∈ H, x < 256) := fun x hx => by
      rw [← hH, List.mem_filter, List.mem_range] at hx
      exact lt256 hm hx.1
    rw [hL] at J4 ⊢
    rw [hH] at I4 ⊢
    obtain ⟨_, _, he1, hLl, hLc⟩ := J4.out.nats
    obtain ⟨_, _, he2, hHl, hHc⟩ := I4.out.nats
    simp only [Value.slice.injEq, true_and] at he1 he2
    obtain ⟨rfl, rfl⟩ := he1
    obtain ⟨rfl, rfl⟩ := he2
    go_wp2_with fail
    go_loopw [53] (fun i wr => ∃ k : Nat, k ≤ L.length ∧ i = .int .i64 k ∧ Below w4.heap.size w4 wr) (fun i _ => L.length - (intOf i).toNat)
    case atStart => exact ⟨0, Nat.zero_le _, rfl, Below.refl _ _⟩
    case round =>
      obtain ⟨k, hk, rfl, hn5⟩ := hrel
      by_cases hlt : k < L.length
      · obtain ⟨b, off, rfl, hb, hcell⟩ := hLc (by omega)
        have hck : wr.cell? ⟨b, off + k, none⟩ = some (.int .i64 (L.getD k 0 : Nat)) := (hn5.cell (p := ⟨b, off + k, none⟩) hb).trans (hcell k hlt)
        obtain ⟨f1, f2, f3⟩ := FL.out (L.getD k 0) (by simp [List.getD, hlt])
        have y0 : wr.cell? ⟨w.heap.size, 0, none⟩ = some (.int .i64 m) := (hn5.cell (p := ⟨w.heap.size, 0, none⟩) (by show w.heap.size < _; omega)).trans x0
        have F2 := hid f2
        have F3 := hid f3
        clear f2 f3 hLc
        generalize L.getD k 0 = x at hck f1 F2 F3
        go_wp2_with fail
        refine (AL.out _).mono ?_
        rintro e w5 ⟨rfl, rfl⟩
        generalize h20 : 2 ^ m - 1 = g0
        have G0 := hid h20
        clear h20
        go_wp2_with fail
        go_loopw [62] (fun i wr => ∃ j : Nat, j ≤ L.length ∧ i = .int .i64 j ∧ Below w4.heap.size w4 wr) (fun i _ => L.length - (intOf i).toNat)
        case atStart => exact ⟨0, Nat.zero_le _, rfl, hn5⟩
        case round =>
          obtain ⟨j, hj, rfl, hn6⟩ := hrel
          by_cases hlt2 : j < L.length
          · have hcj : wr.cell? ⟨b, off + j, none⟩ = some (.int .i64 (L.getD j 0 : Nat)) := (hn6.cell (p := ⟨b, off + j, none⟩) hb).trans (hcell j hlt2)
            have hjm : L.getD j 0 ∈ L := by simp [List.getD, hlt2]
            have g1 := (FL.out _ hjm).1
            have M2 := hid (F2.out _ hjm)
            clear hcell hjm
            generalize L.getD j 0 = y at *
            have hand : bits .and .i64 (x : Int) (y : Int) = ((x &&& y : Nat) : Int) := i64_and_nat _ _ (by omega) (by omega)
            have CN := hid (Contains_any _ L (x &&& y) _ (J4.out.below hn6))
            rw [M2.out] at CN
            go_wp2_with fail
            refine CN.out.mono ?_
            rintro e w7 ⟨rfl, rfl⟩
            go_wp2_with fail
            go_roundw
            case rel => exact ⟨j + 1, by omega, by go_num, hn6⟩
            case measure => simp [intOf]; omega
          · go_wp2_with fail
            go_loopw [11, 75] (fun u i wr => ∃ j : Nat, j ≤ H.length ∧ i = .int .i64 j ∧ u = .int .i64 (meetTo m x H j : Nat) ∧ Below w4.heap.size w4 wr) (fun _ i _ => H.length - (intOf i).toNat)
            case atStart => exact ⟨0, Nat.zero_le _, rfl, by rw [← G0.out]; rfl, hn6⟩
            case round =>
              obtain ⟨i, hi, rfl, rfl, hn7⟩ := hrel
              by_cases hlt3 : i < H.length
              · obtain ⟨hb0, hoff, rfl, hhb, hhc⟩ := hHc (by omega)
                have hci : wr.cell? ⟨hb0, hoff + i, none⟩ = some (.int .i64 (H.getD i 0 : Nat)) := (hn7.cell (p := ⟨hb0, hoff + i, none⟩) hhb).trans (hhc i hlt3)
                have g1 := HY.out (H.getD i 0) (by simp [List.getD, hlt3])
                have ST := hid (meetTo_succ (m := m) (a := x) hlt3)
                have m8 := ML.out x H i
                clear hhc hHc hcell
                generalize H.getD i 0 = z at *
                generalize meetTo m x H i = q at *
                have hand : bits .and .i64 (q : Int) (z : Int) = ((q &&& z : Nat) : Int) := i64_and_nat _ _ (by omega) (by omega)
                rcases hq : subB x z with _ | _
                · have HQ := hid hq
                  clear hq
                  go_wp2_with fail
                  refine (Within_any x z _ (by omega) (by omega)).mono ?_
                  rw [HQ.out]
                  rintro e w8 ⟨rfl, rfl⟩
                  go_wp2_with fail
                  go_roundw
                  case rel => exact ⟨i + 1, by omega, by go_num, by rw [ST.out, HQ.out]; rfl, hn7⟩
                  case measure => simp [intOf]; omega
                · have HQ := hid hq
                  clear hq
                  go_wp2_with fail
                  refine (Within_any x z _ (by omega) (by omega)).mono ?_
                  rw [HQ.out]
                  rintro e w8 ⟨rfl, rfl⟩
                  go_wp2_with fail
                  go_roundw
                  case rel => exact ⟨i + 1, by omega, by go_num, by rw [ST.out, HQ.out]; rfl, hn7⟩
                  case measure => simp [intOf]; omega
              · have hi' : i = H.length := by omega
                have E3 : Hid (meetTo m x H i = x) := by
                  show _ = _
                  unfold meetTo
                  rw [hi', List.take_length]
                  exact F3.out
                rw [E3.out] at *
                go_wp2_with fail
                go_roundw
                case rel => exact ⟨k + 1, by omega, by go_num, hn7⟩
                case measure => simp [intOf]; omega
      · go_wp2_with fail
        go_ret
        exact ⟨ret_bool (by simp), B4.out.trans (hn5.mono B4.out.size)⟩
  · refine (Flats_bad n _ zs _ (HI.out.below B2.out) hc).mono ?_
    rintro e w3 ⟨rfl, hb3⟩
    have X3 := hid (box_back X2.out hb3 (by omega))
    have B3 := hid (B2.out.trans (hb3.mono B2.out.size))
    have HP := hid (Hyperplanes_bad n _ zs _ (HI.out.below B3.out) hc)
    clear hb3 x0 x1 X2
    obtain ⟨x0, x1⟩ := X3.out
    generalize chkR n zs = q at *
    have hq : (q == 0) = false := by rw [beq_eq_false_iff_ne]; exact hc
    clear hc
    go_wp2_with fail
    refine HP.out.mono ?_
    rintro e w4 ⟨rfl, hb4⟩
    have B4 := hid (B3.out.trans (hb4.mono B3.out.size))
    clear hb4
    go_wp2_with fail
    go_ret
    exact ⟨ret_bool (by simp), B4.out⟩
end Go.Proofs.Ythbldeloocmakaa
