/- rotaref.Matroid answers what axioms.Check answers. -/
import Derived.Test.YtbfklamboicddaaRefAxCQ
import Derived.Test.YtbfklamboicddaaPlainAll
import Derived.Test.YtbfklamboicddaaQBelQ
namespace Go.Proofs.Ytbfklamboicddaa
open Go.RowKit

theorem chk_loc {m : Nat} {l : List Nat} (hm : m ≤ 8) (hf : Fam m l) (hne : l ≠ []) (h1 : oneB l = true) : chkR m (N l) = if locB m (rk l) = true then 0 else 3 := by
  have hx : locB m (rk l) = true ↔ exchB l = true := by
    rw [loc_iff hm hf hne (one_iff.1 h1), bas_iff (hf.lt256 hm)]
    exact ⟨fun h => h.2.2, fun h => ⟨hne, h1, h⟩⟩
  unfold chkR
  rw [fam_mk hm hf, N_back, h1]
  have : N l ≠ [] := fun e => hne (by unfold N at e; simpa using e)
  cases h : exchB l
  · have : locB m (rk l) = false := by
      cases h2 : locB m (rk l)
      · rfl
      · rw [hx.1 h2] at h; cases h
    simp [*]
  · have := hx.2 h
    simp [*]
/-- No two elements' ranks grow faster above s. -/
def goodB (r : Nat → Nat) (s i k : Nat) : Prop := r ((s ||| bt i) ||| (s ||| bt k)) + r ((s ||| bt i) &&& (s ||| bt k)) ≤ r (s ||| bt i) + r (s ||| bt k)
theorem loc_yes {n : Nat} {r : Nat → Nat} (h : ∀ s, s < 2 ^ n → ∀ i, i < n → ∀ k, k < n → goodB r s i k) : locB n r = true := by
  unfold locB
  simp only [List.all_eq_true, List.mem_range, Bool.not_eq_true', decide_eq_false_iff_not, Nat.not_lt]
  exact h
theorem loc_no {n : Nat} {r : Nat → Nat} {s i k : Nat} (hs : s < 2 ^ n) (hi : i < n) (hk : k < n) (h : ¬ goodB r s i k) : locB n r = false := by
  rw [Bool.eq_false_iff]
  intro hl
  unfold locB at hl
  simp only [List.all_eq_true, List.mem_range, Bool.not_eq_true', decide_eq_false_iff_not, Nat.not_lt] at hl
  exact h (hl s hs i hi k hk)

set_option maxRecDepth 100000 in
set_option maxHeartbeats 4000000 in
theorem Matroid_ref (n : Int) (v : Value) (zs : List Int) (w : World) (h : Ints w v zs) :
    Calls Try.prog 4 #[.agg #[.int .i64 n, v]] w fun e w' => e = .returned (.int .i64 (chkR n zs)) ∧ Below w.heap.size w w' := by
  have HI := hid h
  obtain ⟨a, cap, rfl, hlen, _⟩ := h
  have B0 := hid (below_box w #[.int .i64 n, .slice a zs.length cap])
  have IF := hid (IsFamily_any n _ zs _ (HI.out.below B0.out))
  rcases famR_01 n zs with h0 | h0
  · have F1 : famB n zs = true := by unfold famB; rw [h0]; rfl
    rw [F1] at IF
    obtain ⟨m, l, rfl, hm, rfl, hfam⟩ := fam_of h0
    have HL := hid (hfam.lt256 hm)
    have HF := hid hfam
    obtain ⟨q, HQ⟩ : ∃ q, Hid (chkR m (N l) = q) := ⟨_, rfl⟩
    rw [HQ.out]
    rw [N_len] at *
    clear h0 F1 hfam
    by_cases e : l = []
    · have E2 : Hid (q = 1) := by
        show _ = _
        rw [← HQ.out]
        subst e
        unfold chkR
        rw [fam_mk hm HF.out]
        simp [N]
      subst e
      go_enter Try.func4, Try.ntmps4
      go_wp2_with fail
      refine IF.out.mono ?_
      rintro e w1 ⟨rfl, hb1⟩
      obtain ⟨x0, x1⟩ := box_cells hb1
      have B1 := hid (B0.out.trans (hb1.mono B0.out.size))
      clear hb1
      go_wp2_with fail
      go_ret
      exact ⟨ret_int (by rw [E2.out]), B1.out⟩
    · have HNE := hid e
      have hpos : 0 < l.length := List.length_pos_iff.2 e
      have hpos' : ((l.length : Int) == 0) = false := by rw [beq_eq_false_iff_ne]; omega
      clear e
      go_enter Try.func4, Try.ntmps4
      go_wp2_with fail
      refine IF.out.mono ?_
      rintro e w1 ⟨rfl, hb1⟩
      have X1 := hid (box_cells hb1)
      have B1 := hid (B0.out.trans (hb1.mono B0.out.size))
      have S1 : w.heap.size + 1 ≤ w1.heap.size := by have := hb1.size; simpa using this
      clear hb1
      obtain ⟨x0, x1⟩ := X1.out
      have I1 := hid (HI.out.below B1.out)
      obtain ⟨_, _, he1, _, hc⟩ := I1.out.nats
      simp only [Value.slice.injEq, true_and] at he1
      obtain ⟨rfl, rfl⟩ := he1
      obtain ⟨b, off, rfl, hb, hcell⟩ := hc hpos
      clear hc
      go_wp2_with fail
      go_loopw [3] (fun i wr => ∃ k : Nat, k ≤ l.length ∧ i = .int .i64 k ∧ Hid (oneB l = (l.drop k).all fun s => pop s == pop (l.getD 0 0)) ∧ Below w1.heap.size w1 wr) (fun i _ => l.length - (intOf i).toNat)
      case atStart => exact ⟨0, Nat.zero_le _, rfl, rfl, Below.refl _ _⟩
      case round =>
        obtain ⟨k, hk, rfl, R, hn2⟩ := hrel
        have y1 : wr.cell? ⟨w.heap.size, 1, none⟩ = some (.slice (some ⟨b, off, none⟩) l.length cap) := (hn2.cell (p := ⟨w.heap.size, 1, none⟩) (by show w.heap.size < _; omega)).trans x1
        by_cases hlt : k < l.length
        · have D := hid (all_drop (p := fun s => pop s == pop (l.getD 0 0)) hlt)
          have c1 : ∀ x : Later wr, x.now.cell? ⟨b, off + k, none⟩ = some (.int .i64 (l.getD k 0 : Nat)) := fun x => (x.kept.cell (p := ⟨b, off + k, none⟩) (by show b < _; have := hn2.size; omega)).trans ((hn2.cell (p := ⟨b, off + k, none⟩) hb).trans (hcell k hlt))
          have c0 : ∀ x : Later wr, x.now.cell? ⟨b, off, none⟩ = some (.int .i64 (l.getD 0 0 : Nat)) := fun x => (x.kept.cell (p := ⟨b, off, none⟩) (by show b < _; have := hn2.size; omega)).trans ((hn2.cell (p := ⟨b, off, none⟩) hb).trans (hcell 0 hpos))
          have c2 : ∀ x : Later wr, x.now.cell? ⟨w.heap.size, 1, none⟩ = some (.slice (some ⟨b, off, none⟩) l.length cap) := fun x => (x.kept.cell (p := ⟨w.heap.size, 1, none⟩) (by show w.heap.size < _; have := hn2.size; omega)).trans y1
          have hx := getD_lt HL.out k
          have hz := getD_lt HL.out 0
          have hpx := pop_le _ hx
          have hpz := pop_le _ hz
          generalize l.getD k 0 = x at *
          generalize l.getD 0 0 = z at *
          by_cases h1 : pop x = pop z
          · have H1 := hid h1
            have h1' : ((pop x : Int) != (pop z : Int)) = false := by rw [h1]; simp
            clear h1
            go_wp2_with fail
            refine region_later (by kernel_rfl) (by kernel_rfl) ?_
            repeat (go_big_quiet_step ((go_at_call 11; refine (Size_any _ _ (by assumption)).mono ?_; rintro e w' ⟨rfl, hb⟩; exact ⟨rfl, Later.on _ hb⟩)))
            refine wpQuiet_nil ?_
            intro w3 hw'
            obtain ⟨⟨y3, hb3⟩, hw''⟩ := hw'
            dsimp only at hw''
            subst hw''
            have B3 := hid (hn2.trans (hb3.mono hn2.size))
            clear hb3 c0 c1 c2
            go_wp2_with fail
            go_roundw
            case rel => exact ⟨k + 1, by omega, by go_num, by show oneB l = _; rw [R.out, D.out, H1.out]; simp, B3.out⟩
            case measure => simp [intOf]; omega
          · have H1 := hid h1
            have h1' : ((pop x : Int) != (pop z : Int)) = true := by rw [bne_iff_ne]; omega
            have E2 : Hid (q = 1) := by
              show _ = _
              rw [← HQ.out]
              have ho : oneB l = false := by rw [R.out, D.out]; simp [h1]
              unfold chkR
              rw [fam_mk hm HF.out, N_back, ho]
              simp
            clear h1
            go_wp2_with fail
            refine region_later (by kernel_rfl) (by kernel_rfl) ?_
            repeat (go_big_quiet_step ((go_at_call 11; refine (Size_any _ _ (by assumption)).mono ?_; rintro e w' ⟨rfl, hb⟩; exact ⟨rfl, Later.on _ hb⟩)))
            refine wpQuiet_nil ?_
            intro w3 hw'
            obtain ⟨⟨y3, hb3⟩, hw''⟩ := hw'
            dsimp only at hw''
            subst hw''
            have B3 := hid (hn2.trans (hb3.mono hn2.size))
            clear hb3 c0 c1 c2
            go_wp2_with fail
            go_ret
            exact ⟨ret_int (by rw [E2.out]), B1.out.trans (B3.out.mono B1.out.size)⟩
        · have ONE : Hid (oneB l = true) := by show _ = _; rw [R.out, List.drop_of_length_le (by omega)]; rfl
          have y0 : wr.cell? ⟨w.heap.size, 0, none⟩ = some (.int .i64 m) := (hn2.cell (p := ⟨w.heap.size, 0, none⟩) (by show w.heap.size < _; omega)).trans x0
          have BW := hid (B1.out.trans (hn2.mono B1.out.size))
          have RR := hid (Ranks_ref m _ l wr hm HL.out (HI.out.below BW.out))
          have E3 : Hid (q = if locB m (rk l) = true then 0 else 3) := HQ.out.symm.trans (chk_loc hm HF.out HNE.out ONE.out)
          have SM := hid (rk_le8 l HL.out)
          have AL := hid (fun w => All_nat m w hm)
          have PW := hid (pow_wrap m hm).2
          have P1 := hid (Nat.one_le_two_pow (n := m))
          have S2 : w.heap.size + 1 ≤ wr.heap.size := Nat.le_trans S1 hn2.size
          clear hcell hn2 R x0 x1 X1
          go_wp2_with fail
          refine RR.out.mono ?_
          rintro e w3 ⟨r3, rfl, hr3, hb3⟩
          have z0 := (hb3.cell (p := ⟨w.heap.size, 0, none⟩) (by show w.heap.size < _; omega)).trans y0
          have B3 := hid (BW.out.trans (hb3.mono BW.out.size))
          have S3 : w.heap.size + 1 ≤ w3.heap.size := Nat.le_trans S2 hb3.size
          have R3 := hid hr3
          obtain ⟨rb, roff, rcap, rfl, _, _⟩ := hr3
          clear hb3 y0 y1
          obtain ⟨T, HT⟩ : ∃ T : Nat, Hid (T = 2 ^ m) := ⟨2 ^ m, rfl⟩
          rw [← HT.out] at R3 AL PW P1 ⊢
          have hT2 : T ≤ 256 := PW.out
          have hT1 : 1 ≤ T := P1.out
          go_wp2_with fail
          go_loopw [5] (fun i wr => ∃ s : Nat, s ≤ T ∧ i = .int .i64 s ∧ Hid (∀ s', s' < s → ∀ i, i < m → ∀ k, k < m → goodB (rk l) s' i k) ∧ Below w3.heap.size w3 wr) (fun i _ => T - (intOf i).toNat)
          case atStart => exact ⟨0, Nat.zero_le _, rfl, fun s' h => absurd h (by omega), Below.refl _ _⟩
          case round =>
            obtain ⟨s, hs, rfl, G1, hn4⟩ := hrel
            have z1 := (hn4.cell (p := ⟨w.heap.size, 0, none⟩) (by show w.heap.size < _; omega)).trans z0
            go_wp2_with fail
            refine (AL.out _).mono ?_
            rintro e w4 ⟨rfl, rfl⟩
            by_cases hlt1 : s < T
            · have hle : (s : Int) ≤ ((T - 1 : Nat) : Int) := by omega
              have hle' : s ≤ T - 1 := by omega
              go_wp2_with fail
              go_loopw [6] (fun i wr => ∃ j : Nat, j ≤ m ∧ i = .int .i64 j ∧ Hid (∀ i, i < j → ∀ k, k < m → goodB (rk l) s i k) ∧ Below w3.heap.size w3 wr) (fun i _ => m - (intOf i).toNat)
              case atStart => exact ⟨0, Nat.zero_le _, rfl, fun i h => absurd h (by omega), hn4⟩
              case round =>
                obtain ⟨i, hi, rfl, G2, hn5⟩ := hrel
                have z2 := (hn5.cell (p := ⟨w.heap.size, 0, none⟩) (by show w.heap.size < _; omega)).trans z0
                by_cases hlt2 : i < m
                · go_wp2_with fail
                  go_loopw [7] (fun i' wr => ∃ j : Nat, j ≤ m ∧ i' = .int .i64 j ∧ Hid (∀ k, k < j → goodB (rk l) s i k) ∧ Below w3.heap.size w3 wr) (fun i _ => m - (intOf i).toNat)
                  case atStart => exact ⟨0, Nat.zero_le _, rfl, fun k h => absurd h (by omega), hn5⟩
                  case round =>
                    obtain ⟨k, hk, rfl, G3, hn6⟩ := hrel
                    have z3 := (hn6.cell (p := ⟨w.heap.size, 0, none⟩) (by show w.heap.size < _; omega)).trans z0
                    by_cases hlt3 : k < m
                    · have hi8 : bt i < 256 := bt_lt (by omega)
                      have hk8 : bt k < 256 := bt_lt (by omega)
                      have HSI : Hid (wrap64 (2 ^ i) = (bt i : Int)) := (pow_wrap i (by omega)).1
                      have HSK : Hid (wrap64 (2 ^ k) = (bt k : Int)) := (pow_wrap k (by omega)).1
                      have o1 : bits .or .i64 (s : Int) (bt i : Int) = ((s ||| bt i : Nat) : Int) := i64_or_nat _ _ (by omega) (by omega)
                      have o2 : bits .or .i64 (s : Int) (bt k : Int) = ((s ||| bt k : Nat) : Int) := i64_or_nat _ _ (by omega) (by omega)
                      have l1 : s ||| bt i < T := by rw [HT.out]; rw [HT.out] at hlt1; exact ad_lt hlt1 hlt2
                      have l2 : s ||| bt k < T := by rw [HT.out]; rw [HT.out] at hlt1; exact ad_lt hlt1 hlt3
                      have GD : Hid (goodB (rk l) s i k ↔ rk l ((s ||| bt i) ||| (s ||| bt k)) + rk l ((s ||| bt i) &&& (s ||| bt k)) ≤ rk l (s ||| bt i) + rk l (s ||| bt k)) := Iff.rfl
                      have NO : Hid (¬ goodB (rk l) s i k → q = 3) := fun hno => by
                        rw [E3.out, loc_no (by rw [← HT.out]; exact hlt1) hlt2 hlt3 hno]
                        rfl
                      generalize s ||| bt i = A at *
                      generalize s ||| bt k = B at *
                      have l3 : A ||| B < T := by rw [HT.out] at l1 l2 ⊢; exact Nat.or_lt_two_pow l1 l2
                      have l4 : A &&& B < T := Nat.lt_of_le_of_lt Nat.and_le_left l1
                      have o3 : bits .or .i64 (A : Int) (B : Int) = ((A ||| B : Nat) : Int) := i64_or_nat _ _ (by omega) (by omega)
                      have o4 : bits .and .i64 (A : Int) (B : Int) = ((A &&& B : Nat) : Int) := i64_and_nat _ _ (by omega) (by omega)
                      have R6 := R3.out.below hn6
                      have c1 := R6.at l1
                      have c2 := R6.at l2
                      have c3 := R6.at l3
                      have c4 := R6.at l4
                      have s1 := SM.out A
                      have s2 := SM.out B
                      have s3 := SM.out (A ||| B)
                      have s4 := SM.out (A &&& B)
                      clear R6
                      generalize rk l A = x1 at *
                      generalize rk l B = x2 at *
                      generalize rk l (A ||| B) = x3 at *
                      generalize rk l (A &&& B) = x4 at *
                      generalize A ||| B = C at *
                      generalize A &&& B = D at *
                      by_cases hg : x3 + x4 ≤ x1 + x2
                      · have hg' : decide ((x1 : Int) + (x2 : Int) < (x3 : Int) + (x4 : Int)) = false := by rw [decide_eq_false_iff_not]; omega
                        have HG := hid (GD.out.2 hg)
                        clear hg
                        have hsi := HSI.out
                        have hsk := HSK.out
                        go_wp2_with fail
                        go_quiet (fail)
                        go_wp2_with fail
                        go_quiet (fail)
                        go_wp2_with fail
                        go_roundw
                        case rel => exact ⟨k + 1, by omega, by go_num, fun k' hk' => (Nat.lt_succ_iff_lt_or_eq.1 hk').elim (G3.out k') (fun e => e ▸ HG.out), hn6.trans (drewN_below _ _ _)⟩
                        case measure => simp [intOf]; omega
                      · have hg' : decide ((x1 : Int) + (x2 : Int) < (x3 : Int) + (x4 : Int)) = true := by rw [decide_eq_true_iff]; omega
                        have Q3 := hid (NO.out (fun h => hg (GD.out.1 h)))
                        clear hg
                        have hsi := HSI.out
                        have hsk := HSK.out
                        go_wp2_with fail
                        go_quiet (fail)
                        go_wp2_with fail
                        go_quiet (fail)
                        go_wp2_with fail
                        go_ret
                        exact ⟨ret_int (by rw [Q3.out]), B3.out.trans (((hn6.trans (drewN_below _ _ _)).trans (drewN_below _ _ _)).mono B3.out.size)⟩
                    · go_wp2_with fail
                      go_roundw
                      case rel => exact ⟨i + 1, by omega, by go_num, fun i' hi' k' hk' => (Nat.lt_succ_iff_lt_or_eq.1 hi').elim (fun h => G2.out i' h k' hk') (fun e => e ▸ G3.out k' (by omega)), hn6⟩
                      case measure => simp [intOf]; omega
                · go_wp2_with fail
                  go_roundw
                  case rel => exact ⟨s + 1, by omega, by go_num, fun s' hs' i' hi' k' hk' => (Nat.lt_succ_iff_lt_or_eq.1 hs').elim (fun h => G1.out s' h i' hi' k' hk') (fun e => e ▸ G2.out i' (by omega) k' hk'), hn5⟩
                  case measure => simp [intOf]; omega
            · have hle : ¬ (s : Int) ≤ ((T - 1 : Nat) : Int) := by omega
              have hle' : decide (s ≤ T - 1) = false := by rw [decide_eq_false_iff_not]; omega
              have Q0 : Hid (q = 0) := by
                show _ = _
                rw [E3.out, loc_yes (fun s' hs' i hi k hk => G1.out s' (by rw [← HT.out] at hs'; omega) i hi k hk)]
                rfl
              go_wp2_with fail
              go_ret
              exact ⟨ret_int (by rw [Q0.out]), B3.out.trans (hn4.mono B3.out.size)⟩
  · have F1 : famB n zs = false := by unfold famB; rw [h0]; rfl
    rw [F1] at IF
    have E1 : Hid (chkR n zs = 1) := by
      show _ = _
      unfold chkR
      rw [h0]
      simp
    rw [E1.out]
    clear h0 E1 F1
    go_enter Try.func4, Try.ntmps4
    go_wp2_with fail
    refine IF.out.mono ?_
    rintro e w1 ⟨rfl, hb1⟩
    have B1 := hid (B0.out.trans (hb1.mono B0.out.size))
    clear hb1
    go_wp2_with fail
    go_ret
    exact ⟨rfl, B1.out⟩
end Go.Proofs.Ytbfklamboicddaa
