/- rotaref.biggest, Lists; rotalaw.told. -/
import Derived.Test.YtkeeihjcjkndbaaKLamMQ
import Derived.Test.YtkeeihjcjkndbaaRefFamQ
namespace Go.Proofs.Ytkeeihjcjkndbaa
open Go.RowKit

theorem told_bad0 (q : Int) (w : World) (hq : q ≠ 0) :
    Calls Try.prog 11 #[.agg #[.int .i64 0, .slice none 0 0], .int .i64 q, .agg #[.int .i64 0, .slice none 0 0], .int .i64 q] w fun e w' => e = .returned (.bool true) ∧ Below w.heap.size w w' := by
  have hq' : (q == 0) = false := by rw [beq_eq_false_iff_ne]; exact hq
  have hqq : (q == q) = true := by simp
  have HB0 : Hid (Below w.heap.size w ((w.alloc (.cells #[.int .i64 0, .slice none 0 0] 26)).alloc (.cells #[.int .i64 0, .slice none 0 0] 26))) := ((Below.refl _ _).alloc (Nat.le_refl _) _).alloc (by simp) _
  go_enter Try.func11, Try.ntmps11
  go_wp2_with fail
  go_ret
  exact ⟨rfl, HB0.out⟩
theorem told_good0 (n : Int) (u v : Value) (zs : List Int) (w : World) (h1 : Ints w u zs) (h2 : Ints w v zs) :
    Calls Try.prog 11 #[.agg #[.int .i64 n, u], .int .i64 0, .agg #[.int .i64 n, v], .int .i64 0] w fun e w' => e = .returned (.bool true) ∧ Below w.heap.size w w' := by
  have hB0 : Below w.heap.size w ((w.alloc (.cells #[.int .i64 n, u] 26)).alloc (.cells #[.int .i64 n, v] 26)) := ((Below.refl _ _).alloc (Nat.le_refl _) _).alloc (by simp) _
  have SM := hid (SameMatroid_any n n u v zs zs _ (h1.below hB0) (h2.below hB0))
  rw [show (decide (n = n) && decide (zs = zs)) = true by simp] at SM
  have HB0 := hid hB0
  obtain ⟨a, cap, rfl, _, _⟩ := h1
  obtain ⟨a2, cap2, rfl, _, _⟩ := h2
  clear hB0
  go_enter Try.func11, Try.ntmps11
  go_wp2_with fail
  refine SM.out.mono ?_
  rintro e w2 ⟨rfl, hb2⟩
  have HB := hid (HB0.out.trans (hb2.mono HB0.out.size))
  clear hb2
  go_wp2_with fail
  go_ret
  exact ⟨rfl, HB.out⟩
theorem setB_R (n s : Int) : setB n s = (setR n s == 0) := by
  unfold setB setR
  by_cases h : 0 ≤ n ∧ n ≤ 8 ∧ 0 ≤ s ∧ s < 2 ^ n.toNat
  · rw [if_pos h, decide_eq_true h]; rfl
  · rw [if_neg h, decide_eq_false h]; rfl

set_option maxHeartbeats 400000 in
theorem Lists_any (n : Int) (v : Value) (zs : List Int) (w : World) (h : Ints w v zs) :
    Calls Try.prog 4 #[.int .i64 n, v] w fun e w' => e = .returned (.int .i64 (lisR n zs)) ∧ w' = w := by
  have IS := hid (fun s => IsSet_any n s w)
  obtain ⟨a, cap, rfl, hlen, hc⟩ := h
  by_cases hn : 0 ≤ n ∧ n ≤ 8
  · have HF : Hid (lisR n zs = if zs.all (fun s => setR n s == 0) = true then (if 8 < zs.length then 2 else 0) else 1) := by
      show _ = _
      unfold lisR
      simp only [hn, and_true]
    have hn1 : ¬ n < 0 := by omega
    have hn2 : ¬ 8 < n := by omega
    have hn3 : decide (n < 0) = false := by simp; omega
    have hn4 : decide (8 < n) = false := by simp; omega
    clear hn
    go_enter Try.func4, Try.ntmps4
    go_wp2_with fail
    go_loop [5] (fun i => ∃ k : Nat, k ≤ zs.length ∧ i = .int .i64 k ∧ Hid (zs.all (fun s => setR n s == 0) = (zs.drop k).all (fun s => setR n s == 0))) (fun i => zs.length - (intOf i).toNat)
    case atStart => exact ⟨0, Nat.zero_le _, rfl, rfl⟩
    case round =>
      obtain ⟨k, hk, rfl, R⟩ := hrel
      by_cases hlt : k < zs.length
      · obtain ⟨b, off, rfl, hb, hcell⟩ := hc (by omega)
        have hck := hcell k hlt
        have D := hid (allI_drop (p := fun s => setR n s == 0) hlt)
        have C1 := hid (IS.out (zs.getD k 0))
        rw [setB_R] at C1
        have hki : (k : Int) < (zs.length : Int) := by omega
        clear hcell hc
        generalize zs.getD k 0 = x at *
        rcases h1 : (setR n x == 0) with _ | _
        · rw [h1] at C1 D
          have F : Hid (lisR n zs = 1) := by
            show _ = _
            rw [HF.out, if_neg]
            rw [R.out, D.out]
            simp
          go_wp2_with fail
          refine C1.out.mono ?_
          rintro e w' ⟨rfl, hw'⟩
          subst hw'
          go_wp2_with fail
          go_ret
          exact ⟨ret_int F.out.symm, rfl⟩
        · rw [h1] at C1 D
          go_wp2_with fail
          refine C1.out.mono ?_
          rintro e w' ⟨rfl, hw'⟩
          subst hw'
          go_wp2_with fail
          go_round
          case rel => exact ⟨k + 1, by omega, by go_num, by show _ = _; rw [R.out, D.out]; rfl⟩
          case measure => simp [intOf]; omega
      · have hall : zs.all (fun s => setR n s == 0) = true := by rw [R.out, List.drop_of_length_le (by omega)]; rfl
        rw [if_pos hall] at HF
        by_cases h8 : 8 < zs.length
        · have h8' : (8 : Int) < (zs.length : Int) := by omega
          rw [if_pos h8] at HF
          go_wp2_with fail
          go_ret
          exact ⟨ret_int HF.out.symm, rfl⟩
        · have h8' : ¬ (8 : Int) < (zs.length : Int) := by omega
          rw [if_neg h8] at HF
          go_wp2_with fail
          go_ret
          exact ⟨ret_int HF.out.symm, rfl⟩
  · have F : Hid (lisR n zs = 1) := by show _ = _; unfold lisR; rw [if_neg (fun c => hn c.2)]
    by_cases hn1 : n < 0
    · have hn3 : decide (n < 0) = true := by simp; omega
      go_enter Try.func4, Try.ntmps4
      go_wp2_with fail
      go_ret
      exact ⟨ret_int F.out.symm, rfl⟩
    · have hn2 : 8 < n := by omega
      have hn3 : decide (n < 0) = false := by simp; omega
      have hn4 : decide (8 < n) = true := by simp; omega
      go_enter Try.func4, Try.ntmps4
      go_wp2_with fail
      go_ret
      exact ⟨ret_int F.out.symm, rfl⟩
set_option maxHeartbeats 1600000 in
theorem biggest_any (v : Value) (L : List Nat) (w : World) (hl : ∀ s ∈ L, s < 256) (hL : L.length ≤ 256) (h : Ints w v (N L)) :
    Calls Try.prog 18 #[v] w fun e w' => ∃ r, e = .returned r ∧ Own w.heap.size w' r (L.filter fun s => pop s == mxTo L L.length) ∧ Below w.heap.size w w' := by
  obtain ⟨i0, hi, hz0, hz1, hz2⟩ := info_parts Try.infoInt
  obtain ⟨a, cap, rfl, _, hc⟩ := h.nats
  have HS8 := hid hl
  clear h hl
  have HM8 := hid (mxTo_le HS8.out)
  go_enter Try.func18, Try.ntmps18
  go_wp2_with fail
  go_loopw [3, 4] (fun u i wr => ∃ k : Nat, k ≤ L.length ∧ i = .int .i64 k ∧ u = .int .i64 (mxTo L k : Nat) ∧ Hid (Below w.heap.size w wr)) (fun _ i _ => L.length - (intOf i).toNat)
  case atStart => exact ⟨0, Nat.zero_le _, rfl, rfl, Below.refl _ _⟩
  case round =>
    obtain ⟨k, hk, rfl, rfl, HW⟩ := hrel
    by_cases hlt : k < L.length
    · obtain ⟨b, off, rfl, hb, hcell⟩ := hc (by omega)
      have hck : wr.cell? ⟨b, off + k, none⟩ = some (.int .i64 (L.getD k 0 : Nat)) := (HW.out.cell (p := ⟨b, off + k, none⟩) hb).trans (hcell k hlt)
      have MS := hid (mxTo_succ hlt)
      have h8 := HM8.out k
      have hx : L.getD k 0 < 256 := getD_lt HS8.out k
      have HS := hid (Size_any (L.getD k 0) wr hx)
      have hp8 := pop_le _ hx
      have hki : (k : Int) < (L.length : Int) := by omega
      clear hcell hc
      generalize mxTo L k = y at *
      generalize L.getD k 0 = x at *
      generalize pop x = z at *
      go_wp2_with fail
      refine HS.out.mono ?_
      rintro e w' ⟨rfl, hb'⟩
      have R2 := hid (HW.out.trans (hb'.mono HW.out.size))
      clear hb'
      go_wp2_with fail
      rw [show (if y < z then (z : Int) else (y : Int)) = ((max y z : Nat) : Int) by split <;> omega]
      go_roundw
      case rel => exact ⟨k + 1, by omega, by go_num, by rw [MS.out], R2⟩
      case measure => simp [intOf]; omega
    · obtain rfl : k = L.length := by omega
      have hM8 := HM8.out L.length
      generalize hM : mxTo L L.length = M
      rw [hM] at hM8
      have HM := hid hM
      clear hM
      go_wp2_with fail
      go_loopw [5, 6] (fun u i w3 => ∃ k : Nat, k ≤ L.length ∧ i = .int .i64 k ∧ Own w.heap.size w3 u ((L.take k).filter fun s => pop s == M) ∧ Hid (Below w.heap.size w w3)) (fun _ i _ => L.length - (intOf i).toNat)
      case atStart => exact ⟨0, Nat.zero_le _, rfl, Own.nil _ _, HW⟩
      case round =>
        rename World => w3
        obtain ⟨k, hk, rfl, hown, HW3⟩ := hrel
        by_cases hlt : k < L.length
        · obtain ⟨b, off, rfl, hb, hcell⟩ := hc (by omega)
          have hck : w3.cell? ⟨b, off + k, none⟩ = some (.int .i64 (L.getD k 0 : Nat)) := (HW3.out.cell (p := ⟨b, off + k, none⟩) hb).trans (hcell k hlt)
          have hx : L.getD k 0 < 256 := getD_lt HS8.out k
          have HS := hid (Size_any (L.getD k 0) w3 hx)
          have hki : (k : Int) < (L.length : Int) := by omega
          have Hhit := hid (fun hp => filter_hit (p := fun s => pop s == M) hlt hp)
          have Hmiss := hid (fun hp => filter_miss (p := fun s => pop s == M) hlt hp)
          have hfl := filter_le (fun s => pop s == M) L k
          have hs3 := HW3.out.size
          generalize (L.take k).filter (fun s => pop s == M) = acc at *
          have hcx : ∀ W, Below w3.heap.size w3 W → W.cell? ⟨b, off + k, none⟩ = some (.int .i64 (L.getD k 0 : Nat)) := fun W hW => (hW.cell (p := ⟨b, off + k, none⟩) (Nat.lt_of_lt_of_le hb hs3)).trans hck
          clear hcell hc
          generalize L.getD k 0 = x at *
          by_cases hq : pop x = M
          · have hq' : ((pop x : Int) == (M : Int)) = true := by rw [hq]; simp
            have HQ : Hid ((pop x == M) = true) := by show _ = _; rw [hq]; simp
            have HO2 := hid hown
            clear hown hq
            generalize pop x = z at *
            go_wp2_with fail
            refine HS.out.mono ?_
            rintro e w' ⟨rfl, hb'⟩
            have hck' := hcx w' hb'
            have HO3 := hid (HO2.out.below hb')
            have HW4 := HW3.out.trans (hb'.mono hs3)
            have hs4 := HW4.size
            clear hb' hcx
            go_wp2_with (at_builtin; refine wpList_append_own _ rfl _ _ 22 rfl w.heap.size 3 i0 (.int .i64 0) 1 8 Try.underlying22 hi hz0 hz1 hz2 rfl (by decide) _ _ _ rfl (HO3.out.alloc _) ⟨w'.heap.size, 0, none⟩ 1 1 [.int .i64 (x : Nat)] rfl rfl ?c1 ?c2 ?c3 ?c4 ?c5 ?_)
            case c1 => exact cell_one_new _ _ _
            case c2 => intro u hu; simp at hu; subst hu; rfl
            case c3 => unfold maxLen; omega
            case c4 => omega
            case c5 => simp; omega
            intro v' w4 hown' hgrow _
            have R3 := hid (Own.snoc hown')
            have R4 := hid (Own.grown HO3.out HW4 hs4 hgrow)
            clear hown' hgrow
            go_wp2_with fail
            go_roundw
            case rel => exact ⟨k + 1, by omega, by go_num, by rw [Hhit.out HQ.out]; exact R3.out, R4⟩
            case measure => simp [intOf]; omega
          · have hq' : ((pop x : Int) == (M : Int)) = false := by rw [beq_eq_false_iff_ne]; omega
            have HQ : Hid ((pop x == M) = false) := by show _ = _; rw [beq_eq_false_iff_ne]; exact hq
            have HO2 := hid hown
            clear hown hq
            generalize pop x = z at *
            go_wp2_with fail
            refine HS.out.mono ?_
            rintro e w' ⟨rfl, hb'⟩
            have HO3 := hid (HO2.out.below hb')
            have HW4 := hid (HW3.out.trans (hb'.mono hs3))
            clear hb'
            go_wp2_with fail
            go_roundw
            case rel => exact ⟨k + 1, by omega, by go_num, by rw [Hmiss.out HQ.out]; exact HO3.out, HW4⟩
            case measure => simp [intOf]; omega
        · have hk' : k = L.length := by omega
          rw [hk', List.take_length] at hown
          have HO := hid hown
          clear hown
          go_wp2_with fail
          go_ret
          exact ⟨_, rfl, by rw [HM.out]; exact HO.out, HW3.out⟩
end Go.Proofs.Ytkeeihjcjkndbaa
