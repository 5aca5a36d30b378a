/- rotaref.Laminar. -/
import Derived.Test.YtkeeihjcjkndbaaRefTr2Q
namespace Go.Proofs.Ytkeeihjcjkndbaa
open Go.RowKit

theorem take_any {p : Nat → Bool} {l : List Nat} {k : Nat} (hk : k < l.length) : (l.take (k + 1)).any p = ((l.take k).any p || p (l.getD k 0)) := by
  rw [take_snoc hk, List.any_append]
  simp
theorem take_any_le {p : Nat → Bool} {l : List Nat} {k i : Nat} (hk : k < i) (hi : i < l.length) (h : p (l.getD k 0) = true) : (l.take i).any p = true := by
  rw [List.any_eq_true]
  refine ⟨l.getD k 0, ?_, h⟩
  have hkl : k < l.length := by omega
  rw [List.mem_take_iff_getElem]
  exact ⟨k, by omega, by simp [List.getD, hkl]⟩
theorem famB_R (n : Int) (zs : List Int) : famB n zs = (famR n zs == 0) := by
  unfold famB famR
  by_cases h : 0 ≤ n ∧ n ≤ 8 ∧ risesB (2 ^ n.toNat) (-1) zs = true
  · rw [if_pos h]
  · rw [if_neg h]

set_option maxRecDepth 20000 in
set_option maxHeartbeats 4000000 in
theorem RLam_any (n : Int) (v u : Value) (zs ms : List Int) (w : World) (h : Ints w v zs) (hu : Ints w u ms) :
    Calls Try.prog 6 #[.int .i64 n, v, u] w (Makes w (lamE n zs ms) n (bigL n.toNat (keepH (zs.map Int.toNat) ms))) := by
  have HI := hid h
  have HU := hid hu
  obtain ⟨a, cap, rfl, hlen, hc⟩ := h
  obtain ⟨a2, cap2, rfl, hlen2, hc2⟩ := hu
  have HB0 : Hid (Below w.heap.size w (((w.alloc (.cells #[.slice a zs.length cap] 22)).alloc (.cells #[.slice a2 ms.length cap2] 22)).alloc (.cells #[.int .i64 0, .slice none 0 0] 26))) := (((Below.refl _ _).alloc (Nat.le_refl _) _).alloc (by simp) _).alloc (by simp; omega) _
  have HX := hid (slot3 (w := w) (b := .slice a zs.length cap) (c := .slice a2 ms.length cap2))
  have HSZ : Hid ((((w.alloc (.cells #[.slice a zs.length cap] 22)).alloc (.cells #[.slice a2 ms.length cap2] 22)).alloc (.cells #[.int .i64 0, .slice none 0 0] 26)).heap.size = w.heap.size + 3) := by show _ = _; simp
  have FA0 := hid (IsFamily_any n _ zs _ (HI.out.below HB0.out))
  rw [famB_R] at FA0
  go_enter Try.func6, Try.ntmps6
  go_wp2_with fail
  refine FA0.out.mono ?_
  clear FA0
  revert HB0 HX HSZ
  generalize (((w.alloc (.cells #[.slice a zs.length cap] 22)).alloc (.cells #[.slice a2 ms.length cap2] 22)).alloc (.cells #[.int .i64 0, .slice none 0 0] 26)) = W9
  intro HB9 HX9 HSZ9
  rintro e W0 ⟨rfl, hb1⟩
  have HB0 := hid (HB9.out.trans (hb1.mono HB9.out.size))
  have hsz : w.heap.size + 3 ≤ W0.heap.size := by have := hb1.size; have := HSZ9.out; omega
  have HX : Hid (W0.heap[w.heap.size]? = some (.cells #[.slice a zs.length cap] 22 (0, 0)) ∧ W0.heap[w.heap.size + 1]? = some (.cells #[.slice a2 ms.length cap2] 22 (0, 0)) ∧ W0.heap[w.heap.size + 1 + 1]? = some (.cells #[.int .i64 0, .slice none 0 0] 26 (0, 0))) :=
    ⟨(hb1.block _ (by have := HSZ9.out; omega)).trans HX9.out.1, (hb1.block _ (by have := HSZ9.out; omega)).trans HX9.out.2.1, (hb1.block _ (by have := HSZ9.out; omega)).trans HX9.out.2.2⟩
  clear hb1 HB9 HX9 HSZ9
  obtain ⟨y2, y3, g2, g3⟩ := two_cells HX.out.2.2
  have x0 : W0.cell? ⟨w.heap.size, 0, none⟩ = some (.slice a zs.length cap) := Boxed.cell HX.out.1
  have x1 : W0.cell? ⟨w.heap.size + 1, 0, none⟩ = some (.slice a2 ms.length cap2) := Boxed.cell HX.out.2.1
  have FIN : Hid (∀ W, Below W0.heap.size W0 W → (W.heap[w.heap.size + 1 + 1]? = some (.cells #[.int .i64 0, .slice none 0 0] 26 (0, 0)))) := fun W hW => (hW.block _ (by omega)).trans HX.out.2.2
  by_cases hf : famR n zs = 0
  · obtain ⟨m, l, rfl, hm, rfl, hF⟩ := fam_of hf
    have e1 : (N l).map Int.toNat = l := by simp [N, Function.comp_def]
    have HL := hid (hF.lt256 hm)
    by_cases hml : ms.length = (N l).length
    · have HE : Hid (lamE (m : Int) (N l) ms = lamR l ms l.length) := by
        show _ = _
        unfold lamE
        rw [if_pos hf, if_pos hml, e1, N_len]
      rw [hf, e1]
      rw [N_len] at *
      have hne : ((l.length : Int) != (ms.length : Int)) = false := by rw [hml]; simp
      have hmf : ∀ (fn : Fn) (first cap : Array Value) (w : World), (Instr.makeFunc fn first cap).run Try.prog w = .ok (.func fn first cap) w := fun _ _ _ _ => rfl
      rw [hml] at x1 hc2
      clear y2 y3 g2 g3
      go_wp2_with fail
      go_loopw [8] (fun i wr => ∃ k : Nat, k ≤ l.length ∧ i = .int .i64 k ∧ Hid (Below W0.heap.size W0 wr) ∧ Hid (lamR l ms l.length = lamR l ms (l.length - k))) (fun i _ => l.length - (intOf i).toNat)
      case atStart => exact ⟨0, Nat.zero_le _, rfl, Below.refl _ _, rfl⟩
      case round =>
        obtain ⟨k, hk, rfl, HW, R⟩ := hrel
        have z0 : wr.cell? ⟨w.heap.size, 0, none⟩ = some (.slice a l.length cap) := (HW.out.cell (p := ⟨w.heap.size, 0, none⟩) (by show w.heap.size < _; omega)).trans x0
        have z1 : wr.cell? ⟨w.heap.size + 1, 0, none⟩ = some (.slice a2 l.length cap2) := (HW.out.cell (p := ⟨w.heap.size + 1, 0, none⟩) (by show w.heap.size + 1 < _; omega)).trans x1
        by_cases hlt : k < l.length
        · obtain ⟨b, off, rfl, hb, hcell⟩ := hc (by omega)
          obtain ⟨b2, off2, rfl, hb2, hcell2⟩ := hc2 (by omega)
          have HC := hid (fun W (hW : Below W0.heap.size W0 W) j (hj : j < l.length) => ((hW.cell (p := ⟨b, off + j, none⟩) (Nat.lt_of_lt_of_le hb HB0.out.size)).trans ((HB0.out.cell (p := ⟨b, off + j, none⟩) hb).trans (hcell j hj))).trans (by rw [N_getD]))
          have hck2 := (HW.out.cell (p := ⟨b2, off2 + k, none⟩) (Nat.lt_of_lt_of_le hb2 HB0.out.size)).trans ((HB0.out.cell (p := ⟨b2, off2 + k, none⟩) hb2).trans (hcell2 k hlt))
          have D := hid (lam_step (ms := ms) hlt)
          have hx := getD_lt HL.out k
          have LA : Hid (lamAt l ms k = if ms.getD k 0 < 0 then 1 else if (l.take k).any (crossB (l.getD k 0)) = true then 3 else 0) := rfl
          have hki : (k : Int) < (l.length : Int) := by omega
          clear hcell hc hcell2 hc2
          generalize ms.getD k 0 = y at *
          by_cases hy : y < 0
          · rw [if_pos hy] at LA
            have F : Hid (lamE (m : Int) (N l) ms = 1) := by show _ = _; rw [HE.out, R.out, D.out, LA.out]; rfl
            have hxx := FIN.out wr HW.out
            obtain ⟨y2, y3, g2, g3⟩ := two_cells hxx
            have HCC := hid (set_two (x := .int .i64 0) (y := .slice none 0 0) hxx)
            have HB4 := hid (HB0.out.trans (HW.out.mono HB0.out.size))
            have HD0 := hid (below_two (b := w.heap.size + 1 + 1) (x := .int .i64 0) (y := .slice none 0 0) HB4.out (by omega))
            clear hxx
            go_wp2_with fail
            obtain ⟨c0, c1⟩ := HCC.out
            refine bodyPost_ret (v := .tuple #[.agg #[.int .i64 0, .slice none 0 0], .int .i64 1]) ?_ rfl ⟨fun e => absurd (F.out.symm.trans e) (by decide), fun _ => ⟨by rw [F.out], HD0.out⟩⟩
            simp [results, Try.f6, go_sem, c0, c1]
          · rw [if_neg hy] at LA
            have HX3 : Hid (∃ x, l.getD k 0 = x) := ⟨_, rfl⟩
            obtain ⟨x, hxe⟩ := HX3.out
            rw [hxe] at hx LA
            have HXE := hid hxe
            clear hxe
            go_wp2_with fail
            go_loopw [9] (fun i w2 => ∃ j : Nat, j ≤ k ∧ i = .int .i64 j ∧ Hid (Below W0.heap.size W0 w2) ∧ Hid ((l.take j).any (crossB x) = false)) (fun i _ => k - (intOf i).toNat)
            case atStart => exact ⟨0, Nat.zero_le _, rfl, HW, rfl⟩
            case round =>
              rename World => w2
              obtain ⟨j, hj, rfl, HW2, RJ⟩ := hrel
              have q0 : w2.cell? ⟨w.heap.size, 0, none⟩ = some (.slice (some ⟨b, off, none⟩) l.length cap) := (HW2.out.cell (p := ⟨w.heap.size, 0, none⟩) (by show w.heap.size < _; omega)).trans x0
              by_cases hjk : j < k
              · have hjl : j < l.length := by omega
                have hcj := HC.out w2 HW2.out j hjl
                have hckk := HC.out w2 HW2.out k hlt
                rw [HXE.out] at hckk
                have hji : (j : Int) < (k : Int) := by omega
                have hjl' : (j : Int) < (l.length : Int) := by omega
                have TA := hid (take_any (p := crossB x) hjl)
                have TL := hid (fun hp => take_any_le (p := crossB x) hjk hlt hp)
                rw [RJ.out, Bool.false_or] at TA
                have ho := getD_lt HL.out j
                generalize l.getD j 0 = o at *
                have hand : bits .and .i64 (x : Int) (o : Int) = ((x &&& o : Nat) : Int) := i64_and_nat x o (by omega) (by omega)
                have W1 := hid (fun w' => Within_any x o w' hx ho)
                have W2 := hid (fun w' => Within_any o x w' ho hx)
                have CB : Hid (crossB x o = ((x &&& o != 0) && !subB x o && !subB o x)) := rfl
                rcases q1 : (x &&& o != 0) with _ | _
                · have h1' : (((x &&& o : Nat) : Int) != 0) = false := by simp at q1; rw [q1]; rfl
                  rw [q1] at CB
                  go_wp2_with fail
                  go_quiet ((go_at_call 16; fail))
                  go_wp2_with fail
                  go_roundw
                  case rel => exact ⟨j + 1, by omega, by go_num, below_drewN HW2.out _, by show _ = _; rw [TA.out, CB.out]; rfl⟩
                  case measure => simp [intOf]; omega
                · have h1' : (((x &&& o : Nat) : Int) != 0) = true := by rw [bne_iff_ne] at q1 ⊢; omega
                  rw [q1] at CB
                  rcases q2 : subB x o with _ | _
                  · rw [q2] at W1 CB
                    rcases q3 : subB o x with _ | _
                    · rw [q3] at W2 CB
                      have F : Hid (lamE (m : Int) (N l) ms = 3) := by
                        show _ = _
                        rw [HE.out, R.out, D.out, LA.out, TL.out (by rw [CB.out]; rfl)]
                        rfl
                      go_wp2_with fail
                      go_quiet (first | (go_at_call 16; refine (W1.out _).mono ?_; rintro e w' ⟨rfl, rfl⟩; exact ⟨rfl, _, rfl⟩) | (go_at_call 16; refine (W2.out _).mono ?_; rintro e w' ⟨rfl, rfl⟩; exact ⟨rfl, _, rfl⟩))
                      have HWq := hid (below_drewN HW2.out nq)
                      have hxx := FIN.out _ HWq.out
                      obtain ⟨y2, y3, g2, g3⟩ := two_cells hxx
                      have HCC := hid (set_two (x := .int .i64 0) (y := .slice none 0 0) hxx)
                      have HB4 := hid (HB0.out.trans (HWq.out.mono HB0.out.size))
                      have HD0 := hid (below_two (b := w.heap.size + 1 + 1) (x := .int .i64 0) (y := .slice none 0 0) HB4.out (by omega))
                      clear hxx
                      go_wp2_with fail
                      obtain ⟨c0, c1⟩ := HCC.out
                      refine bodyPost_ret (v := .tuple #[.agg #[.int .i64 0, .slice none 0 0], .int .i64 3]) ?_ rfl ⟨fun e => absurd (F.out.symm.trans e) (by decide), fun _ => ⟨by rw [F.out], HD0.out⟩⟩
                      simp [results, Try.f6, go_sem, c0, c1]
                    · rw [q3] at W2 CB
                      go_wp2_with fail
                      go_quiet (first | (go_at_call 16; refine (W1.out _).mono ?_; rintro e w' ⟨rfl, rfl⟩; exact ⟨rfl, _, rfl⟩) | (go_at_call 16; refine (W2.out _).mono ?_; rintro e w' ⟨rfl, rfl⟩; exact ⟨rfl, _, rfl⟩))
                      go_wp2_with fail
                      go_roundw
                      case rel => exact ⟨j + 1, by omega, by go_num, below_drewN HW2.out _, by show _ = _; rw [TA.out, CB.out]; rfl⟩
                      case measure => simp [intOf]; omega
                  · rw [q2] at W1 CB
                    go_wp2_with fail
                    go_quiet ((go_at_call 16; refine (W1.out _).mono ?_; rintro e w' ⟨rfl, rfl⟩; exact ⟨rfl, _, rfl⟩))
                    go_wp2_with fail
                    go_roundw
                    case rel => exact ⟨j + 1, by omega, by go_num, below_drewN HW2.out _, by show _ = _; rw [TA.out, CB.out]; rfl⟩
                    case measure => simp [intOf]; omega
              · obtain rfl : j = k := by omega
                have hjj : ¬ (j : Int) < (j : Int) := by omega
                have F : Hid (lamR l ms l.length = lamR l ms (l.length - (j + 1))) := by show _ = _; rw [R.out, D.out, LA.out, RJ.out]; rfl
                go_wp2_with fail
                go_roundw
                case rel => exact ⟨j + 1, by omega, by go_num, HW2, F⟩
                case measure => simp [intOf]; omega
        · have F : Hid (lamE (m : Int) (N l) ms = 0) := by show _ = _; rw [HE.out, R.out, show l.length - k = 0 by omega]; rfl
          have hki : ¬ (k : Int) < (l.length : Int) := by omega
          have hw3 := HW.out.size
          have TH := hid (Those_any m 20 #[.pointer (some ⟨w.heap.size, 0, none⟩), .pointer (some ⟨w.heap.size + 1, 0, none⟩)] (keepH l ms) wr hm (fun args w => enters_of Try.func20 (by kernel_rfl) rfl args w)
            (fun x hx w3 hb3 hs3 => RLamQ_ok x w.heap.size (w.heap.size + 1) (.slice a l.length cap) (.slice a2 ms.length cap2) l ms w3 (lt256 hm hx) HL.out hml ((hb3.cell (p := ⟨w.heap.size, 0, none⟩) (by show w.heap.size < _; omega)).trans z0) (by omega) ((hb3.cell (p := ⟨w.heap.size + 1, 0, none⟩) (by show w.heap.size + 1 < _; omega)).trans (by rw [hml]; exact z1)) (by omega) (((HI.out.below HB0.out).below HW.out).below hb3) (((HU.out.below HB0.out).below HW.out).below hb3)))
          have HF8 : Hid (∀ s ∈ (List.range (2 ^ m)).filter (keepH l ms), s < 256) := fun s hs => lt256 hm (List.mem_range.1 (List.mem_filter.1 hs).1)
          have HFL := hid (fil_len hm (keepH l ms))
          have BE := hid (big_eq m (keepH l ms))
          obtain ⟨acc, HACC⟩ : ∃ acc : List Nat, Hid (bigL m (keepH l ms) = acc) := ⟨_, rfl⟩
          rw [HACC.out] at BE
          generalize (List.range (2 ^ m)).filter (keepH l ms) = Fl at *
          go_wp2_with fail
          refine TH.out.mono ?_
          rintro e w2 ⟨r2, rfl, ho2, hb2⟩
          have hF2 := ho2.ints (Nat.le_trans HFL.out (by decide : 256 ≤ 17592186044416))
          have BG := hid (biggest_any r2 Fl w2 HF8.out HFL.out hF2)
          rw [BE.out] at BG
          obtain ⟨a4, c4, hr2⟩ := ownsRow_form' ho2
          subst hr2
          have hs2 := hb2.size
          have HW2 := hid (HW.out.trans (hb2.mono HW.out.size))
          clear hb2 ho2 hF2
          go_wp2_with fail
          refine BG.out.mono ?_
          rintro e w4 ⟨r4, rfl, hr4, hb4⟩
          obtain ⟨ra, rc, hr⟩ := ownsRow_form' hr4
          subst hr
          have hW4 := HW2.out.trans (hb4.mono HW2.out.size)
          have hxx := FIN.out w4 hW4
          obtain ⟨y2, y3, g2, g3⟩ := two_cells hxx
          have HCC := hid (set_two (x := .int .i64 m) (y := .slice ra acc.length rc) hxx)
          have HB4 := hid (HB0.out.trans (hW4.mono HB0.out.size))
          have HD := hid (below_two (b := w.heap.size + 1 + 1) (x := .int .i64 m) (y := .slice ra acc.length rc) HB4.out (by omega))
          have HII := hid ((hr4.set2 (b := w.heap.size + 1 + 1) (x := .int .i64 m) (y := .slice ra acc.length rc) (by omega)).mono (by omega : w.heap.size ≤ _))
          clear hb4 hr4 hxx hW4
          go_wp2_with fail
          obtain ⟨c0, c1⟩ := HCC.out
          refine bodyPost_ret (v := .tuple #[.agg #[.int .i64 m, .slice ra _ rc], .int .i64 0]) ?_ rfl ⟨fun _ => ⟨_, rfl, by rw [Int.toNat_natCast, e1, HACC.out]; exact HII.out, HD.out⟩, fun e => absurd F.out e⟩
          simp [results, Try.f6, go_sem, c0, c1]
    · have F : Hid (lamE (m : Int) (N l) ms = 3) := by show _ = _; unfold lamE; rw [if_pos hf, if_neg hml]
      have hne : (((N l).length : Int) != (ms.length : Int)) = true := by rw [bne_iff_ne]; omega
      have HCC := hid (set_two (x := .int .i64 0) (y := .slice none 0 0) HX.out.2.2)
      have HD0 := hid (below_two (b := w.heap.size + 1 + 1) (x := .int .i64 0) (y := .slice none 0 0) HB0.out (by omega))
      rw [hf]
      go_wp2_with fail
      obtain ⟨c0, c1⟩ := HCC.out
      refine bodyPost_ret (v := .tuple #[.agg #[.int .i64 0, .slice none 0 0], .int .i64 3]) ?_ rfl ⟨fun e => absurd (F.out.symm.trans e) (by decide), fun _ => ⟨by rw [F.out], HD0.out⟩⟩
      simp [results, Try.f6, go_sem, c0, c1]
  · have h1 : famR n zs = 1 := (family_err n _ zs w HI.out hf).elim fun _ h => h.elim fun _ h => h.2
    have F : Hid (lamE n zs ms = 1) := by show _ = _; unfold lamE; rw [if_neg hf]
    have HCC := hid (set_two (x := .int .i64 0) (y := .slice none 0 0) HX.out.2.2)
    have HD0 := hid (below_two (b := w.heap.size + 1 + 1) (x := .int .i64 0) (y := .slice none 0 0) HB0.out (by omega))
    rw [h1]
    go_wp2_with fail
    obtain ⟨c0, c1⟩ := HCC.out
    refine bodyPost_ret (v := .tuple #[.agg #[.int .i64 0, .slice none 0 0], .int .i64 1]) ?_ rfl ⟨fun e => absurd (F.out.symm.trans e) (by decide), fun _ => ⟨by rw [F.out], HD0.out⟩⟩
    simp [results, Try.f6, go_sem, c0, c1]
end Go.Proofs.Ytkeeihjcjkndbaa
