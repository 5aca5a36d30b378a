/- rotaref.Prime, rotaref.IsMatrix, rotalaw.gone. -/
import Derived.Test.YtihddkdkhdallaaFdLQ
import Derived.Test.YtihddkdkhdallaaKLmQ
namespace Go.Proofs.Ytihddkdkhdallaa
open Go.RowKit

set_option maxRecDepth 20000 in
theorem Prime_any (p : Int) (w : World) : Calls Try.prog 18 #[.int .i64 p] w fun e w' => e = .returned (.bool (mduB p)) ∧ w' = w := by
  by_cases h2 : p = 2
  · subst h2
    go_enter Try.func18, Try.ntmps18
    go_wp2_with fail
    go_ret
    exact ⟨rfl, rfl⟩
  · by_cases h3 : p = 3
    · subst h3
      go_enter Try.func18, Try.ntmps18
      go_wp2_with fail
      go_ret
      exact ⟨rfl, rfl⟩
    · by_cases h5 : p = 5
      · subst h5
        go_enter Try.func18, Try.ntmps18
        go_wp2_with fail
        go_ret
        exact ⟨rfl, rfl⟩
      · have e2 : (p == 2) = false := by rw [beq_eq_false_iff_ne]; exact h2
        have e3 : (p == 3) = false := by rw [beq_eq_false_iff_ne]; exact h3
        have e5 : (p == 5) = false := by rw [beq_eq_false_iff_ne]; exact h5
        have E : Hid (mduB p = (p == 7)) := by show _ = _; unfold mduB; rw [e2, e3, e5]; rfl
        go_enter Try.func18, Try.ntmps18
        go_wp2_with fail
        go_ret
        exact ⟨by rw [E.out]; rfl, rfl⟩
/-- Is it a matrix? -/
def okM (p c : Int) (R : List (List Int)) : Bool := matR p c R == 0
theorem okM_ok {p c : Int} {R : List (List Int)} (h : MatOK p c R) : okM p c R = true := by
  unfold okM
  rw [MatOK.iff.2 h]; rfl
theorem okM_no {p c : Int} {R : List (List Int)} (h : matR p c R = 1) : okM p c R = false := by
  unfold okM
  rw [h]; rfl
theorem okM_bad {p c : Int} {R : List (List Int)} (h : ¬ (mduB p = true ∧ 0 ≤ c ∧ c ≤ 8 ∧ R.length ≤ 6)) : okM p c R = false := by
  unfold okM matR
  rw [if_neg fun e => h ⟨e.1, e.2.1, e.2.2.1, e.2.2.2.1⟩]; rfl
theorem okM_good {p c : Int} {R : List (List Int)} (h : mduB p = true ∧ 0 ≤ c ∧ c ≤ 8 ∧ R.length ≤ 6) : okM p c R = R.all (rowB p c) := by
  unfold okM matR
  by_cases e : R.all (rowB p c) = true
  · rw [if_pos ⟨h.1, h.2.1, h.2.2.1, h.2.2.2, e⟩, e]; rfl
  · rw [if_neg fun e2 => e e2.2.2.2.2, show R.all (rowB p c) = false by simpa using e]; rfl
theorem all_step {f : List Int → Bool} {R : List (List Int)} {i : Nat} (hi : i < R.length) : (R.drop i).all f = (f (R.getD i []) && (R.drop (i + 1)).all f) := by
  have e := List.drop_eq_getElem_cons hi
  rw [e, List.all_cons, show R.getD i [] = R[i] by simp [List.getD, hi]]
theorem all_stepI {f : Int → Bool} {R : List Int} {i : Nat} (hi : i < R.length) : (R.drop i).all f = (f (R.getD i 0) && (R.drop (i + 1)).all f) := by
  have e := List.drop_eq_getElem_cons hi
  rw [e, List.all_cons, show R.getD i 0 = R[i] by simp [List.getD, hi]]
set_option maxRecDepth 20000 in
set_option maxHeartbeats 4000000 in
theorem IsMatrix_any (p c : Int) (v : Value) (R : List (List Int)) (w : World) (h : RowsI w v R) :
    Calls Try.prog 6 #[.agg #[.int .i64 p, .int .i64 c, v]] w fun e w' => e = .returned (.bool (okM p c R)) ∧ Below w.heap.size w w' := by
  have PR := hid (Prime_any p)
  have B0 := hid (below_boxMx w #[.int .i64 p, .int .i64 c, v])
  have X0 := hid (World.alloc_heap_new w (.cells #[.int .i64 p, .int .i64 c, v] 27))
  have RX := hid (h.below B0.out)
  obtain ⟨a, cap, rfl, hlen, -⟩ := h
  obtain ⟨x0, x1, x2⟩ := three_cells X0.out
  by_cases h1 : mduB p = true
  rotate_left
  · skip
    have OM := hid (okM_bad (p := p) (c := c) (R := R) fun e => h1 e.1)
    rw [show mduB p = false by simpa using h1] at PR
    clear h1
    go_enter Try.func6, Try.ntmps6
    go_wp2_with fail
    refine (PR.out _).mono ?_
    rintro e w2 ⟨rfl, h2⟩
    obtain rfl := h2.symm
    clear h2
    go_wp2_with fail
    go_loopw [3, 4, 5] (fun ok i _ wr => ok = .bool false ∧ i = .int .i64 0 ∧ Hid (Below w.heap.size w wr)) (fun _ _ _ _ => 0)
    case atStart => exact ⟨rfl, rfl, B0.out⟩
    case round =>
      obtain ⟨rfl, rfl, HB⟩ := hrel
      clear x0 x1 x2
      go_wp2_with fail
      go_ret
      exact ⟨by rw [OM.out]; rfl, HB.out⟩
  rw [h1] at PR
  by_cases h2 : 0 ≤ c
  rotate_left
  · skip
    have OM := hid (okM_bad (p := p) (c := c) (R := R) fun e => h2 e.2.1)
    have hd : decide (0 ≤ c) = false := by simpa using h2
    have hd2 : c < 0 := by omega
    clear h1 h2
    go_enter Try.func6, Try.ntmps6
    go_wp2_with fail
    refine (PR.out _).mono ?_
    rintro e w2 ⟨rfl, h2⟩
    obtain rfl := h2.symm
    clear h2
    go_wp2_with fail
    go_loopw [3, 4, 5] (fun ok i _ wr => ok = .bool false ∧ i = .int .i64 0 ∧ Hid (Below w.heap.size w wr)) (fun _ _ _ _ => 0)
    case atStart => exact ⟨rfl, rfl, B0.out⟩
    case round =>
      obtain ⟨rfl, rfl, HB⟩ := hrel
      clear x0 x1 x2
      go_wp2_with fail
      go_ret
      exact ⟨by rw [OM.out]; rfl, HB.out⟩
  by_cases h3 : c ≤ 8
  rotate_left
  · skip
    have OM := hid (okM_bad (p := p) (c := c) (R := R) fun e => h3 e.2.2.1)
    have hd : decide (c ≤ 8) = false := by simpa using h3
    have hd2 : 8 < c := by omega
    clear h1 h3
    go_enter Try.func6, Try.ntmps6
    go_wp2_with fail
    refine (PR.out _).mono ?_
    rintro e w2 ⟨rfl, h2⟩
    obtain rfl := h2.symm
    clear h2
    go_wp2_with fail
    go_loopw [3, 4, 5] (fun ok i _ wr => ok = .bool false ∧ i = .int .i64 0 ∧ Hid (Below w.heap.size w wr)) (fun _ _ _ _ => 0)
    case atStart => exact ⟨rfl, rfl, B0.out⟩
    case round =>
      obtain ⟨rfl, rfl, HB⟩ := hrel
      clear x0 x1 x2
      go_wp2_with fail
      go_ret
      exact ⟨by rw [OM.out]; rfl, HB.out⟩
  by_cases h4 : R.length ≤ 6
  rotate_left
  · skip
    have OM := hid (okM_bad (p := p) (c := c) (R := R) fun e => h4 e.2.2.2)
    have h4i : ¬ (R.length : Int) ≤ 6 := by omega
    have hd : decide ((R.length : Int) ≤ 6) = false := by simpa using h4i
    clear h1
    go_enter Try.func6, Try.ntmps6
    go_wp2_with fail
    refine (PR.out _).mono ?_
    rintro e w2 ⟨rfl, h2⟩
    obtain rfl := h2.symm
    clear h2
    go_wp2_with fail
    go_loopw [3, 4, 5] (fun ok i _ wr => ok = .bool false ∧ i = .int .i64 0 ∧ Hid (Below w.heap.size w wr)) (fun _ _ _ _ => 0)
    case atStart => exact ⟨rfl, rfl, B0.out⟩
    case round =>
      obtain ⟨rfl, rfl, HB⟩ := hrel
      clear x0 x1 x2
      go_wp2_with fail
      go_ret
      exact ⟨by rw [OM.out]; rfl, HB.out⟩
  have OM := hid (okM_good (p := p) (c := c) (R := R) ⟨h1, h2, h3, h4⟩)
  obtain ⟨c, rfl⟩ : ∃ k : Nat, c = k := ⟨c.toNat, by omega⟩
  have h4i : (R.length : Int) ≤ 6 := by omega
  clear h1
  obtain ⟨N, HN⟩ : ∃ N, Hid (R.length = N) := ⟨_, rfl⟩
  rw [HN.out] at hlen h4 h4i x0 x1 x2 X0 B0 RX ⊢
  go_enter Try.func6, Try.ntmps6
  go_wp2_with fail
  refine (PR.out _).mono ?_
  rintro e w2 ⟨rfl, h2⟩
  obtain rfl := h2.symm
  clear h2 PR
  go_wp2_with fail
  clear x0 x1 x2
  obtain ⟨W0, hW0⟩ : ∃ W0, w.alloc (.cells #[.int .i64 p, .int .i64 (c : Int), .slice a N cap] 27) = W0 := ⟨_, rfl⟩
  rw [hW0] at X0 B0 RX ⊢
  clear hW0
  go_loopw [3, 4, 5] (fun ok i _ wr => ∃ (t : Nat) (q : Bool), t ≤ N ∧ ok = .bool q ∧ i = .int .i64 t ∧ Hid (R.all (rowB p c) = (q && (R.drop t).all (rowB p c))) ∧ Hid (Below W0.heap.size W0 wr)) (fun _ i _ _ => N - (intOf i).toNat)
  case atStart => exact ⟨0, true, Nat.zero_le _, rfl, rfl, by simp [Hid], Below.refl _ _⟩
  case round =>
    obtain ⟨t, q, ht, rfl, rfl, HA, HB⟩ := hrel
    have X1 := hid (box_keep X0.out HB.out)
    obtain ⟨x0, x1, x2⟩ := three_cells X1.out
    have HBW := hid (B0.out.trans (HB.out.mono B0.out.size))
    cases q with
    | false =>
      have AF : Hid (okM p c R = false) := by show _ = _; rw [OM.out, HA.out]; rfl
      clear HA HB X1
      go_wp2_with fail
      go_ret
      exact ⟨by rw [AF.out]; rfl, HBW.out⟩
    | true =>
      by_cases hlt : t < N
      · have hti : (t : Int) < (N : Int) := by omega
        obtain ⟨a1, c1, e1, -, k1⟩ := RX.out.below HB.out
        obtain ⟨rfl, -, rfl⟩ : a = a1 ∧ N = R.length ∧ cap = c1 := by simpa using e1
        obtain ⟨rb, ro, rfl, k2, k3⟩ := k1 (by have := HN.out; omega)
        obtain ⟨u, k4, k5⟩ := k3 t (by rw [HN.out]; exact hlt)
        have AS := hid (all_step (f := rowB p c) (R := R) (i := t) (by rw [HN.out]; exact hlt))
        obtain ⟨l, HL⟩ : ∃ l, Hid (R.getD t [] = l) := ⟨_, rfl⟩
        rw [HL.out] at k5 AS
        have HI := hid k5
        obtain ⟨la, lc, rfl, hll, hlc⟩ := k5
        have K4 := hid k4
        have RC := hid k2
        clear e1 k1 k3 hlc
        -- the length of the row
        have E0 : Hid (rowB p c l = (((l.length : Int) == (c : Int)) && (l.drop 0).all fun x => inB x p)) := rfl
        obtain ⟨q0, hq0⟩ : ∃ q0, ((l.length : Int) == (c : Int)) = q0 := ⟨_, rfl⟩
        have HQ0 : Hid (q0 = true → l.length = c) := fun e => by rw [← hq0] at e; simp at e; omega
        rw [hq0] at E0
        go_wp2_with fail
        go_quiet (fail)
        go_wp2_with fail
        clear k4 x0 x1 x2 hq0
        go_loopw [3, 5] (fun ok i wr => ∃ (k : Nat) (q : Bool), k ≤ c ∧ ok = .bool q ∧ i = .int .i64 k ∧ Hid (rowB p c l = (q && (l.drop k).all fun x => inB x p)) ∧ Hid (q = true → l.length = c) ∧ Hid (Below W0.heap.size W0 wr)) (fun _ i _ => c - (intOf i).toNat)
        case atStart => exact ⟨0, q0, Nat.zero_le _, rfl, rfl, E0.out, HQ0.out, below_drewN HB.out _⟩
        case round =>
          obtain ⟨k, q, hk, rfl, rfl, HE, HQ, HD⟩ := hrel
          have X2 := hid (box_keep X0.out HD.out)
          obtain ⟨x0, x1, x2⟩ := three_cells X2.out
          cases q with
          | false =>
            have NA : Hid (R.all (rowB p c) = (false && (R.drop (t + 1)).all (rowB p c))) := by show _ = _; rw [HA.out, AS.out, HE.out]; simp
            clear HA HE HQ AS
            go_wp2_with fail
            exact ⟨⟨t + 1, false, by omega, rfl, by go_num, NA.out, HD.out⟩, by simp [intOf]; omega⟩
          | true =>
            have hlc := HQ.out rfl
            by_cases hkc : k < c
            · have hki : (k : Int) < (c : Int) := by omega
              obtain ⟨a2, c2, e2, -, k7⟩ := RX.out.below HD.out
              obtain ⟨e3, -, rfl⟩ : some ⟨rb, ro, none⟩ = a2 ∧ N = R.length ∧ cap = c2 := by simpa using e2
              subst e3
              obtain ⟨rb', ro', e4, -, k8⟩ := k7 (by have := HN.out; omega)
              obtain ⟨rfl, rfl⟩ : rb = rb' ∧ ro = ro' := by simpa using e4
              obtain ⟨u', k9, k10⟩ := k8 t (by rw [HN.out]; exact hlt)
              rw [HL.out] at k10
              obtain ⟨la', lc', rfl, -, hlc'⟩ := k10
              obtain ⟨lb, lo, rfl, -, hcell⟩ := hlc' (by omega)
              have ck := hcell k (by omega)
              have AI := hid (all_stepI (f := fun x => inB x p) (R := l) (i := k) (by omega))
              obtain ⟨x, hx⟩ : ∃ x, l.getD k 0 = x := ⟨_, rfl⟩
              rw [hx] at ck AI
              have hkl : (k : Int) < (l.length : Int) := by omega
              have HLC := hid hlc
              clear hlc
              clear hcell hlc' k8 k7 hx e2 e4 RC K4 HI
              by_cases e0 : 0 ≤ x
              · have d0 : decide (0 ≤ x) = true := by simpa using e0
                by_cases e1 : x < p
                · have d1 : decide (x < p) = true := by simpa using e1
                  have NE : Hid (rowB p c l = (true && (l.drop (k + 1)).all fun x => inB x p)) := by
                    show _ = _
                    rw [HE.out, AI.out]; simp [inB, e0, e1]
                  clear HE HQ AI HA AS
                  go_wp2_with fail
                  go_quiet (fail)
                  go_wp2_with fail
                  go_roundw
                  case rel => exact ⟨k + 1, true, by omega, rfl, by go_num, NE.out, fun _ => HLC.out, below_drewN HD.out _⟩
                  case measure => simp [intOf]; omega
                · have d1 : decide (x < p) = false := by simpa using e1
                  have NE : Hid (rowB p c l = (false && (l.drop (k + 1)).all fun x => inB x p)) := by
                    show _ = _
                    rw [HE.out, AI.out]; simp [inB, e1]
                  clear HE HQ AI HA AS
                  go_wp2_with fail
                  go_quiet (fail)
                  go_wp2_with fail
                  go_roundw
                  case rel => exact ⟨k + 1, false, by omega, rfl, by go_num, NE.out, fun _ => HLC.out, below_drewN HD.out _⟩
                  case measure => simp [intOf]; omega
              · have d0 : decide (0 ≤ x) = false := by simpa using e0
                have NE : Hid (rowB p c l = (false && (l.drop (k + 1)).all fun x => inB x p)) := by
                  show _ = _
                  rw [HE.out, AI.out]; simp [inB, e0]
                clear HE HQ AI HA AS
                go_wp2_with fail
                go_quiet (fail)
                go_wp2_with fail
                go_roundw
                case rel => exact ⟨k + 1, false, by omega, rfl, by go_num, NE.out, fun _ => HLC.out, below_drewN HD.out _⟩
                case measure => simp [intOf]; omega
            · obtain rfl : k = c := by omega
              have hnk : ¬ (k : Int) < (k : Int) := by omega
              have NA : Hid (R.all (rowB p k) = (true && (R.drop (t + 1)).all (rowB p k))) := by
                show _ = _
                rw [HA.out, AS.out, HE.out, List.drop_of_length_le (by omega)]; simp
              clear HA HE HQ AS hlc
              go_wp2_with fail
              exact ⟨⟨t + 1, true, by omega, rfl, by go_num, NA.out, HD.out⟩, by simp [intOf]; omega⟩
      · obtain rfl : t = N := by omega
        have hne : ¬ (t : Int) < (t : Int) := by omega
        have AF : Hid (okM p c R = true) := by show _ = _; rw [OM.out, HA.out, List.drop_of_length_le (by have := HN.out; omega)]; rfl
        clear HA HB X1
        go_wp2_with fail
        go_ret
        exact ⟨by rw [AF.out]; rfl, HBW.out⟩
end Go.Proofs.Ytihddkdkhdallaa
