/- kinds.CheckMatrix. -/
import Derived.Test.YtlmpeacgjafcjaaKLpQ
import Derived.Test.YtlmpeacgjafcjaaKGraphQ
namespace Go.Proofs.Ytlmpeacgjafcjaa
open Go.RowKit

/-- v is a slice that holds these rows. -/
def RowsI (w : World) (v : Value) (R : List (List Int)) : Prop := ∃ a cap, v = .slice a R.length cap ∧ R.length ≤ 17592186044416 ∧ (0 < R.length → ∃ b off, a = some ⟨b, off, none⟩ ∧ b < w.heap.size ∧ ∀ i, i < R.length → ∃ u, w.cell? ⟨b, off + i, none⟩ = some u ∧ Ints w u (R.getD i []))
theorem RowsI.below {w w' : World} {v : Value} {R : List (List Int)} (h : RowsI w v R) (hb : Below w.heap.size w w') : RowsI w' v R := by
  obtain ⟨a, cap, h1, h2, hc⟩ := h
  refine ⟨a, cap, h1, h2, fun hn => ?_⟩
  obtain ⟨b, off, h3, h4, h5⟩ := hc hn
  refine ⟨b, off, h3, Nat.lt_of_lt_of_le h4 hb.size, fun i hi => ?_⟩
  obtain ⟨u, h6, h7⟩ := h5 i hi
  exact ⟨u, (hb.cell (p := ⟨b, off + i, none⟩) h4).trans h6, h7.below hb⟩
def mduB (p : Int) : Bool := p == 2 || p == 3 || p == 5 || p == 7
theorem mduB_iff (p : Int) : mduB p = true ↔ isP p := by
  unfold mduB isP
  simp
  omega
def rowB (p c : Int) (r : List Int) : Bool := (r.length : Int) == c && r.all fun v => inB v p
/-- What is wrong with a matrix. -/
def matR (p c : Int) (R : List (List Int)) : Int := if mduB p = true ∧ 0 ≤ c ∧ c ≤ 8 ∧ R.length ≤ 6 ∧ R.all (rowB p c) = true then 0 else 1
set_option maxRecDepth 20000 in
theorem isModulus_any (p : Int) (w : World) : Calls Try.prog 35 #[.int .i64 p] w fun e w' => e = .returned (.bool (mduB p)) ∧ w' = w := by
  by_cases h2 : p = 2
  · subst h2
    go_enter Try.func35, Try.ntmps35
    go_wp2_with fail
    go_ret
    exact ⟨rfl, rfl⟩
  · by_cases h3 : p = 3
    · subst h3
      go_enter Try.func35, Try.ntmps35
      go_wp2_with fail
      go_ret
      exact ⟨rfl, rfl⟩
    · by_cases h5 : p = 5
      · subst h5
        go_enter Try.func35, Try.ntmps35
        go_wp2_with fail
        go_ret
        exact ⟨rfl, rfl⟩
      · have e2 : (p == 2) = false := by rw [beq_eq_false_iff_ne]; exact h2
        have e3 : (p == 3) = false := by rw [beq_eq_false_iff_ne]; exact h3
        have e5 : (p == 5) = false := by rw [beq_eq_false_iff_ne]; exact h5
        have E : Hid (mduB p = (p == 7)) := by show _ = _; unfold mduB; rw [e2, e3, e5]; rfl
        go_enter Try.func35, Try.ntmps35
        go_wp2_with fail
        go_ret
        exact ⟨by rw [E.out]; rfl, rfl⟩
set_option maxRecDepth 20000 in
theorem areBelow_any (v : Value) (zs : List Int) (n : Int) (w : World) (h : Ints w v zs) : Calls Try.prog 36 #[v, .int .i64 n] w fun e w' => e = .returned (.bool (zs.all fun x => inB x n)) ∧ w' = w := by
  obtain ⟨a, cap, rfl, hlen, hc⟩ := h
  have IB := hid (fun v w' => isBelow_any v n w')
  have HT : Hid (∀ k, k < zs.length → (zs.take (k + 1)).all (fun x => inB x n) = ((zs.take k).all (fun x => inB x n) && inB (zs.getD k 0) n)) := fun k hk => by
    rw [List.take_add_one, List.all_append]
    simp [List.getD, hk]
  have HE : Hid ((zs.take zs.length).all (fun x => inB x n) = zs.all fun x => inB x n) := by show _ = _; rw [List.take_length]
  have HF : Hid (∀ k, k < zs.length → inB (zs.getD k 0) n = false → (zs.all fun x => inB x n) = false) := fun k hk hf => by
    rw [Bool.eq_false_iff]
    intro c
    have := List.all_eq_true.1 c (zs.getD k 0) (by simp only [List.getD, List.getElem?_eq_getElem hk, Option.getD_some]; exact List.getElem_mem _)
    rw [hf] at this
    cases this
  go_enter Try.func36, Try.ntmps36
  go_wp2_with fail
  go_loop [6, 9] (fun _ i => ∃ k : Nat, k ≤ zs.length ∧ i = .int .i64 k ∧ Hid ((zs.take k).all (fun x => inB x n) = true)) (fun _ i => zs.length - (intOf i).toNat)
  case atStart => exact ⟨0, Nat.zero_le _, rfl, rfl⟩
  case round =>
    obtain ⟨k, hk, rfl, R⟩ := hrel
    by_cases hlt : k < zs.length
    · obtain ⟨b, off, rfl, hb, hcell⟩ := hc (by omega)
      have hck := hcell k hlt
      have hki : (k : Int) < (zs.length : Int) := by omega
      have F1 := hid (HT.out k hlt)
      have F2 := hid (HF.out k hlt)
      clear hcell hc
      generalize zs.getD k 0 = x at *
      have HX := hid (fun w => IB.out x w)
      rcases hbx : inB x n with _ | _
      · rw [hbx] at HX F2
        have F3 := hid (F2.out rfl)
        clear F1 F2
        go_wp2_with fail
        refine (HX.out _).mono ?_
        rintro e w2 ⟨rfl, h2⟩
        obtain rfl := h2.symm
        go_wp2_with fail
        go_ret
        exact ⟨by rw [F3.out]; rfl, rfl⟩
      · rw [hbx] at HX F1
        have F3 : Hid ((zs.take (k + 1)).all (fun x => inB x n) = true) := by show _ = _; rw [F1.out, R.out]; rfl
        clear F1 F2
        go_wp2_with fail
        refine (HX.out _).mono ?_
        rintro e w2 ⟨rfl, h2⟩
        obtain rfl := h2.symm
        go_wp2_with fail
        go_round
        case rel => exact ⟨k + 1, by omega, by go_num, F3.out⟩
        case measure => simp [intOf]; omega
    · obtain rfl : k = zs.length := by omega
      have D2 : Hid ((zs.all fun x => inB x n) = true) := HE.out.symm.trans R.out
      go_wp2_with fail
      go_ret
      exact ⟨by rw [D2.out]; rfl, rfl⟩
theorem below_boxMx (w : World) (cs : Array Value) : Below w.heap.size w (w.alloc (.cells cs 27)) := (Below.refl _ _).alloc (Nat.le_refl _) _
theorem three_cells {W : World} {b : Nat} {x y z : Value} {t : TypeId} (h : W.heap[b]? = some (.cells #[x, y, z] t (0, 0))) : W.cell? ⟨b, 0, none⟩ = some x ∧ W.cell? ⟨b, 1, none⟩ = some y ∧ W.cell? ⟨b, 2, none⟩ = some z := by
  refine ⟨?_, ?_, ?_⟩ <;> simp [World.cell?, h]
set_option maxRecDepth 20000 in
set_option maxHeartbeats 4000000 in
theorem CheckMatrix_any (p c : Int) (v : Value) (R : List (List Int)) (w : World) (h : RowsI w v R) :
    Calls Try.prog 18 #[.agg #[.int .i64 p, .int .i64 c, v]] w fun e w' => e = .returned (.int .i64 (matR p c R)) ∧ Below w.heap.size w w' := by
  obtain ⟨a, cap, rfl, hlen, hc⟩ := h
  have HB0 := hid (below_boxMx w #[.int .i64 p, .int .i64 c, .slice a R.length cap])
  have HN := hid (World.alloc_heap_new w (.cells #[.int .i64 p, .int .i64 c, .slice a R.length cap] 27))
  have IM := hid (fun w' => isModulus_any p w')
  rcases hm : mduB p with _ | _
  · rw [hm] at IM
    have F1 : Hid (matR p c R = 1) := by show _ = _; unfold matR; rw [if_neg (by rw [hm]; intro d; exact absurd d.1 (by decide))]
    clear hm
    go_enter Try.func18, Try.ntmps18
    go_wp2_with fail
    refine (IM.out _).mono ?_
    rintro e w2 ⟨rfl, h2⟩
    obtain rfl := h2.symm
    go_wp2_with fail
    go_ret
    exact ⟨ret_int F1.out.symm, HB0.out⟩
  · rw [hm] at IM
    by_cases hc0 : c < 0
    · have hd : decide (c < 0) = true := by simpa using hc0
      have F1 : Hid (matR p c R = 1) := by show _ = _; unfold matR; rw [if_neg (by omega)]
      clear hm
      go_enter Try.func18, Try.ntmps18
      go_wp2_with fail
      refine (IM.out _).mono ?_
      rintro e w2 ⟨rfl, h2⟩
      obtain rfl := h2.symm
      go_wp2_with fail
      go_ret
      exact ⟨ret_int F1.out.symm, HB0.out⟩
    · have hd : decide (c < 0) = false := by simpa using hc0
      by_cases hc8 : 8 < c
      · have hd8 : decide (8 < c) = true := by simpa using hc8
        have F1 : Hid (matR p c R = 1) := by show _ = _; unfold matR; rw [if_neg (by omega)]
        clear hm
        go_enter Try.func18, Try.ntmps18
        go_wp2_with fail
        refine (IM.out _).mono ?_
        rintro e w2 ⟨rfl, h2⟩
        obtain rfl := h2.symm
        go_wp2_with fail
        go_ret
        exact ⟨ret_int F1.out.symm, HB0.out⟩
      · have hd8 : decide (8 < c) = false := by simpa using hc8
        by_cases h6 : 6 < R.length
        · have hd6 : decide ((6 : Int) < (R.length : Int)) = true := by simp; omega
          have hd9 : (6 : Int) < (R.length : Int) := by omega
          have F1 : Hid (matR p c R = 1) := by show _ = _; unfold matR; rw [if_neg (by omega)]
          clear hm
          go_enter Try.func18, Try.ntmps18
          go_wp2_with fail
          refine (IM.out _).mono ?_
          rintro e w2 ⟨rfl, h2⟩
          obtain rfl := h2.symm
          go_wp2_with fail
          go_ret
          exact ⟨ret_int F1.out.symm, HB0.out⟩
        · have hd6 : decide ((6 : Int) < (R.length : Int)) = false := by simp; omega
          have hd9 : decide (6 < R.length) = false := by simp; omega
          have GR : Hid (matR p c R = if R.all (rowB p c) = true then 0 else 1) := by
            show _ = _
            unfold matR
            by_cases d : R.all (rowB p c) = true
            · rw [if_pos d, if_pos ⟨hm, by omega, by omega, by omega, d⟩]
            · rw [if_neg d, if_neg (fun e => d e.2.2.2.2)]
          clear hm
          have HT : Hid (∀ k, k < R.length → (R.take (k + 1)).all (rowB p c) = ((R.take k).all (rowB p c) && rowB p c (R.getD k []))) := fun k hk => by
            rw [List.take_add_one, List.all_append]
            simp [List.getD, hk]
          have HE : Hid ((R.take R.length).all (rowB p c) = R.all (rowB p c)) := by show _ = _; rw [List.take_length]
          have HF : Hid (∀ k, k < R.length → rowB p c (R.getD k []) = false → matR p c R = 1) := fun k hk hf => by
            rw [GR.out, if_neg]
            intro d
            have := List.all_eq_true.1 d (R.getD k []) (by simp only [List.getD, List.getElem?_eq_getElem hk, Option.getD_some]; exact List.getElem_mem _)
            rw [hf] at this
            cases this
          have HC : Hid (∀ k, k < R.length → ∃ b off, a = some ⟨b, off, none⟩ ∧ ∃ u, (w.alloc (.cells #[.int .i64 p, .int .i64 c, .slice a R.length cap] 27)).cell? ⟨b, off + k, none⟩ = some u ∧ Ints (w.alloc (.cells #[.int .i64 p, .int .i64 c, .slice a R.length cap] 27)) u (R.getD k [])) := fun k hk => by
            obtain ⟨b, off, h1, h2, h3⟩ := hc (by omega)
            obtain ⟨u, h4, h5⟩ := h3 k hk
            exact ⟨b, off, h1, u, (HB0.out.cell (p := ⟨b, off + k, none⟩) h2).trans h4, h5.below HB0.out⟩
          clear hc
          go_enter Try.func18, Try.ntmps18
          go_wp2_with fail
          refine (IM.out _).mono ?_
          rintro e w2 ⟨rfl, h2⟩
          obtain rfl := h2.symm
          go_wp2_with fail
          revert HB0 HN HC
          generalize w.alloc (.cells #[.int .i64 p, .int .i64 c, .slice a R.length cap] 27) = W0
          intro HB0 HN HC
          obtain ⟨n0, n1, n2⟩ := three_cells HN.out
          go_loop [4, 28] (fun _ i => ∃ k : Nat, k ≤ R.length ∧ i = .int .i64 k ∧ Hid ((R.take k).all (rowB p c) = true)) (fun _ i => R.length - (intOf i).toNat)
          case atStart => exact ⟨0, Nat.zero_le _, rfl, rfl⟩
          case round =>
            obtain ⟨k, hk, rfl, Q⟩ := hrel
            by_cases hlt : k < R.length
            · obtain ⟨b, off, rfl, u, hcu, hu⟩ := HC.out k hlt
              have hki : (k : Int) < (R.length : Int) := by omega
              have F1 := hid (HT.out k hlt)
              have F2 := hid (HF.out k hlt)
              generalize R.getD k [] = r at *
              have AB := hid (areBelow_any u r p W0 hu)
              obtain ⟨ra, rcap, rfl, hrl, -⟩ := hu
              clear HC
              by_cases hrc : (r.length : Int) = c
              · have hrc' : ((r.length : Int) != c) = false := by simpa using hrc
                have hE1 : ((r.length : Int) == c) = true := by simpa using hrc
                rcases hbx : r.all (fun x => inB x p) with _ | _
                · rw [hbx] at AB
                  have F3 := hid (F2.out (by unfold rowB; rw [hbx, Bool.and_false]))
                  clear F1 F2 hrc hE1 hbx
                  go_wp2_with fail
                  refine AB.out.mono ?_
                  rintro e w2 ⟨rfl, h2⟩
                  obtain rfl := h2.symm
                  go_wp2_with fail
                  go_ret
                  exact ⟨ret_int F3.out.symm, HB0.out⟩
                · rw [hbx] at AB
                  have F3 : Hid ((R.take (k + 1)).all (rowB p c) = true) := by
                    show _ = _
                    rw [F1.out, Q.out]
                    unfold rowB
                    rw [hbx, hE1]
                    rfl
                  clear F1 F2 hrc hE1 hbx
                  go_wp2_with fail
                  refine AB.out.mono ?_
                  rintro e w2 ⟨rfl, h2⟩
                  obtain rfl := h2.symm
                  go_wp2_with fail
                  go_round
                  case rel => exact ⟨k + 1, by omega, by go_num, F3.out⟩
                  case measure => simp [intOf]; omega
              · have hrc' : ((r.length : Int) != c) = true := by simpa using hrc
                have F3 := hid (F2.out (by unfold rowB; rw [show ((r.length : Int) == c) = false by simpa using hrc]; rfl))
                clear F1 F2 hrc AB
                go_wp2_with fail
                go_ret
                exact ⟨ret_int F3.out.symm, HB0.out⟩
            · obtain rfl : k = R.length := by omega
              have D2 : Hid (matR p c R = 0) := by
                show _ = _
                rw [GR.out, if_pos (HE.out.symm.trans Q.out)]
              go_wp2_with fail
              go_ret
              exact ⟨ret_int D2.out.symm, HB0.out⟩
end Go.Proofs.Ytlmpeacgjafcjaa
