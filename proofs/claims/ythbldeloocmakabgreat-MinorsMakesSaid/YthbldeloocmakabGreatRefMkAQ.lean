/- The document's classes, components, free elements: rotaref.Classes, Components, Freed. -/
import Derived.Test.YthbldeloocmakabGreatRefMinQ
import Derived.Test.YthbldeloocmakabGreatRefAxCQ
import Derived.Test.YthbldeloocmakabGreatRefLeastQ
import Derived.Test.YthbldeloocmakabGreatPlainAll
import Derived.Test.YthbldeloocmakabGreatEqQ
namespace Go.Proofs.YthbldeloocmakabGreat
open Go.RowKit

theorem pow8 {i : Nat} (h : i < 8) : wrap64 (2 ^ i) = ((2 ^ i : Nat) : Int) := (pow_wrap i (by omega)).1
theorem powW {i : Nat} (h : i < 8) : IntKind.i64.wrap (2 ^ i) = ((2 ^ i : Nat) : Int) := by
  rw [IntWalk.i64_left]
  exact pow8 h
theorem els_lt8 {s i : Nat} (hs : s < 256) (h : i ∈ els s) : i < 8 := bit8 hs ((mem_els hs).1 h)
theorem cls_split {r : Nat → Nat} {n s : Nat} : dclB r n s = (!(s == 0) && decide (r s ≤ 1) && (els s).all (fun i => r (2 ^ i) == r s) && (List.range n).all fun i => !(!s.testBit i && r (2 ^ i) == r s && r (s ||| 2 ^ i) == r s)) := rfl
theorem all_dropK {p : Nat → Bool} {l : List Nat} {k : Nat} (h : k < l.length) : (l.drop k).all p = (p (l.getD k 0) && (l.drop (k + 1)).all p) := by
  rw [List.drop_eq_getElem_cons h, List.all_cons]
  simp [List.getD, h]
set_option maxRecDepth 20000 in
set_option maxHeartbeats 4000000 in
theorem ClassesQ_ok (s bR bM n : Nat) (v : Value) (r : Nat → Nat) (w : World) (hn : n ≤ 8) (hs : s < 2 ^ n) (hr8 : ∀ i, r i ≤ 8)
    (hR : w.cell? ⟨bR, 0, none⟩ = some v) (hM : w.cell? ⟨bM, 0, none⟩ = some (.int .i64 n)) (hv : RkAt w v (2 ^ n) r) :
    Calls Tryz.prog 36 #[.int .i64 s, .pointer (some ⟨bR, 0, none⟩), .pointer (some ⟨bM, 0, none⟩)] w fun e w' => e = .returned (.bool (dclB r n s)) ∧ Below w.heap.size w w' := by
  have s8 := lt256 hn hs
  have HV := hid hv
  obtain ⟨rb, roff, rcap, rfl, h1, h2⟩ := hv
  have HE := hid (Elements_any s w s8)
  have hel8 : (els s).length ≤ 8 := by rw [← pop_els]; exact pop_le s s8
  have HEL : Hid (∀ k, k < (els s).length → (els s).getD k 0 < n) := fun k hk => bit_n hs ((mem_els s8).1 (by simp only [List.getD, List.getElem?_eq_getElem hk, Option.getD_some]; exact List.getElem_mem _))
  have HC := hid h2
  have HBR := hid (World.block_lt_of_cell? w _ hR)
  have HBM := hid (World.block_lt_of_cell? w _ hM)
  have hlt1 : rb < w.heap.size := h1
  have D0 := hid (cls_split (r := r) (n := n) (s := s))
  obtain ⟨Q, HQ⟩ : ∃ Q, Hid (dclB r n s = Q) := ⟨_, rfl⟩
  rw [HQ.out] at D0 ⊢
  obtain ⟨T, HT, hT2⟩ : ∃ T : Nat, Hid (2 ^ n = T) ∧ T ≤ 256 := ⟨2 ^ n, Eq.refl (2 ^ n), (pow_wrap _ hn).2⟩
  have HPW : Hid (∀ i, i < n → 2 ^ i < T ∧ s ||| 2 ^ i < T) := fun i hi => by rw [← HT.out]; exact ⟨Nat.pow_lt_pow_right (by decide) hi, ad_lt hs hi⟩
  rw [HT.out] at hs HC HV
  rw [HT.out] at hR
  clear h2
  by_cases hs0 : s = 0
  · subst hs0
    have E : Hid (Q = false) := by show _ = _; rw [D0.out]; rfl
    clear D0 HE HEL
    go_enter Tryz.func36, Tryz.ntmps36
    go_wp2_with fail
    go_ret
    exact ⟨ret_bool E.out.symm, Below.refl _ _⟩
  · have hs0' : ((s : Int) == 0) = false := by rw [beq_eq_false_iff_ne]; omega
    have hcs := HC.out s hs
    have hsT : (s : Int) < (T : Int) := by omega
    have hrs := hr8 s
    by_cases hr1 : r s ≤ 1
    · have hr1' : ¬ (1 : Int) < (r s : Int) := by omega
      have D1 : Hid (Q = ((els s).all (fun i => r (2 ^ i) == r s) && (List.range n).all fun i => !(!s.testBit i && r (2 ^ i) == r s && r (s ||| 2 ^ i) == r s))) := by
        show _ = _
        rw [D0.out, decide_eq_true hr1, show (s == 0) = false from beq_eq_false_iff_ne.2 hs0]
        rfl
      clear D0 hs0 HQ
      go_enter Tryz.func36, Tryz.ntmps36
      go_wp2_with fail
      refine HE.out.mono ?_
      rintro e w1 ⟨ev, rfl, ho1, hb1⟩
      have HB1 := hid hb1
      have HI1 := hid (ho1.ints (by omega))
      obtain ⟨ea, ec, rfl⟩ := ownsRow_form' ho1
      clear hb1 ho1 HE
      generalize hE2 : els s = E at *
      have hT1 : E.length ≤ 8 := hel8
      go_wp2_with fail
      go_loopw [6] (fun i wr => ∃ k : Nat, k ≤ E.length ∧ i = .int .i64 k ∧ Hid (E.all (fun i => r (2 ^ i) == r s) = (E.drop k).all (fun i => r (2 ^ i) == r s)) ∧ Hid (Below w1.heap.size w1 wr)) (fun i _ => E.length - (intOf i).toNat)
      case atStart => exact ⟨0, Nat.zero_le _, rfl, rfl, Below.refl _ _⟩
      case round =>
        obtain ⟨k, hk, rfl, R, HW⟩ := hrel
        have hBw := HB1.out.trans (HW.out.mono HB1.out.size)
        have c1 := (hBw.cell (p := ⟨bR, 0, none⟩) HBR.out).trans hR
        have c2 := (hBw.cell (p := ⟨rb, roff + s, none⟩) hlt1).trans hcs
        by_cases hlt : k < E.length
        · have hki : (k : Int) < (E.length : Int) := by omega
          obtain ⟨eb, eo, rfl, hce⟩ : ∃ eb eo, ea = some ⟨eb, eo, none⟩ ∧ wr.cell? ⟨eb, eo + k, none⟩ = some (.int .i64 (E.getD k 0 : Nat)) := by
            obtain ⟨q1, q2, q3, _, q5⟩ := (HI1.out.below HW.out).nats
            obtain ⟨b0, off0, rfl, hbb, hcl⟩ := q5 (by omega)
            obtain ⟨rfl, rfl⟩ : ea = some ⟨b0, off0, none⟩ ∧ ec = q2 := by simpa using q3
            exact ⟨b0, off0, rfl, hcl k hlt⟩
          have hin := HEL.out k hlt
          obtain ⟨hp1, _⟩ := HPW.out _ hin
          have c3 := (hBw.cell (p := ⟨rb, roff + 2 ^ (E.getD k 0), none⟩) hlt1).trans (HC.out _ hp1)
          have D := hid (all_dropK (p := fun i => r (2 ^ i) == r s) hlt)
          have hrx := hr8 (2 ^ E.getD k 0)
          have hx8' : E.getD k 0 < 8 := by omega
          have hpw := pow8 hx8'
          have hpW := powW hx8'
          have hBwH := hid hBw
          clear HC HEL HPW HI1 hBw
          generalize E.getD k 0 = x at *
          have hx0 : (0 : Int) ≤ (x : Int) := Int.natCast_nonneg x
          have hx8 : (x : Int) < 8 := Int.ofNat_lt.2 hx8'
          generalize r (2 ^ x) = rx at *
          generalize 2 ^ x = px at *
          have hpT : (px : Int) < (T : Int) := Int.ofNat_lt.2 hp1
          by_cases hq : rx = r s
          · have hq' : ((rx : Int) == (r s : Int)) = true := by rw [hq]; simp
            have E1 : Hid (E.all (fun i => r (2 ^ i) == r s) = (E.drop (k + 1)).all (fun i => r (2 ^ i) == r s)) := by show _ = _; rw [R.out, D.out, hq]; simp
            clear hq D R D1
            generalize r s = rs at *
            go_wp2_with fail
            go_quiet (fail)
            go_wp2_with fail
            go_roundw
            case rel => exact ⟨k + 1, by omega, by go_num, E1, HW.out.trans (drewN_below _ _ _)⟩
            case measure => simp [intOf]; omega
          · have hq' : ((rx : Int) == (r s : Int)) = false := by rw [beq_eq_false_iff_ne]; omega
            have E1 : Hid (Q = false) := by
              show _ = _
              rw [D1.out, R.out, D.out]
              have : (rx == r s) = false := by rw [beq_eq_false_iff_ne]; exact hq
              simp [this]
            clear hq D R D1
            generalize r s = rs at *
            go_wp2_with fail
            go_quiet (fail)
            go_wp2_with fail
            go_ret
            exact ⟨ret_bool E1.out.symm, hBwH.out.trans (drewN_below _ _ _)⟩
        · obtain rfl : k = E.length := by omega
          have D2 : Hid (Q = (List.range n).all fun i => !(!s.testBit i && r (2 ^ i) == r s && r (s ||| 2 ^ i) == r s)) := by
            show _ = _
            rw [D1.out, R.out, List.drop_length]
            rfl
          obtain ⟨p, HP⟩ : ∃ p : Nat → Bool, Hid ((fun i => !(!s.testBit i && r (2 ^ i) == r s && r (s ||| 2 ^ i) == r s)) = p) := ⟨_, rfl⟩
          have HPX : Hid (∀ i, p i = !(!s.testBit i && r (2 ^ i) == r s && r (s ||| 2 ^ i) == r s)) := fun i => by rw [← HP.out]
          rw [HP.out] at D2
          have HRG : Hid (∀ k, k < n → (List.range n).getD k 0 = k) := fun k hk => by simp [List.getD, hk]
          have hRL : (List.range n).length = n := List.length_range
          have HBW := hid hBw
          clear D1 R HP HEL HI1 HW hBw
          generalize wr = wA at *
          go_wp2_with fail
          go_loopw [7] (fun i wr => ∃ k : Nat, k ≤ n ∧ i = .int .i64 k ∧ Hid ((List.range n).all p = ((List.range n).drop k).all p) ∧ Hid (Below wA.heap.size wA wr)) (fun i _ => n - (intOf i).toNat)
          case atStart => exact ⟨0, Nat.zero_le _, rfl, rfl, Below.refl _ _⟩
          case round =>
            obtain ⟨k, hk, rfl, R, HW⟩ := hrel
            have hBw := HBW.out.trans (HW.out.mono HBW.out.size)
            have c1 := (hBw.cell (p := ⟨bR, 0, none⟩) HBR.out).trans hR
            have c2 := (hBw.cell (p := ⟨rb, roff + s, none⟩) hlt1).trans hcs
            have c5 := (hBw.cell (p := ⟨bM, 0, none⟩) HBM.out).trans hM
            by_cases hlt : k < n
            · have hki : (k : Int) < (n : Int) := by omega
              obtain ⟨hp1, hp2⟩ := HPW.out _ hlt
              have IN := hid (fun w => In_any s k w s8 (by omega))
              have c3 : ∀ x : Later wr, x.now.cell? ⟨rb, roff + 2 ^ k, none⟩ = some (.int .i64 (r (2 ^ k) : Nat)) := fun x => ((hBw.trans (x.kept.mono hBw.size)).cell (p := ⟨rb, roff + 2 ^ k, none⟩) hlt1).trans (HC.out _ hp1)
              have c4 : ∀ x : Later wr, x.now.cell? ⟨rb, roff + (s ||| 2 ^ k), none⟩ = some (.int .i64 (r (s ||| 2 ^ k) : Nat)) := fun x => ((hBw.trans (x.kept.mono hBw.size)).cell (p := ⟨rb, roff + (s ||| 2 ^ k), none⟩) hlt1).trans (HC.out _ hp2)
              have c1' : ∀ x : Later wr, x.now.cell? ⟨bR, 0, none⟩ = _ := fun x => ((hBw.trans (x.kept.mono hBw.size)).cell (p := ⟨bR, 0, none⟩) HBR.out).trans hR
              have c2' : ∀ x : Later wr, x.now.cell? ⟨rb, roff + s, none⟩ = _ := fun x => ((hBw.trans (x.kept.mono hBw.size)).cell (p := ⟨rb, roff + s, none⟩) hlt1).trans hcs
              have D := hid (all_dropK (p := p) (l := List.range n) (k := k) (by omega))
              rw [HRG.out k hlt, HPX.out k] at D
              have hor : bits .or .i64 (s : Int) ((2 ^ k : Nat) : Int) = ((s ||| 2 ^ k : Nat) : Int) := i64_or_nat _ _ (by omega) (by omega)
              have hk8 : k < 8 := by omega
              have hpw := pow8 hk8
              have hpW := powW hk8
              have HBH := hid hBw
              clear HC HPW HRG HPX hBw
              generalize r (s ||| 2 ^ k) = ry at *
              generalize s ||| 2 ^ k = so at *
              generalize r (2 ^ k) = rx at *
              generalize 2 ^ k = px at *
              generalize s.testBit k = tb at *
              have hpT : (px : Int) < (T : Int) := Int.ofNat_lt.2 hp1
              have hoT : (so : Int) < (T : Int) := by omega
              rcases tb with _ | _
              · by_cases hq : rx = r s
                · have hq' : ((rx : Int) == (r s : Int)) = true := by rw [hq]; simp
                  have hqb : (rx == r s) = true := by rw [hq]; simp
                  by_cases hy : ry = r s
                  · have hy' : ((ry : Int) == (r s : Int)) = true := by rw [hy]; simp
                    have hyb : (ry == r s) = true := by rw [hy]; simp
                    have E1 : Hid (Q = false) := by show _ = _; rw [D2.out, R.out, D.out, hqb, hyb]; simp
                    clear hq hy hqb hyb D R D2
                    generalize r s = rs at *
                    go_wp2_with fail
                    refine region_later (by kernel_rfl) (by kernel_rfl) ?_
                    repeat (go_big_quiet_step ((go_at_call 38; refine (IN.out _).mono ?_; rintro e w' ⟨rfl, rfl⟩; exact ⟨rfl, Later.on _ (Below.refl _ _)⟩)))
                    refine wpQuiet_nil ?_
                    intro wx hw'
                    obtain ⟨⟨yx, hbx⟩, hw''⟩ := hw'
                    dsimp only at hw''
                    subst hw''
                    have HBx := hid (HW.out.trans (hbx.mono HW.out.size))
                    have HBy := hid (HBH.out.trans (hbx.mono HBH.out.size))
                    clear hbx c1 c2 c3 c4 c5 c1' c2' HBH
                    go_wp2_with fail
                    go_ret
                    exact ⟨ret_bool E1.out.symm, HBy.out⟩
                  · have hy' : ((ry : Int) == (r s : Int)) = false := by rw [beq_eq_false_iff_ne]; omega
                    have hyb : (ry == r s) = false := by rw [beq_eq_false_iff_ne]; exact hy
                    have E1 : Hid ((List.range n).all p = ((List.range n).drop (k + 1)).all p) := by show _ = _; rw [R.out, D.out, hyb]; simp
                    clear hq hy hqb hyb D R D2
                    generalize r s = rs at *
                    go_wp2_with fail
                    refine region_later (by kernel_rfl) (by kernel_rfl) ?_
                    repeat (go_big_quiet_step ((go_at_call 38; refine (IN.out _).mono ?_; rintro e w' ⟨rfl, rfl⟩; exact ⟨rfl, Later.on _ (Below.refl _ _)⟩)))
                    refine wpQuiet_nil ?_
                    intro wx hw'
                    obtain ⟨⟨yx, hbx⟩, hw''⟩ := hw'
                    dsimp only at hw''
                    subst hw''
                    have HBx := hid (HW.out.trans (hbx.mono HW.out.size))
                    have HBy := hid (HBH.out.trans (hbx.mono HBH.out.size))
                    clear hbx c1 c2 c3 c4 c5 c1' c2' HBH
                    go_wp2_with fail
                    go_roundw
                    case rel => exact ⟨k + 1, by omega, by go_num, E1, HBx.out⟩
                    case measure => simp [intOf]; omega
                · have hq' : ((rx : Int) == (r s : Int)) = false := by rw [beq_eq_false_iff_ne]; omega
                  have hqb : (rx == r s) = false := by rw [beq_eq_false_iff_ne]; exact hq
                  have E1 : Hid ((List.range n).all p = ((List.range n).drop (k + 1)).all p) := by show _ = _; rw [R.out, D.out, hqb]; simp
                  clear hq hqb D R
                  generalize r s = rs at *
                  go_wp2_with fail
                  refine region_later (by kernel_rfl) (by kernel_rfl) ?_
                  repeat (go_big_quiet_step ((go_at_call 38; refine (IN.out _).mono ?_; rintro e w' ⟨rfl, rfl⟩; exact ⟨rfl, Later.on _ (Below.refl _ _)⟩)))
                  refine wpQuiet_nil ?_
                  intro wx hw'
                  obtain ⟨⟨yx, hbx⟩, hw''⟩ := hw'
                  dsimp only at hw''
                  subst hw''
                  have HBx := hid (HW.out.trans (hbx.mono HW.out.size))
                  have HBy := hid (HBH.out.trans (hbx.mono HBH.out.size))
                  clear hbx c1 c2 c3 c4 c5 c1' c2' HBH
                  go_wp2_with fail
                  go_roundw
                  case rel => exact ⟨k + 1, by omega, by go_num, E1, HBx.out⟩
                  case measure => simp [intOf]; omega
              · have E1 : Hid ((List.range n).all p = ((List.range n).drop (k + 1)).all p) := by show _ = _; rw [R.out, D.out]; simp
                clear D R
                generalize r s = rs at *
                go_wp2_with fail
                refine region_later (by kernel_rfl) (by kernel_rfl) ?_
                repeat (go_big_quiet_step ((go_at_call 38; refine (IN.out _).mono ?_; rintro e w' ⟨rfl, rfl⟩; exact ⟨rfl, Later.on _ (Below.refl _ _)⟩)))
                refine wpQuiet_nil ?_
                intro wx hw'
                obtain ⟨⟨yx, hbx⟩, hw''⟩ := hw'
                dsimp only at hw''
                subst hw''
                have HBx := hid (HW.out.trans (hbx.mono HW.out.size))
                have HBy := hid (HBH.out.trans (hbx.mono HBH.out.size))
                clear hbx c1 c2 c3 c4 c5 c1' c2' HBH
                go_wp2_with fail
                go_roundw
                case rel => exact ⟨k + 1, by omega, by go_num, E1, HBx.out⟩
                case measure => simp [intOf]; omega
            · obtain rfl : k = n := by omega
              have E1 : Hid (Q = true) := by show _ = _; rw [D2.out, R.out, List.drop_of_length_le (by omega)]; rfl
              have HBH := hid hBw
              clear HC HPW HRG HPX hBw
              go_wp2_with fail
              go_ret
              exact ⟨ret_bool E1.out.symm, HBH.out⟩
    · have hr1' : (1 : Int) < (r s : Int) := by omega
      have E : Hid (Q = false) := by show _ = _; rw [D0.out, decide_eq_false hr1]; simp
      clear D0 HE HEL
      generalize r s = rs at *
      go_enter Tryz.func36, Tryz.ntmps36
      go_wp2_with fail
      go_ret
      exact ⟨ret_bool E.out.symm, Below.refl _ _⟩
end Go.Proofs.YthbldeloocmakabGreat
