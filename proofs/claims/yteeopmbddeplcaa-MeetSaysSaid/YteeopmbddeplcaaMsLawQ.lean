/- The law rotalaw.MeetSays. -/
import Derived.Test.YteeopmbddeplcaaMsUQ
import Derived.Test.YteeopmbddeplcaaBsJQ
import Derived.Test.YteeopmbddeplcaaRefAxEQ
import Derived.Test.YteeopmbddeplcaaRefAxDQ
import Derived.Test.YteeopmbddeplcaaPrRQ
import Derived.Test.YteeopmbddeplcaaWgRQ
import Derived.Test.YteeopmbddeplcaaPlainAll
import Derived.Deep.CutRange
import Derived.Deep.RegionHeld3
namespace Go.Proofs.Yteeopmbddeplcaa
open Go.RowKit

theorem setB_is (n s : Int) : setB n s = (setR n s == 0) := by
  unfold setB setR
  split
  · rename_i h; rw [decide_eq_true h]; rfl
  · rename_i h; rw [decide_eq_false h]; rfl
theorem rk_cellS {w w' : World} {b off cap T : Nat} {g : Nat → Nat} (h : RkAt w (.slice (some ⟨b, off, none⟩) T cap) T g) (hb : Below w.heap.size w w') {i : Nat} (hi : i < T) : w'.cell? ⟨b, off + i, none⟩ = some (.int .i64 (g i : Nat)) := by
  obtain ⟨b', off', cp', e, h1, h2⟩ := h.below hb
  obtain ⟨⟨rfl, rfl⟩, rfl⟩ : (b = b' ∧ off = off') ∧ cap = cp' := by simpa using e
  exact h2 i hi
set_option maxRecDepth 100000 in
set_option maxHeartbeats 8000000 in
theorem msays_law (n : Int) (v : Value) (zs : List Int) (k : Int) (u : Value) (ys : List Int) (x : Value) (ws : List Int) (s : Int) (w : World) (h : Ints w v zs) (h' : Ints w u ys) (hx : Ints w x ws) :
    Calls Try.prog 3 #[.agg #[.int .i64 n, v], .agg #[.int .i64 k, u], x, .int .i64 s] w fun e w' => e = .returned (.bool true) ∧ Below w.heap.size w w' := by
  obtain ⟨S, B, P, L, hL, CM, HV, SP, Z1, Z2, IS⟩ := meet_is n k zs ys ws s
  have QF := uniQ_is n k zs ys
  have B0 := box2_below w n v k u
  have ME := Matroid_ref n v zs _ (h.below B0)
  have MK := fun w' (hb : Below w.heap.size w w') => Matroid_ref k u ys w' (h'.below hb)
  have HM := hid (fun w' (hb : Below w.heap.size w w') => h.below hb)
  have HN := hid (fun w' (hb : Below w.heap.size w w') => h'.below hb)
  have HX := hid (fun w' (hb : Below w.heap.size w w') => hx.below hb)
  have HS : Hid (∀ w1, Below (box2 w n v k u).heap.size (box2 w n v k u) w1 → BaseJ w w1 n v k u) := fun w1 hb1 => by
    obtain ⟨y0, y1⟩ := box2_blocks hb1
    have hs := hb1.size
    rw [box2_size] at hs
    exact ⟨B0.trans (hb1.mono B0.size), hs, y0, y1⟩
  obtain ⟨a0, cap, rfl, -, -⟩ := h
  obtain ⟨a1, cap1, rfl, -, -⟩ := h'
  obtain ⟨a2, cap2, rfl, -, -⟩ := hx
  generalize chkR n zs = qE at *
  generalize chkR k ys = qK at *
  generalize uniQ n zs k ys = qF at *
  generalize hvQ n zs k ys ws = qH at *
  generalize spQ n zs k ys s = qS at *
  have HCM := hid CM
  have HHV := hid HV
  have HSP := hid SP
  have HZ1 := hid Z1
  have HZ2 := hid Z2
  have HIS := hid IS
  have HQF := hid QF
  have HME := hid ME
  have HMK := hid MK
  clear CM HV SP Z1 Z2 IS QF ME MK B0
  go_enter Try.func3, Try.ntmps3
  go_wp2_with fail
  refine HME.out.mono ?_
  rintro e w1 ⟨rfl, hb1⟩
  have S1 := hid (HS.out w1 hb1)
  clear hb1 HME HS
  go_upto_if 34 with fail
  go_cut [9] from 35 to 36 (fun x W => x = .int .i64 (if qE = 0 then qK else qE) ∧ Hid (Below w1.heap.size w1 W))
  case first =>
    by_cases hq : qE = 0
    · subst hq
      have M1 := hid (HMK.out w1 S1.out.1)
      obtain ⟨_, _, x2, x3⟩ := S1.out.cells
      clear HMK
      go_wp2_with fail
      refine M1.out.mono ?_
      rintro e w2 ⟨rfl, hb2⟩
      have H2 := hid hb2
      clear hb2 M1
      go_wp2_with fail
      go_meet
      exact ⟨rfl, H2⟩
    · have hq' : (qE == 0) = false := by simp [hq]
      have e1 : Hid ((if qE = 0 then qK else qE) = qE) := if_neg hq
      clear hq
      go_wp2_with fail
      go_meet
      exact ⟨by rw [e1.out], Below.refl _ _⟩
  case rest =>
    obtain ⟨rfl, HC⟩ := hcut
    have S2 := hid (S1.out.next HC.out)
    clear HC S1 HMK
    obtain ⟨q2, HQ2⟩ : ∃ q2, Hid ((if qE = 0 then qK else qE) = q2) := ⟨_, Eq.refl _⟩
    rw [HQ2.out]
    go_upto_if 38 with fail
    go_cut [9] from 39 to 44 (fun x W => x = .int .i64 qF ∧ Hid (Below wc.heap.size wc W))
    case first =>
      by_cases hq : q2 = 0
      · subst hq
        obtain ⟨x0, x1, x2, x3⟩ := S2.out.cells
        have BY := hid (fun w => bad_yes 3 w)
        have BN := hid (fun w => bad_no 3 w)
        have hqe : qE = 0 := by
          have := HQ2.out
          by_cases h : qE = 0
          · exact h
          · rwa [if_neg h] at this
        have hqk : qK = 0 := by
          have := HQ2.out
          rwa [if_pos hqe] at this
        by_cases hnk : n = k
        · have e1 : Hid (qF = 0) := by show _ = _; rw [HQF.out, if_pos hqe, if_pos hqk, if_pos hnk]
          have hnk' : (n == k) = true := by simp [hnk]
          clear hqe hqk hnk
          go_wp2_with fail
          refine (BY.out _).mono ?_
          rintro e w' ⟨rfl, hw'⟩
          obtain rfl := hw'.symm
          go_wp2_with fail
          go_meet
          exact ⟨by rw [e1.out], Below.refl _ _⟩
        · have e1 : Hid (qF = 3) := by show _ = _; rw [HQF.out, if_pos hqe, if_pos hqk, if_neg hnk]
          have hnk' : (n == k) = false := by simp [hnk]
          clear hqe hqk hnk
          go_wp2_with fail
          refine (BN.out _).mono ?_
          rintro e w' ⟨rfl, hw'⟩
          obtain rfl := hw'.symm
          go_wp2_with fail
          go_meet
          exact ⟨by rw [e1.out], Below.refl _ _⟩
      · have hq' : (q2 == 0) = false := by simp [hq]
        have e1 : Hid (qF = q2) := by
          show _ = _
          rw [HQF.out, ← HQ2.out]
          by_cases h : qE = 0
          · have hk : qK ≠ 0 := fun e => hq (by rw [← HQ2.out, if_pos h, e])
            rw [if_pos h, if_pos h, if_neg hk]
          · rw [if_neg h, if_neg h]
        clear hq
        go_wp2_with fail
        go_meet
        exact ⟨by rw [e1.out], Below.refl _ _⟩
    case rest =>
      obtain ⟨rfl, HC⟩ := hcut
      have S3 := hid (S2.out.next HC.out)
      clear HC S2 HQ2 HQF
      generalize wc = w3 at *
      go_upto_if 48 with fail
      go_cut [10, 11, 12, 13, 14, 15, 16, 17, 18, 19, 20, 21, 22, 23] from 49 to 180 (fun f g st br sp li _ _ _ _ _ _ _ _ W => f = .int .i64 qH ∧ g = .int .i64 qS ∧ st = .int .i64 S ∧ br = .int .i64 B ∧ sp = .int .i64 P ∧ (∃ a L' c', li = .slice a L' c' ∧ Hid (ToldJ w3.heap.size W qH (.slice a L' c') L)) ∧ Hid (Below w3.heap.size w3 W))
      case first =>
        by_cases hq : qF = 0
        · subst hq
          obtain ⟨m, l, l', hn, hk, hm, hz, hy, hf, hb, hf', hb', hS, hB, hqH, hLL, hsp⟩ := HIS.out rfl
          subst hn
          subst hz
          subst hy
          obtain rfl : m = k := by omega
          clear HCM HHV HSP HZ1 HIS hk
          rw [N_len l] at *
          rw [N_len l'] at *
          have HRn := hid (hb.rkOn m)
          have HQn := hid (hb'.rkOn m)
          have RA := hid (fun w' (hb2 : Below w.heap.size w w') => Ranks_ref m _ l w' hm (hf.lt256 hm) (HM.out w' hb2))
          have RB := hid (fun w' (hb2 : Below w.heap.size w w') => Ranks_ref m _ l' w' hm (hf'.lt256 hm) (HN.out w' hb2))
          have AL := hid (fun w => All_any m w hm)
          have HSS := hid hS
          have HBB := hid hB
          have HQH := hid hqH
          have HLL := hid hLL
          have HSP := hid hsp
          clear hS hB hqH hLL hsp
          obtain ⟨x0, x1, x2, x3⟩ := S3.out.cells
          have B3 := hid S3.out.1.drew
          go_wp2_with fail
          go_region_held3 (fun w' => w'.cell? ⟨w.heap.size, 0, none⟩ = some (.int .i64 m) ∧ w'.cell? ⟨w.heap.size, 1, none⟩ = some (.slice a0 l.length cap) ∧ w'.cell? ⟨w.heap.size + 1, 0, none⟩ = some (.int .i64 m) ∧ w'.cell? ⟨w.heap.size + 1, 1, none⟩ = some (.slice a1 l'.length cap1)) (go_keep)
           (first
            | (go_at_call 9; (with_reducible refine (RA.out _ B3.out).mono ?_); rintro e w6 ⟨r6, rfl, hr6, hb6⟩; have H6 := hid ((Below.refl w3.heap.size w3).drew.trans hb6); have S6 := hid (S3.out.next H6.out); have B6 := hid S6.out.1; have R6 := hid hr6; obtain ⟨rb6, ro6, rc6, rfl, _, _⟩ := hr6; have X6 := hid S6.out.cells; clear hb6; obtain ⟨y0, y1, y2, y3⟩ := X6.out)
            | (go_at_call 9; (with_reducible refine (RB.out _ B6.out).mono ?_); rintro e w7 ⟨r7, rfl, hr7, hb7⟩; have H7 := hid (H6.out.trans (hb7.mono H6.out.size)); have S7 := hid (S6.out.next hb7); have R7 := hid hr7; have R6' := hid (R6.out.below hb7); obtain ⟨rb7, ro7, rc7, rfl, _, _⟩ := hr7; have X7 := hid S7.out.cells; clear hb7; obtain ⟨z0, z1, z2, z3⟩ := X7.out))
          clear RA RB B3 B6 H6 S6 X6 X7 R6 x0 x1 x2 x3 y0 y1 y2 y3 S3
          have HSPEC := hid (com_spec HRn.out HQn.out)
          have HBAR := hid (bar_spec hm HRn.out HQn.out)
          have hpc : pop (comS m (rk l) (rk l')) = comK m (rk l) (rk l') := HSPEC.out.2.2.1
          have HCE := hid (cmF_end HRn.out HQn.out)
          have HK1 := hid (rk_small hm hf)
          have HK2 := hid (rk_small hm hf')
          obtain ⟨T, HT, hT2, hT1⟩ : ∃ T : Nat, Hid (2 ^ m = T) ∧ T ≤ 256 ∧ 1 ≤ T := ⟨2 ^ m, Eq.refl (2 ^ m), (pow_wrap _ hm).2, Nat.one_le_two_pow⟩
          rw [HT.out] at R6' R7 AL HCE HBAR HSPEC ⊢
          obtain ⟨A, hA, hAT⟩ : ∃ A : Nat, (T : Int) - 1 = (A : Int) ∧ A + 1 = T := ⟨T - 1, by omega, by omega⟩
          have hTA : T - 1 = A := by omega
          rw [hTA] at HBAR
          rw [hA] at AL
          clear hTA
          obtain ⟨F, HF⟩ : ∃ F : Nat → Nat, Hid (cmF (rk l) (rk l') = F) := ⟨_, rfl⟩
          have F0 : F 0 = 0 := by rw [← HF.out]; rfl
          have FS : Hid (∀ t, F (t + 1) = if (rk l t = pop t ∧ rk l' t = pop t) ∧ pop (F t) < pop t then t else F t) := fun t => by
            rw [← HF.out]
            show (if comB (rk l) (rk l') t = true ∧ pop (cmF (rk l) (rk l') t) < pop t then t else cmF (rk l) (rk l') t) = _
            simp only [com_iff]
          have FL : Hid (∀ t, t ≤ 256 → F t < 256) := fun t ht => by
            rw [← HF.out]
            rcases cmF_lt (rk l) (rk l') t with h | h <;> omega
          rw [HF.out] at HCE
          have HPC := hid hpc
          clear HF hpc
          go_wp2_with fail
          refine (AL.out _).mono ?_
          rintro e w8 ⟨rfl, hw8⟩
          obtain rfl := hw8.symm
          clear hw8
          go_wp2_with fail
          go_loopw [12, 19] (fun u i wr => ∃ t : Nat, t ≤ T ∧ i = .int .i64 t ∧ u = .int .i64 (F t : Nat) ∧ Hid (Below w7.heap.size w7 wr)) (fun _ i _ => T - (intOf i).toNat)
          case atStart => exact ⟨0, Nat.zero_le _, rfl, by rw [F0]; rfl, Below.refl _ _⟩
          case round =>
            obtain ⟨t, ht, rfl, rfl, HBt⟩ := hrel
            by_cases hlt : t < T
            · have hle : (t : Int) ≤ (A : Int) := by omega
              have hti : (t : Int) < (T : Int) := by omega
              have cA : ∀ x : Later wr, x.now.cell? ⟨rb6, ro6 + t, none⟩ = some (.int .i64 (rk l t : Nat)) := fun x => rk_cellS R6'.out (HBt.out.trans (x.kept.mono HBt.out.size)) hlt
              have cB : ∀ x : Later wr, x.now.cell? ⟨rb7, ro7 + t, none⟩ = some (.int .i64 (rk l' t : Nat)) := fun x => rk_cellS R7.out (HBt.out.trans (x.kept.mono HBt.out.size)) hlt
              have ST := hid (fun w => Size_any t w (by omega))
              have SF := hid (fun w => Size_any (F t) w (FL.out t (by omega)))
              have hs := hid (FS.out t)
              clear HSPEC HBAR HCE FS FL
              generalize rk l t = q1 at *
              generalize rk l' t = q2 at *
              generalize F t = f at *
              by_cases h1 : q1 = pop t
              · have h1' : ((q1 : Int) == (pop t : Int)) = true := by rw [h1]; simp
                by_cases h2 : q2 = pop t
                · have h2' : ((q2 : Int) == (pop t : Int)) = true := by rw [h2]; simp
                  by_cases h3 : pop f < pop t
                  · have h3' : (pop f : Int) < (pop t : Int) := by omega
                    have E := hid (hs.out.trans (if_pos ⟨⟨h1, h2⟩, h3⟩))
                    clear h1 h2 h3 hs
                    generalize pop t = p1 at *
                    generalize pop f = p2 at *
                    go_wp2_with fail
                    refine region_later (by kernel_rfl) (by kernel_rfl) ?_
                    repeat (go_big_quiet_step ((first | (go_at_call 11; (with_reducible refine (ST.out _).mono ?_); rintro e w' ⟨rfl, hb9⟩; exact ⟨rfl, Later.on _ hb9⟩) | (go_at_call 11; (with_reducible refine (SF.out _).mono ?_); rintro e w' ⟨rfl, hb9⟩; exact ⟨rfl, Later.on _ hb9⟩))))
                    refine wpQuiet_nil ?_
                    intro wx hw'
                    obtain ⟨⟨yx, hbx⟩, hw''⟩ := hw'
                    dsimp only at hw''
                    subst hw''
                    have HBx := hid (HBt.out.trans (hbx.mono HBt.out.size))
                    clear hbx
                    clear cA cB
                    go_wp2_with fail
                    go_roundw
                    case rel => exact ⟨t + 1, by omega, by go_num, by rw [E.out], HBx.out⟩
                    case measure => simp [intOf]; omega
                  · have h3' : ¬ (pop f : Int) < (pop t : Int) := by omega
                    have E := hid (hs.out.trans (if_neg (fun x => h3 x.2)))
                    clear h1 h2 h3 hs
                    generalize pop t = p1 at *
                    generalize pop f = p2 at *
                    go_wp2_with fail
                    refine region_later (by kernel_rfl) (by kernel_rfl) ?_
                    repeat (go_big_quiet_step ((first | (go_at_call 11; (with_reducible refine (ST.out _).mono ?_); rintro e w' ⟨rfl, hb9⟩; exact ⟨rfl, Later.on _ hb9⟩) | (go_at_call 11; (with_reducible refine (SF.out _).mono ?_); rintro e w' ⟨rfl, hb9⟩; exact ⟨rfl, Later.on _ hb9⟩))))
                    refine wpQuiet_nil ?_
                    intro wx hw'
                    obtain ⟨⟨yx, hbx⟩, hw''⟩ := hw'
                    dsimp only at hw''
                    subst hw''
                    have HBx := hid (HBt.out.trans (hbx.mono HBt.out.size))
                    clear hbx
                    clear cA cB
                    go_wp2_with fail
                    go_roundw
                    case rel => exact ⟨t + 1, by omega, by go_num, by rw [E.out], HBx.out⟩
                    case measure => simp [intOf]; omega
                · have h2' : ((q2 : Int) == (pop t : Int)) = false := by rw [beq_eq_false_iff_ne]; omega
                  have E := hid (hs.out.trans (if_neg (fun x => h2 x.1.2)))
                  clear h1 h2 hs
                  generalize pop t = p1 at *
                  generalize pop f = p2 at *
                  go_wp2_with fail
                  refine region_later (by kernel_rfl) (by kernel_rfl) ?_
                  repeat (go_big_quiet_step ((first | (go_at_call 11; (with_reducible refine (ST.out _).mono ?_); rintro e w' ⟨rfl, hb9⟩; exact ⟨rfl, Later.on _ hb9⟩))))
                  refine wpQuiet_nil ?_
                  intro wx hw'
                  obtain ⟨⟨yx, hbx⟩, hw''⟩ := hw'
                  dsimp only at hw''
                  subst hw''
                  have HBx := hid (HBt.out.trans (hbx.mono HBt.out.size))
                  clear hbx
                  clear cA cB
                  go_wp2_with fail
                  go_roundw
                  case rel => exact ⟨t + 1, by omega, by go_num, by rw [E.out], HBx.out⟩
                  case measure => simp [intOf]; omega
              · have h1' : ((q1 : Int) == (pop t : Int)) = false := by rw [beq_eq_false_iff_ne]; omega
                have E := hid (hs.out.trans (if_neg (fun x => h1 x.1.1)))
                clear h1 hs
                generalize pop t = p1 at *
                generalize pop f = p2 at *
                go_wp2_with fail
                refine region_later (by kernel_rfl) (by kernel_rfl) ?_
                repeat (go_big_quiet_step ((first | (go_at_call 11; (with_reducible refine (ST.out _).mono ?_); rintro e w' ⟨rfl, hb9⟩; exact ⟨rfl, Later.on _ hb9⟩))))
                refine wpQuiet_nil ?_
                intro wx hw'
                obtain ⟨⟨yx, hbx⟩, hw''⟩ := hw'
                dsimp only at hw''
                subst hw''
                have HBx := hid (HBt.out.trans (hbx.mono HBt.out.size))
                clear hbx
                clear cA cB
                go_wp2_with fail
                go_roundw
                case rel => exact ⟨t + 1, by omega, by go_num, by rw [E.out], HBx.out⟩
                case measure => simp [intOf]; omega
            · obtain rfl : t = T := by omega
              have hle : ¬ (t : Int) ≤ (A : Int) := by omega
              clear FS FL F0
              rw [HCE.out, ← HSS.out]
              have HPS : Hid (pop S = comK m (rk l) (rk l')) := by show _ = _; rw [HSS.out]; exact HPC.out
              have hS8 : S < 256 := by rw [HSS.out]; exact lt256 hm (by rw [HT.out]; exact HSPEC.out.1)
              have hBT : B < t := by rw [HBB.out]; exact HBAR.out.1
              have HBE : Hid (rk l B + rk l' (A - B) = pop S) := by show _ = _; rw [HPS.out, HBB.out]; exact HBAR.out.2.1
              have HBN : Hid (∀ j, j < B → rk l j + rk l' (A - j) ≠ pop S) := fun j hj => by
                rw [HPS.out]
                rw [HBB.out] at hj
                exact HBAR.out.2.2 j hj
              clear HCE HBAR HSPEC HBB HSS HPC
              go_wp2_with fail
              have HBW := hid HBt.out
              clear HBt
              generalize wr = wA at *
              go_loopw [13] (fun i wq => ∃ j : Nat, j ≤ B ∧ i = .int .i64 j ∧ Hid (Below wA.heap.size wA wq)) (fun i _ => B - (intOf i).toNat)
              case atStart => exact ⟨0, Nat.zero_le _, rfl, Below.refl _ _⟩
              case round =>
                obtain ⟨j, hj, rfl, HBt⟩ := hrel
                have hjt : j < t := by omega
                have cA : ∀ x : Later wr, x.now.cell? ⟨rb6, ro6 + j, none⟩ = some (.int .i64 (rk l j : Nat)) := fun x => rk_cellS R6'.out (HBW.out.trans ((HBt.out.trans (x.kept.mono HBt.out.size)).mono HBW.out.size)) hjt
                have cB : ∀ x : Later wr, x.now.cell? ⟨rb7, ro7 + (A - j), none⟩ = some (.int .i64 (rk l' (A - j) : Nat)) := fun x => rk_cellS R7.out (HBW.out.trans ((HBt.out.trans (x.kept.mono HBt.out.size)).mono HBW.out.size)) (by omega)
                have SZ := hid (fun w => Size_any S w hS8)
                have b1 := HK1.out j
                have b2 := HK2.out (A - j)
                have hp8 := pop_le S hS8
                have hA1 : (A : Int) - (j : Int) = ((A - j : Nat) : Int) := by omega
                have hyT : ((A - j : Nat) : Int) < (t : Int) := by omega
                have hjT : (j : Int) < (t : Int) := by omega
                by_cases hjB : j = B
                · subst hjB
                  have hbe := HBE.out
                  clear HBN HBE HK1 HK2 hj
                  generalize A - j = y at *
                  generalize rk l j = q1 at *
                  generalize rk l' y = q2 at *
                  have hbe' : (q1 : Int) + q2 = (pop S : Int) := by omega
                  generalize hps : pop S = ps at *
                  have HPP := hid hps
                  clear hbe hps
                  by_cases hjA : j < A
                  · have hjA' : (j : Int) < (A : Int) := by omega
                    go_wp2_with fail
                    refine region_later (by kernel_rfl) (by kernel_rfl) ?_
                    repeat (go_big_quiet_step ((first | (go_at_call 11; (with_reducible refine (SZ.out _).mono ?_); rintro e w' ⟨rfl, hb9⟩; exact ⟨rfl, Later.on _ hb9⟩))))
                    refine wpQuiet_nil ?_
                    intro wx hw'
                    obtain ⟨⟨yx, hbx⟩, hw''⟩ := hw'
                    dsimp only at hw''
                    subst hw''
                    have HBx := hid (HBt.out.trans (hbx.mono HBt.out.size))
                    clear hbx
                    clear cA cB hA1 hyT hjT hbe' SZ
                    have HBq := hid (HBW.out.trans (HBx.out.mono HBW.out.size))
                    clear HBx HBt HBW hjA hjA'
                    have S8 := hid (S7.out.next HBq.out)
                    have H8 := hid (H7.out.trans (HBq.out.mono H7.out.size))
                    have R8 := hid (R6'.out.below HBq.out)
                    have R9 := hid (R7.out.below HBq.out)
                    clear S7 H7 R6' R7 HBq z0 z1 z2 z3
                    obtain ⟨x0, x1, x2, x3⟩ := S8.out.cells
                    have PR := hid (Priced_any m _ ws wx (HX.out _ S8.out.1))
                    rw [← HQH.out] at PR
                    go_wp2_with fail
                    refine PR.out.mono ?_
                    rintro e w9 ⟨rfl, hw9⟩
                    obtain rfl := hw9.symm
                    clear hw9 PR
                    go_upto_if 111 with fail
                    go_cut [15, 20, 21, 22] from 112 to 160 (fun li _ _ _ W => (∃ a L' c', li = .slice a L' c' ∧ Hid (ToldJ w3.heap.size W qH (.slice a L' c') L)) ∧ Hid (Below wx.heap.size wx W))
                    case first =>
                      by_cases hcw : qH = 0
                      · subst hcw
                        have hw0 : cwR m ws = 0 := HQH.out.symm
                        have hLe := HLL.out hw0
                        obtain ⟨hwl, hwb⟩ := cw_of hw0
                        obtain ⟨W, HW⟩ : ∃ W : Nat → Int, Hid ((fun s => weiTo (fun i => ws.getD i 0) s m) = W) := ⟨_, rfl⟩
                        have HW1 : ∀ s, weiTo (fun i => ws.getD i 0) s m = W s := fun s => by rw [← HW.out]
                        have WG : Hid (∀ (s : Nat) (w' : World), s < t → Below wx.heap.size wx w' → Calls Try.prog 13 #[.slice a2 ws.length cap2, .int .i64 s] w' fun e w2 => e = .returned (.int .i64 (W s)) ∧ Below w'.heap.size w' w2) := fun s w' hs hb2 => by
                          have := Weighs_any (.slice a2 ws.length cap2) ws s w' (HX.out _ (S8.out.1.trans (hb2.mono S8.out.1.size))) (by rw [hwl]; exact hm) (by rw [hwl, HT.out]; exact hs) hwb
                          rw [show weiTo (fun i => ws.getD i 0) s ws.length = W s by rw [hwl, HW1]] at this
                          exact this
                        rw [HW.out] at hLe
                        have hlen : L.length = ps + 1 := by rw [hLe, hv_len hm HRn.out HQn.out, HPS.out]
                        obtain ⟨G, HG⟩ : ∃ G : Nat → Nat → Int, Hid ((fun j c => bsF m (rk l) (rk l') W j c) = G) := ⟨_, rfl⟩
                        have HG1 : ∀ j c, bsF m (rk l) (rk l') W j c = G j c := fun j c => by rw [← HG.out]
                        have GE : Hid (∀ j, j < L.length → G j t = (L.getD j 0 : Nat)) := fun j hj => by
                          rw [← HG1, ← HT.out]
                          rw [hLe] at hj ⊢
                          exact bsF_end hm HRn.out HQn.out W hj
                        have G0 : Hid (∀ j, G j 0 = -1) := fun j => by rw [← HG1]; rfl
                        have GS : Hid (∀ j c, G j (c + 1) = if (pop (A - c) = j ∧ rk l (A - c) = j ∧ rk l' (A - c) = j) ∧ (G j c < 0 ∨ W (G j c).toNat ≤ W (A - c)) then ((A - c : Nat) : Int) else G j c) := fun j c => by
                          rw [← HG1, ← HG1]
                          show (if comB (rk l) (rk l') (2 ^ m - 1 - c) = true ∧ pop (2 ^ m - 1 - c) = j ∧ (bsF m (rk l) (rk l') W j c < 0 ∨ W (bsF m (rk l) (rk l') W j c).toNat ≤ W (2 ^ m - 1 - c)) then ((2 ^ m - 1 - c : Nat) : Int) else bsF m (rk l) (rk l') W j c) = _
                          rw [HT.out, show t - 1 - c = A - c by omega]
                          by_cases hh : (pop (A - c) = j ∧ rk l (A - c) = j ∧ rk l' (A - c) = j) ∧ (bsF m (rk l) (rk l') W j c < 0 ∨ W (bsF m (rk l) (rk l') W j c).toNat ≤ W (A - c))
                          · rw [if_pos hh, if_pos ⟨com_iff.2 ⟨by omega, by omega⟩, hh.1.1, hh.2⟩]
                          · rw [if_neg hh, if_neg (fun x => hh ⟨⟨x.2.1, by have := (com_iff.1 x.1).1; omega, by have := (com_iff.1 x.1).2; omega⟩, x.2.2⟩)]
                        have GB : Hid (∀ j c, c ≤ t → G j c = -1 ∨ ∃ b : Nat, G j c = b ∧ b < t) := fun j c hc => by
                          rw [← HG1]
                          rcases bsF_spec (n := m) (r := rk l) (q := rk l') (W := W) (k := j) c (by rw [HT.out]; exact hc) with ⟨h, _⟩ | ⟨b, h, _, h2, _⟩
                          · exact .inl h
                          · exact .inr ⟨b, h, by rw [HT.out] at h2; exact h2⟩
                        have SZ := hid (fun w => Size_any S w hS8)
                        rw [HPP.out] at SZ
                        have HLEN := hid hlen
                        have hw3 : w3.heap.size ≤ wx.heap.size := H8.out.size
                        obtain ⟨i0, hi, hz0, hz1, hz2⟩ := info_parts Try.infoInt
                        clear HG HG1 HW HW1 hw0 hLe hwl hwb hlen HLL HPS HRn HQn HQH HSP HX HM HN hf hb hf' hb' x0 x1 x2 x3 S8
                        go_wp2_with fail
                        rw [show ((0 : Int) == 0) = true from rfl]
                        go_loopw [15, 20] (fun li i wr => ∃ j : Nat, j ≤ L.length ∧ i = .int .i64 j ∧ Own wx.heap.size wr li (L.take j) ∧ Below wx.heap.size wx wr) (fun _ i _ => L.length - (intOf i).toNat)
                        case atStart => exact ⟨0, Nat.zero_le _, rfl, Own.nil _ _, Below.refl _ _⟩
                        case round =>
                          obtain ⟨j, hj, rfl, hown, hnx⟩ := hrel
                          have HO := hid hown
                          have HN1 := hid hnx
                          clear hown hnx
                          by_cases hjL : j < L.length
                          · have hjp : (j : Int) ≤ (ps : Int) := by have := HLEN.out; omega
                            go_wp2_with fail
                            refine (SZ.out _).mono ?_
                            rintro e wa ⟨rfl, hba⟩
                            have HO2 := hid (HO.out.below hba)
                            have HN2 := hid (HN1.out.trans (hba.mono HN1.out.size))
                            clear hba HO HN1
                            generalize wr = wz at *
                            go_wp2_with fail
                            go_loopw [21, 22] (fun b i wr => ∃ c : Nat, c ≤ t ∧ i = .int .i64 ((A : Int) - (c : Int)) ∧ b = .int .i64 (G j c) ∧ Hid (Below wa.heap.size wa wr)) (fun _ i _ => (intOf i + 1).toNat)
                            case atStart => exact ⟨0, Nat.zero_le _, by simp, by rw [G0.out], Below.refl _ _⟩
                            case round =>
                              obtain ⟨c, hc, rfl, rfl, HBc⟩ := hrel
                              by_cases hct : c < t
                              · obtain ⟨y, hy1, hy2, hyt⟩ : ∃ y : Nat, (A : Int) - (c : Int) = (y : Int) ∧ A - c = y ∧ y < t := ⟨A - c, by omega, rfl, by omega⟩
                                have cA : ∀ w', Below wr.heap.size wr w' → w'.cell? ⟨rb6, ro6 + y, none⟩ = some (.int .i64 (rk l y : Nat)) := fun w' hb2 => rk_cellS R8.out (HN2.out.trans ((HBc.out.trans (hb2.mono HBc.out.size)).mono HN2.out.size)) hyt
                                have cB : ∀ w', Below wr.heap.size wr w' → w'.cell? ⟨rb7, ro7 + y, none⟩ = some (.int .i64 (rk l' y : Nat)) := fun w' hb2 => rk_cellS R9.out (HN2.out.trans ((HBc.out.trans (hb2.mono HBc.out.size)).mono HN2.out.size)) hyt
                                have SY := hid (fun w => Size_any y w (by omega))
                                have WY : Hid (∀ w', Below wr.heap.size wr w' → _) := fun w' hb2 => WG.out y w' hyt (HN2.out.trans ((HBc.out.trans (hb2.mono HBc.out.size)).mono HN2.out.size))
                                have WX : Hid (∀ b : Nat, b < t → ∀ w', Below wr.heap.size wr w' → _) := fun b hb2 w' hb3 => WG.out b w' hb2 (HN2.out.trans ((HBc.out.trans (hb3.mono HBc.out.size)).mono HN2.out.size))
                                have gs := GS.out j c
                                rw [hy2] at gs
                                have HGS := hid gs
                                have gb := GB.out j c (by omega)
                                rw [hy1]
                                have hyI : (y : Int) < (t : Int) := by omega
                                have hy0 : (0 : Int) ≤ (y : Int) := by omega
                                have hnext : (y : Int) - 1 = (A : Int) - ((c + 1 : Nat) : Int) := by omega
                                have HNX := hid hnext
                                have HCA := hid cA
                                have HCB := hid cB
                                clear WG GS GB gs hy1 hy2 R8 R9 hnext cA cB GE G0
                                generalize rk l y = q1 at *
                                generalize rk l' y = q2 at *
                                generalize G j c = g at *
                                by_cases h1 : pop y = j
                                · have h1' : ((pop y : Int) == (j : Int)) = true := by rw [h1]; simp
                                  by_cases h2 : q1 = j
                                  · have h2' : ((q1 : Int) == (j : Int)) = true := by rw [h2]; simp
                                    by_cases h3 : q2 = j
                                    · have h3' : ((q2 : Int) == (j : Int)) = true := by rw [h3]; simp
                                      rcases gb with gb | ⟨b, gb, hbt⟩
                                      · subst gb
                                        have E := hid (HGS.out.trans (if_pos ⟨⟨h1, h2, h3⟩, .inl (by decide)⟩))
                                        clear h1 h2 h3 HGS
                                        generalize pop y = py at *
                                        go_wp2_with fail
                                        refine (SY.out _).mono ?_
                                        rintro e wa1 ⟨rfl, hb1⟩
                                        have c1 := HCA.out _ hb1
                                        have c2 := HCB.out _ hb1
                                        have HB1 := hid hb1
                                        clear hb1
                                        go_wp2_with fail
                                        have HBx := hid (HBc.out.trans (HB1.out.mono HBc.out.size))
                                        clear c1 c2
                                        exact ⟨⟨c + 1, by omega, by rw [HNX.out], by rw [E.out], HBx⟩, by simp [intOf]⟩
                                      · subst gb
                                        have W1 : Hid (∀ w', Below wr.heap.size wr w' → _) := fun w' hb2 => WX.out b hbt w' hb2
                                        by_cases h4 : W b ≤ W y
                                        · have h4' : W b ≤ W y := h4
                                          have E := hid (HGS.out.trans (if_pos ⟨⟨h1, h2, h3⟩, .inr (by simpa using h4)⟩))
                                          clear h1 h2 h3 h4 HGS
                                          generalize pop y = py at *
                                          generalize W y = wy at *
                                          generalize W b = wb at *
                                          go_wp2_with fail
                                          refine (SY.out _).mono ?_
                                          rintro e wa1 ⟨rfl, hb1⟩
                                          have c1 := HCA.out _ hb1
                                          have c2 := HCB.out _ hb1
                                          have HB1 := hid hb1
                                          clear hb1
                                          go_wp2_with fail
                                          have WY1 := hid (WY.out _ HB1.out)
                                          refine WY1.out.mono ?_
                                          rintro e wa2 ⟨rfl, hb2⟩
                                          have HB2 := hid (HB1.out.trans (hb2.mono HB1.out.size))
                                          clear hb2 WY1
                                          go_wp2_with fail
                                          have WZ1 := hid (W1.out _ HB2.out)
                                          refine WZ1.out.mono ?_
                                          rintro e wa3 ⟨rfl, hb3⟩
                                          have HB3 := hid (HB2.out.trans (hb3.mono HB2.out.size))
                                          clear hb3 WZ1
                                          go_wp2_with fail
                                          have HBx := hid (HBc.out.trans (HB3.out.mono HBc.out.size))
                                          clear c1 c2
                                          exact ⟨⟨c + 1, by omega, by rw [HNX.out], by rw [E.out], HBx⟩, by simp [intOf]⟩
                                        · have h4' : ¬ W b ≤ W y := h4
                                          have E := hid (HGS.out.trans (if_neg (fun x => x.2.elim (fun h => by omega) (fun h => h4 (by simpa using h)))))
                                          clear h1 h2 h3 h4 HGS
                                          generalize pop y = py at *
                                          generalize W y = wy at *
                                          generalize W b = wb at *
                                          go_wp2_with fail
                                          refine (SY.out _).mono ?_
                                          rintro e wa1 ⟨rfl, hb1⟩
                                          have c1 := HCA.out _ hb1
                                          have c2 := HCB.out _ hb1
                                          have HB1 := hid hb1
                                          clear hb1
                                          go_wp2_with fail
                                          have WY1 := hid (WY.out _ HB1.out)
                                          refine WY1.out.mono ?_
                                          rintro e wa2 ⟨rfl, hb2⟩
                                          have HB2 := hid (HB1.out.trans (hb2.mono HB1.out.size))
                                          clear hb2 WY1
                                          go_wp2_with fail
                                          have WZ1 := hid (W1.out _ HB2.out)
                                          refine WZ1.out.mono ?_
                                          rintro e wa3 ⟨rfl, hb3⟩
                                          have HB3 := hid (HB2.out.trans (hb3.mono HB2.out.size))
                                          clear hb3 WZ1
                                          go_wp2_with fail
                                          have HBx := hid (HBc.out.trans (HB3.out.mono HBc.out.size))
                                          clear c1 c2
                                          exact ⟨⟨c + 1, by omega, by rw [HNX.out], by rw [E.out], HBx⟩, by simp [intOf]⟩
                                    · have h3' : ((q2 : Int) == (j : Int)) = false := by rw [beq_eq_false_iff_ne]; omega
                                      have E := hid (HGS.out.trans (if_neg (fun x => h3 x.1.2.2)))
                                      clear h1 h2 h3 HGS gb
                                      generalize pop y = py at *
                                      go_wp2_with fail
                                      refine (SY.out _).mono ?_
                                      rintro e wa1 ⟨rfl, hb1⟩
                                      have c1 := HCA.out _ hb1
                                      have c2 := HCB.out _ hb1
                                      have HB1 := hid hb1
                                      clear hb1
                                      go_wp2_with fail
                                      have HBx := hid (HBc.out.trans (HB1.out.mono HBc.out.size))
                                      clear c1 c2
                                      exact ⟨⟨c + 1, by omega, by rw [HNX.out], by rw [E.out], HBx⟩, by simp [intOf]⟩
                                  · have h2' : ((q1 : Int) == (j : Int)) = false := by rw [beq_eq_false_iff_ne]; omega
                                    have E := hid (HGS.out.trans (if_neg (fun x => h2 x.1.2.1)))
                                    clear h1 h2 HGS gb
                                    generalize pop y = py at *
                                    go_wp2_with fail
                                    refine (SY.out _).mono ?_
                                    rintro e wa1 ⟨rfl, hb1⟩
                                    have c1 := HCA.out _ hb1
                                    have c2 := HCB.out _ hb1
                                    have HB1 := hid hb1
                                    clear hb1
                                    go_wp2_with fail
                                    have HBx := hid (HBc.out.trans (HB1.out.mono HBc.out.size))
                                    clear c1 c2
                                    exact ⟨⟨c + 1, by omega, by rw [HNX.out], by rw [E.out], HBx⟩, by simp [intOf]⟩
                                · have h1' : ((pop y : Int) == (j : Int)) = false := by rw [beq_eq_false_iff_ne]; omega
                                  have E := hid (HGS.out.trans (if_neg (fun x => h1 x.1.1)))
                                  clear h1 HGS gb
                                  generalize pop y = py at *
                                  go_wp2_with fail
                                  refine (SY.out _).mono ?_
                                  rintro e wa1 ⟨rfl, hb1⟩
                                  have c1 := HCA.out _ hb1
                                  have c2 := HCB.out _ hb1
                                  have HB1 := hid hb1
                                  clear hb1
                                  go_wp2_with fail
                                  have HBx := hid (HBc.out.trans (HB1.out.mono HBc.out.size))
                                  clear c1 c2
                                  exact ⟨⟨c + 1, by omega, by rw [HNX.out], by rw [E.out], HBx⟩, by simp [intOf]⟩
                              · obtain rfl : c = t := by omega
                                have hA2 : (A : Int) - (c : Int) = -1 := by omega
                                rw [hA2, GE.out j hjL]
                                have HO3 := hid (HO2.out.below HBc.out)
                                have HN3 := HN2.out.trans (HBc.out.mono HN2.out.size)
                                have hs3 : wx.heap.size ≤ wr.heap.size := HN3.size
                                have TK := hid (take_next hjL)
                                have hl9 : (L.take j).length ≤ 256 := by rw [List.length_take]; omega
                                clear GE GS GB WG R8 R9 HO2 HN2 HBc
                                generalize L.getD j 0 = lj at *
                                generalize L.take j = acc at *
                                go_wp2_with (at_builtin; refine wpList_append_own _ rfl _ _ 22 rfl wx.heap.size 3 i0 (.int .i64 0) 1 8 Try.underlying22 hi hz0 hz1 hz2 rfl (by decide) _ _ _ rfl (HO3.out.alloc _) ⟨wr.heap.size, 0, none⟩ 1 1 [.int .i64 (lj : Nat)] rfl rfl ?c1 ?c2 ?c3 ?c4 ?c5 ?_)
                                case c1 => exact cell_one_new _ _ _
                                case c2 => intro u hu; simp at hu; subst hu; rfl
                                case c3 => unfold maxLen; omega
                                case c4 => omega
                                case c5 => simp; omega
                                intro v' w5 hown' hgrow _
                                have R3 := hid (Own.snoc hown')
                                have R4 := hid (Own.grown HO3.out HN3 (by omega) hgrow)
                                clear hown' hgrow
                                go_wp2_with fail
                                go_roundw
                                case rel => exact ⟨j + 1, by omega, by go_num, by rw [TK.out]; exact R3.out, R4.out⟩
                                case measure => simp [intOf]; omega
                          · obtain rfl : j = L.length := by omega
                            have hjp : ¬ (L.length : Int) ≤ (ps : Int) := by have := HLEN.out; omega
                            rw [List.take_length] at HO
                            go_wp2_with fail
                            refine (SZ.out _).mono ?_
                            rintro e wa ⟨rfl, hba⟩
                            have HO2 := hid (HO.out.below hba)
                            have HN2 := hid (HN1.out.trans (hba.mono HN1.out.size))
                            obtain ⟨ra, rc, rfl⟩ := ownsRow_form' HO2.out
                            clear hba HO HN1
                            go_wp2_with fail
                            go_meet
                            exact ⟨⟨ra, _, rc, rfl, .inr ⟨rfl, HO2.out.mono hw3⟩⟩, HN2⟩
                      · have hq' : (qH == 0) = false := by simp [hcw]
                        have E4 : Hid (ToldJ w3.heap.size wx qH (.slice none 0 0) L) := .inl ⟨hcw, rfl⟩
                        clear hcw
                        go_wp2_with fail
                        go_meet
                        exact ⟨⟨none, 0, 0, rfl, E4⟩, Below.refl _ _⟩
                    case rest =>
                      obtain ⟨⟨a5, L5, c5, rfl, T5⟩, HC⟩ := hcut
                      have S9 := hid (S8.out.next HC.out)
                      have H9 := hid (H8.out.trans (HC.out.mono H8.out.size))
                      clear HC S8 H8 R8 R9 x0 x1 x2 x3
                      generalize wc = wd at *
                      obtain ⟨x0, x1, x2, x3⟩ := S9.out.cells
                      have IS := hid (fun w => IsSet_any m s w)
                      rw [setB_is] at IS
                      have FIN : Hid (Below w3.heap.size w3 wd) := H9
                      rcases HSP.out with ⟨hq1, hs1⟩ | ⟨hq1, hs1, y, rfl, hyt, hP⟩
                      · rw [hs1] at IS
                        have hP0 := HZ2.out (by rw [hq1]; decide)
                        subst hP0
                        subst hq1
                        have BD := hid (fun w => bad_no 1 w)
                        clear HSP hs1
                        go_wp2_with fail
                        refine (IS.out _).mono ?_
                        rintro e w' ⟨rfl, hw'⟩
                        obtain rfl := hw'.symm
                        go_wp2_with fail
                        refine (BD.out _).mono ?_
                        rintro e w' ⟨rfl, hw'⟩
                        obtain rfl := hw'.symm
                        go_wp2_with fail
                        go_meet
                        exact ⟨rfl, rfl, rfl, rfl, rfl, ⟨a5, L5, c5, rfl, T5⟩, H9⟩
                      · rw [hs1] at IS
                        subst hq1
                        have BD := hid (fun w => bad_yes 1 w)
                        have hP' : spI (rk l) (rk l') m (2 * m) y = P := by rw [hP]; exact sp_twice hm hyt
                        obtain ⟨f, HF⟩ : ∃ f : Nat → Nat, Hid ((fun j => spI (rk l) (rk l') m j y) = f) := ⟨_, rfl⟩
                        have HF1 : ∀ j, spI (rk l) (rk l') m j y = f j := fun j => by rw [← HF.out]
                        have F0 : f 0 = y := by rw [← HF1]; rfl
                        have FS : Hid (∀ j, f (j + 1) = cl (rk l') m (cl (rk l) m (f j))) := fun j => by rw [← HF1, ← HF1]; rfl
                        have FL : Hid (∀ j, f j < 2 ^ m) := fun j => by rw [← HF1]; exact spI_lt hm hyt j
                        have FE : Hid (f (2 * m) = P) := by show _ = _; rw [← HF1]; exact hP'
                        have CA : Hid (∀ (z : Nat) (w' : World), z < 2 ^ m → Below wd.heap.size wd w' → _) := fun z w' hz hb2 => Closure_ref m z _ l w' hm hb (hf.lt256 hm) (HM.out _ (S9.out.1.trans (hb2.mono S9.out.1.size))) hz
                        have CB : Hid (∀ (z : Nat) (w' : World), z < 2 ^ m → Below wd.heap.size wd w' → _) := fun z w' hz hb2 => Closure_ref m z _ l' w' hm hb' (hf'.lt256 hm) (HN.out _ (S9.out.1.trans (hb2.mono S9.out.1.size))) hz
                        have CL : Hid (∀ j, cl (rk l) m (f j) < 2 ^ m) := fun j => cl_lt hm (FL.out j)
                        have hF0 : ((f 0 : Nat) : Int) = (y : Int) := by rw [F0]
                        have HBS := hid S9.out
                        clear HSP hs1 HF HF1 hP hP' F0 HM HN HX HRn HQn
                        go_wp2_with fail
                        refine (IS.out _).mono ?_
                        rintro e w' ⟨rfl, hw'⟩
                        obtain rfl := hw'.symm
                        go_wp2_with fail
                        refine (BD.out _).mono ?_
                        rintro e w' ⟨rfl, hw'⟩
                        obtain rfl := hw'.symm
                        go_wp2_with fail
                        go_loopw [14, 23] (fun sp i wr => ∃ j : Nat, j ≤ 2 * m ∧ i = .int .i64 j ∧ sp = .int .i64 (f j : Nat) ∧ Hid (Below wd.heap.size wd wr)) (fun _ i _ => 2 * m - (intOf i).toNat)
                        case atStart => exact ⟨0, Nat.zero_le _, rfl, by rw [hF0], Below.refl _ _⟩
                        case round =>
                          obtain ⟨j, hj, rfl, rfl, HBt⟩ := hrel
                          obtain ⟨p0, p1, p2, p3⟩ := (HBS.out.next HBt.out).cells
                          by_cases hlt : j < 2 * m
                          · have hlt' : (j : Int) < 2 * (m : Int) := by omega
                            have CA1 : Hid (∀ x : Later wr, _) := fun x => CA.out (f j) x.now (FL.out j) (HBt.out.trans (x.kept.mono HBt.out.size))
                            have CB1 : Hid (∀ x : Later wr, _) := fun x => CB.out (cl (rk l) m (f j)) x.now (CL.out j) (HBt.out.trans (x.kept.mono HBt.out.size))
                            have d0 : ∀ x : Later wr, x.now.cell? ⟨w.heap.size, 0, none⟩ = some (.int .i64 m) := fun x => ((HBS.out.next HBt.out).next x.kept).cells.1
                            have d1 : ∀ x : Later wr, x.now.cell? ⟨w.heap.size, 1, none⟩ = some (.slice a0 l.length cap) := fun x => ((HBS.out.next HBt.out).next x.kept).cells.2.1
                            have d2 : ∀ x : Later wr, x.now.cell? ⟨w.heap.size + 1, 0, none⟩ = some (.int .i64 m) := fun x => ((HBS.out.next HBt.out).next x.kept).cells.2.2.1
                            have d3 : ∀ x : Later wr, x.now.cell? ⟨w.heap.size + 1, 1, none⟩ = some (.slice a1 l'.length cap1) := fun x => ((HBS.out.next HBt.out).next x.kept).cells.2.2.2
                            have E := hid (FS.out j)
                            clear FS FL CA CB CL FE
                            generalize cl (rk l) m (f j) = q1 at *
                            generalize cl (rk l') m q1 = q2 at *
                            generalize f j = fj at *
                            clear x0 x1 x2 x3
                            go_wp2_with fail
                            refine region_later (by kernel_rfl) (by kernel_rfl) ?_
                            repeat (go_big_quiet_step ((first | (go_at_call 15; (with_reducible refine (CA1.out _).mono ?_); rintro e w' ⟨rfl, hb9⟩; exact ⟨rfl, Later.on _ hb9⟩) | (go_at_call 15; (with_reducible refine (CB1.out _).mono ?_); rintro e w' ⟨rfl, hb9⟩; exact ⟨rfl, Later.on _ hb9⟩))))
                            refine wpQuiet_nil ?_
                            intro wx hw'
                            obtain ⟨⟨yx, hbx⟩, hw''⟩ := hw'
                            dsimp only at hw''
                            subst hw''
                            have HBx := hid (HBt.out.trans (hbx.mono HBt.out.size))
                            clear hbx
                            clear d0 d1 d2 d3 CA1 CB1 p0 p1 p2 p3
                            go_wp2_with fail
                            go_roundw
                            case rel => exact ⟨j + 1, by omega, by go_num, by rw [E.out], HBx.out⟩
                            case measure => simp [intOf]; omega
                          · obtain rfl : j = 2 * m := by omega
                            have hlt' : ¬ ((2 * m : Nat) : Int) < 2 * (m : Int) := by omega
                            rw [FE.out]
                            have T6 := hid (T5.out.below HBt.out)
                            have H10 := hid (H9.out.trans (HBt.out.mono H9.out.size))
                            clear x0 x1 x2 x3 FS FL CA CB CL FE
                            go_wp2_with fail
                            go_meet
                            exact ⟨rfl, rfl, rfl, rfl, rfl, ⟨a5, L5, c5, rfl, T6⟩, H10⟩
                  · have hjA' : ¬ (j : Int) < (A : Int) := by omega
                    go_wp2_with fail
                    refine region_later (by kernel_rfl) (by kernel_rfl) ?_
                    repeat (go_big_quiet_step ((first | (go_at_call 11; (with_reducible refine (SZ.out _).mono ?_); rintro e w' ⟨rfl, hb9⟩; exact ⟨rfl, Later.on _ hb9⟩))))
                    refine wpQuiet_nil ?_
                    intro wx hw'
                    obtain ⟨⟨yx, hbx⟩, hw''⟩ := hw'
                    dsimp only at hw''
                    subst hw''
                    have HBx := hid (HBt.out.trans (hbx.mono HBt.out.size))
                    clear hbx
                    clear cA cB hA1 hyT hjT hbe' SZ
                    have HBq := hid (HBW.out.trans (HBx.out.mono HBW.out.size))
                    clear HBx HBt HBW hjA hjA'
                    have S8 := hid (S7.out.next HBq.out)
                    have H8 := hid (H7.out.trans (HBq.out.mono H7.out.size))
                    have R8 := hid (R6'.out.below HBq.out)
                    have R9 := hid (R7.out.below HBq.out)
                    clear S7 H7 R6' R7 HBq z0 z1 z2 z3
                    obtain ⟨x0, x1, x2, x3⟩ := S8.out.cells
                    have PR := hid (Priced_any m _ ws wx (HX.out _ S8.out.1))
                    rw [← HQH.out] at PR
                    go_wp2_with fail
                    refine PR.out.mono ?_
                    rintro e w9 ⟨rfl, hw9⟩
                    obtain rfl := hw9.symm
                    clear hw9 PR
                    go_upto_if 111 with fail
                    go_cut [15, 20, 21, 22] from 112 to 160 (fun li _ _ _ W => (∃ a L' c', li = .slice a L' c' ∧ Hid (ToldJ w3.heap.size W qH (.slice a L' c') L)) ∧ Hid (Below wx.heap.size wx W))
                    case first =>
                      by_cases hcw : qH = 0
                      · subst hcw
                        have hw0 : cwR m ws = 0 := HQH.out.symm
                        have hLe := HLL.out hw0
                        obtain ⟨hwl, hwb⟩ := cw_of hw0
                        obtain ⟨W, HW⟩ : ∃ W : Nat → Int, Hid ((fun s => weiTo (fun i => ws.getD i 0) s m) = W) := ⟨_, rfl⟩
                        have HW1 : ∀ s, weiTo (fun i => ws.getD i 0) s m = W s := fun s => by rw [← HW.out]
                        have WG : Hid (∀ (s : Nat) (w' : World), s < t → Below wx.heap.size wx w' → Calls Try.prog 13 #[.slice a2 ws.length cap2, .int .i64 s] w' fun e w2 => e = .returned (.int .i64 (W s)) ∧ Below w'.heap.size w' w2) := fun s w' hs hb2 => by
                          have := Weighs_any (.slice a2 ws.length cap2) ws s w' (HX.out _ (S8.out.1.trans (hb2.mono S8.out.1.size))) (by rw [hwl]; exact hm) (by rw [hwl, HT.out]; exact hs) hwb
                          rw [show weiTo (fun i => ws.getD i 0) s ws.length = W s by rw [hwl, HW1]] at this
                          exact this
                        rw [HW.out] at hLe
                        have hlen : L.length = ps + 1 := by rw [hLe, hv_len hm HRn.out HQn.out, HPS.out]
                        obtain ⟨G, HG⟩ : ∃ G : Nat → Nat → Int, Hid ((fun j c => bsF m (rk l) (rk l') W j c) = G) := ⟨_, rfl⟩
                        have HG1 : ∀ j c, bsF m (rk l) (rk l') W j c = G j c := fun j c => by rw [← HG.out]
                        have GE : Hid (∀ j, j < L.length → G j t = (L.getD j 0 : Nat)) := fun j hj => by
                          rw [← HG1, ← HT.out]
                          rw [hLe] at hj ⊢
                          exact bsF_end hm HRn.out HQn.out W hj
                        have G0 : Hid (∀ j, G j 0 = -1) := fun j => by rw [← HG1]; rfl
                        have GS : Hid (∀ j c, G j (c + 1) = if (pop (A - c) = j ∧ rk l (A - c) = j ∧ rk l' (A - c) = j) ∧ (G j c < 0 ∨ W (G j c).toNat ≤ W (A - c)) then ((A - c : Nat) : Int) else G j c) := fun j c => by
                          rw [← HG1, ← HG1]
                          show (if comB (rk l) (rk l') (2 ^ m - 1 - c) = true ∧ pop (2 ^ m - 1 - c) = j ∧ (bsF m (rk l) (rk l') W j c < 0 ∨ W (bsF m (rk l) (rk l') W j c).toNat ≤ W (2 ^ m - 1 - c)) then ((2 ^ m - 1 - c : Nat) : Int) else bsF m (rk l) (rk l') W j c) = _
                          rw [HT.out, show t - 1 - c = A - c by omega]
                          by_cases hh : (pop (A - c) = j ∧ rk l (A - c) = j ∧ rk l' (A - c) = j) ∧ (bsF m (rk l) (rk l') W j c < 0 ∨ W (bsF m (rk l) (rk l') W j c).toNat ≤ W (A - c))
                          · rw [if_pos hh, if_pos ⟨com_iff.2 ⟨by omega, by omega⟩, hh.1.1, hh.2⟩]
                          · rw [if_neg hh, if_neg (fun x => hh ⟨⟨x.2.1, by have := (com_iff.1 x.1).1; omega, by have := (com_iff.1 x.1).2; omega⟩, x.2.2⟩)]
                        have GB : Hid (∀ j c, c ≤ t → G j c = -1 ∨ ∃ b : Nat, G j c = b ∧ b < t) := fun j c hc => by
                          rw [← HG1]
                          rcases bsF_spec (n := m) (r := rk l) (q := rk l') (W := W) (k := j) c (by rw [HT.out]; exact hc) with ⟨h, _⟩ | ⟨b, h, _, h2, _⟩
                          · exact .inl h
                          · exact .inr ⟨b, h, by rw [HT.out] at h2; exact h2⟩
                        have SZ := hid (fun w => Size_any S w hS8)
                        rw [HPP.out] at SZ
                        have HLEN := hid hlen
                        have hw3 : w3.heap.size ≤ wx.heap.size := H8.out.size
                        obtain ⟨i0, hi, hz0, hz1, hz2⟩ := info_parts Try.infoInt
                        clear HG HG1 HW HW1 hw0 hLe hwl hwb hlen HLL HPS HRn HQn HQH HSP HX HM HN hf hb hf' hb' x0 x1 x2 x3 S8
                        go_wp2_with fail
                        rw [show ((0 : Int) == 0) = true from rfl]
                        go_loopw [15, 20] (fun li i wr => ∃ j : Nat, j ≤ L.length ∧ i = .int .i64 j ∧ Own wx.heap.size wr li (L.take j) ∧ Below wx.heap.size wx wr) (fun _ i _ => L.length - (intOf i).toNat)
                        case atStart => exact ⟨0, Nat.zero_le _, rfl, Own.nil _ _, Below.refl _ _⟩
                        case round =>
                          obtain ⟨j, hj, rfl, hown, hnx⟩ := hrel
                          have HO := hid hown
                          have HN1 := hid hnx
                          clear hown hnx
                          by_cases hjL : j < L.length
                          · have hjp : (j : Int) ≤ (ps : Int) := by have := HLEN.out; omega
                            go_wp2_with fail
                            refine (SZ.out _).mono ?_
                            rintro e wa ⟨rfl, hba⟩
                            have HO2 := hid (HO.out.below hba)
                            have HN2 := hid (HN1.out.trans (hba.mono HN1.out.size))
                            clear hba HO HN1
                            generalize wr = wz at *
                            go_wp2_with fail
                            go_loopw [21, 22] (fun b i wr => ∃ c : Nat, c ≤ t ∧ i = .int .i64 ((A : Int) - (c : Int)) ∧ b = .int .i64 (G j c) ∧ Hid (Below wa.heap.size wa wr)) (fun _ i _ => (intOf i + 1).toNat)
                            case atStart => exact ⟨0, Nat.zero_le _, by simp, by rw [G0.out], Below.refl _ _⟩
                            case round =>
                              obtain ⟨c, hc, rfl, rfl, HBc⟩ := hrel
                              by_cases hct : c < t
                              · obtain ⟨y, hy1, hy2, hyt⟩ : ∃ y : Nat, (A : Int) - (c : Int) = (y : Int) ∧ A - c = y ∧ y < t := ⟨A - c, by omega, rfl, by omega⟩
                                have cA : ∀ w', Below wr.heap.size wr w' → w'.cell? ⟨rb6, ro6 + y, none⟩ = some (.int .i64 (rk l y : Nat)) := fun w' hb2 => rk_cellS R8.out (HN2.out.trans ((HBc.out.trans (hb2.mono HBc.out.size)).mono HN2.out.size)) hyt
                                have cB : ∀ w', Below wr.heap.size wr w' → w'.cell? ⟨rb7, ro7 + y, none⟩ = some (.int .i64 (rk l' y : Nat)) := fun w' hb2 => rk_cellS R9.out (HN2.out.trans ((HBc.out.trans (hb2.mono HBc.out.size)).mono HN2.out.size)) hyt
                                have SY := hid (fun w => Size_any y w (by omega))
                                have WY : Hid (∀ w', Below wr.heap.size wr w' → _) := fun w' hb2 => WG.out y w' hyt (HN2.out.trans ((HBc.out.trans (hb2.mono HBc.out.size)).mono HN2.out.size))
                                have WX : Hid (∀ b : Nat, b < t → ∀ w', Below wr.heap.size wr w' → _) := fun b hb2 w' hb3 => WG.out b w' hb2 (HN2.out.trans ((HBc.out.trans (hb3.mono HBc.out.size)).mono HN2.out.size))
                                have gs := GS.out j c
                                rw [hy2] at gs
                                have HGS := hid gs
                                have gb := GB.out j c (by omega)
                                rw [hy1]
                                have hyI : (y : Int) < (t : Int) := by omega
                                have hy0 : (0 : Int) ≤ (y : Int) := by omega
                                have hnext : (y : Int) - 1 = (A : Int) - ((c + 1 : Nat) : Int) := by omega
                                have HNX := hid hnext
                                have HCA := hid cA
                                have HCB := hid cB
                                clear WG GS GB gs hy1 hy2 R8 R9 hnext cA cB GE G0
                                generalize rk l y = q1 at *
                                generalize rk l' y = q2 at *
                                generalize G j c = g at *
                                by_cases h1 : pop y = j
                                · have h1' : ((pop y : Int) == (j : Int)) = true := by rw [h1]; simp
                                  by_cases h2 : q1 = j
                                  · have h2' : ((q1 : Int) == (j : Int)) = true := by rw [h2]; simp
                                    by_cases h3 : q2 = j
                                    · have h3' : ((q2 : Int) == (j : Int)) = true := by rw [h3]; simp
                                      rcases gb with gb | ⟨b, gb, hbt⟩
                                      · subst gb
                                        have E := hid (HGS.out.trans (if_pos ⟨⟨h1, h2, h3⟩, .inl (by decide)⟩))
                                        clear h1 h2 h3 HGS
                                        generalize pop y = py at *
                                        go_wp2_with fail
                                        refine (SY.out _).mono ?_
                                        rintro e wa1 ⟨rfl, hb1⟩
                                        have c1 := HCA.out _ hb1
                                        have c2 := HCB.out _ hb1
                                        have HB1 := hid hb1
                                        clear hb1
                                        go_wp2_with fail
                                        have HBx := hid (HBc.out.trans (HB1.out.mono HBc.out.size))
                                        clear c1 c2
                                        exact ⟨⟨c + 1, by omega, by rw [HNX.out], by rw [E.out], HBx⟩, by simp [intOf]⟩
                                      · subst gb
                                        have W1 : Hid (∀ w', Below wr.heap.size wr w' → _) := fun w' hb2 => WX.out b hbt w' hb2
                                        by_cases h4 : W b ≤ W y
                                        · have h4' : W b ≤ W y := h4
                                          have E := hid (HGS.out.trans (if_pos ⟨⟨h1, h2, h3⟩, .inr (by simpa using h4)⟩))
                                          clear h1 h2 h3 h4 HGS
                                          generalize pop y = py at *
                                          generalize W y = wy at *
                                          generalize W b = wb at *
                                          go_wp2_with fail
                                          refine (SY.out _).mono ?_
                                          rintro e wa1 ⟨rfl, hb1⟩
                                          have c1 := HCA.out _ hb1
                                          have c2 := HCB.out _ hb1
                                          have HB1 := hid hb1
                                          clear hb1
                                          go_wp2_with fail
                                          have WY1 := hid (WY.out _ HB1.out)
                                          refine WY1.out.mono ?_
                                          rintro e wa2 ⟨rfl, hb2⟩
                                          have HB2 := hid (HB1.out.trans (hb2.mono HB1.out.size))
                                          clear hb2 WY1
                                          go_wp2_with fail
                                          have WZ1 := hid (W1.out _ HB2.out)
                                          refine WZ1.out.mono ?_
                                          rintro e wa3 ⟨rfl, hb3⟩
                                          have HB3 := hid (HB2.out.trans (hb3.mono HB2.out.size))
                                          clear hb3 WZ1
                                          go_wp2_with fail
                                          have HBx := hid (HBc.out.trans (HB3.out.mono HBc.out.size))
                                          clear c1 c2
                                          exact ⟨⟨c + 1, by omega, by rw [HNX.out], by rw [E.out], HBx⟩, by simp [intOf]⟩
                                        · have h4' : ¬ W b ≤ W y := h4
                                          have E := hid (HGS.out.trans (if_neg (fun x => x.2.elim (fun h => by omega) (fun h => h4 (by simpa using h)))))
                                          clear h1 h2 h3 h4 HGS
                                          generalize pop y = py at *
                                          generalize W y = wy at *
                                          generalize W b = wb at *
                                          go_wp2_with fail
                                          refine (SY.out _).mono ?_
                                          rintro e wa1 ⟨rfl, hb1⟩
                                          have c1 := HCA.out _ hb1
                                          have c2 := HCB.out _ hb1
                                          have HB1 := hid hb1
                                          clear hb1
                                          go_wp2_with fail
                                          have WY1 := hid (WY.out _ HB1.out)
                                          refine WY1.out.mono ?_
                                          rintro e wa2 ⟨rfl, hb2⟩
                                          have HB2 := hid (HB1.out.trans (hb2.mono HB1.out.size))
                                          clear hb2 WY1
                                          go_wp2_with fail
                                          have WZ1 := hid (W1.out _ HB2.out)
                                          refine WZ1.out.mono ?_
                                          rintro e wa3 ⟨rfl, hb3⟩
                                          have HB3 := hid (HB2.out.trans (hb3.mono HB2.out.size))
                                          clear hb3 WZ1
                                          go_wp2_with fail
                                          have HBx := hid (HBc.out.trans (HB3.out.mono HBc.out.size))
                                          clear c1 c2
                                          exact ⟨⟨c + 1, by omega, by rw [HNX.out], by rw [E.out], HBx⟩, by simp [intOf]⟩
                                    · have h3' : ((q2 : Int) == (j : Int)) = false := by rw [beq_eq_false_iff_ne]; omega
                                      have E := hid (HGS.out.trans (if_neg (fun x => h3 x.1.2.2)))
                                      clear h1 h2 h3 HGS gb
                                      generalize pop y = py at *
                                      go_wp2_with fail
                                      refine (SY.out _).mono ?_
                                      rintro e wa1 ⟨rfl, hb1⟩
                                      have c1 := HCA.out _ hb1
                                      have c2 := HCB.out _ hb1
                                      have HB1 := hid hb1
                                      clear hb1
                                      go_wp2_with fail
                                      have HBx := hid (HBc.out.trans (HB1.out.mono HBc.out.size))
                                      clear c1 c2
                                      exact ⟨⟨c + 1, by omega, by rw [HNX.out], by rw [E.out], HBx⟩, by simp [intOf]⟩
                                  · have h2' : ((q1 : Int) == (j : Int)) = false := by rw [beq_eq_false_iff_ne]; omega
                                    have E := hid (HGS.out.trans (if_neg (fun x => h2 x.1.2.1)))
                                    clear h1 h2 HGS gb
                                    generalize pop y = py at *
                                    go_wp2_with fail
                                    refine (SY.out _).mono ?_
                                    rintro e wa1 ⟨rfl, hb1⟩
                                    have c1 := HCA.out _ hb1
                                    have c2 := HCB.out _ hb1
                                    have HB1 := hid hb1
                                    clear hb1
                                    go_wp2_with fail
                                    have HBx := hid (HBc.out.trans (HB1.out.mono HBc.out.size))
                                    clear c1 c2
                                    exact ⟨⟨c + 1, by omega, by rw [HNX.out], by rw [E.out], HBx⟩, by simp [intOf]⟩
                                · have h1' : ((pop y : Int) == (j : Int)) = false := by rw [beq_eq_false_iff_ne]; omega
                                  have E := hid (HGS.out.trans (if_neg (fun x => h1 x.1.1)))
                                  clear h1 HGS gb
                                  generalize pop y = py at *
                                  go_wp2_with fail
                                  refine (SY.out _).mono ?_
                                  rintro e wa1 ⟨rfl, hb1⟩
                                  have c1 := HCA.out _ hb1
                                  have c2 := HCB.out _ hb1
                                  have HB1 := hid hb1
                                  clear hb1
                                  go_wp2_with fail
                                  have HBx := hid (HBc.out.trans (HB1.out.mono HBc.out.size))
                                  clear c1 c2
                                  exact ⟨⟨c + 1, by omega, by rw [HNX.out], by rw [E.out], HBx⟩, by simp [intOf]⟩
                              · obtain rfl : c = t := by omega
                                have hA2 : (A : Int) - (c : Int) = -1 := by omega
                                rw [hA2, GE.out j hjL]
                                have HO3 := hid (HO2.out.below HBc.out)
                                have HN3 := HN2.out.trans (HBc.out.mono HN2.out.size)
                                have hs3 : wx.heap.size ≤ wr.heap.size := HN3.size
                                have TK := hid (take_next hjL)
                                have hl9 : (L.take j).length ≤ 256 := by rw [List.length_take]; omega
                                clear GE GS GB WG R8 R9 HO2 HN2 HBc
                                generalize L.getD j 0 = lj at *
                                generalize L.take j = acc at *
                                go_wp2_with (at_builtin; refine wpList_append_own _ rfl _ _ 22 rfl wx.heap.size 3 i0 (.int .i64 0) 1 8 Try.underlying22 hi hz0 hz1 hz2 rfl (by decide) _ _ _ rfl (HO3.out.alloc _) ⟨wr.heap.size, 0, none⟩ 1 1 [.int .i64 (lj : Nat)] rfl rfl ?c1 ?c2 ?c3 ?c4 ?c5 ?_)
                                case c1 => exact cell_one_new _ _ _
                                case c2 => intro u hu; simp at hu; subst hu; rfl
                                case c3 => unfold maxLen; omega
                                case c4 => omega
                                case c5 => simp; omega
                                intro v' w5 hown' hgrow _
                                have R3 := hid (Own.snoc hown')
                                have R4 := hid (Own.grown HO3.out HN3 (by omega) hgrow)
                                clear hown' hgrow
                                go_wp2_with fail
                                go_roundw
                                case rel => exact ⟨j + 1, by omega, by go_num, by rw [TK.out]; exact R3.out, R4.out⟩
                                case measure => simp [intOf]; omega
                          · obtain rfl : j = L.length := by omega
                            have hjp : ¬ (L.length : Int) ≤ (ps : Int) := by have := HLEN.out; omega
                            rw [List.take_length] at HO
                            go_wp2_with fail
                            refine (SZ.out _).mono ?_
                            rintro e wa ⟨rfl, hba⟩
                            have HO2 := hid (HO.out.below hba)
                            have HN2 := hid (HN1.out.trans (hba.mono HN1.out.size))
                            obtain ⟨ra, rc, rfl⟩ := ownsRow_form' HO2.out
                            clear hba HO HN1
                            go_wp2_with fail
                            go_meet
                            exact ⟨⟨ra, _, rc, rfl, .inr ⟨rfl, HO2.out.mono hw3⟩⟩, HN2⟩
                      · have hq' : (qH == 0) = false := by simp [hcw]
                        have E4 : Hid (ToldJ w3.heap.size wx qH (.slice none 0 0) L) := .inl ⟨hcw, rfl⟩
                        clear hcw
                        go_wp2_with fail
                        go_meet
                        exact ⟨⟨none, 0, 0, rfl, E4⟩, Below.refl _ _⟩
                    case rest =>
                      obtain ⟨⟨a5, L5, c5, rfl, T5⟩, HC⟩ := hcut
                      have S9 := hid (S8.out.next HC.out)
                      have H9 := hid (H8.out.trans (HC.out.mono H8.out.size))
                      clear HC S8 H8 R8 R9 x0 x1 x2 x3
                      generalize wc = wd at *
                      obtain ⟨x0, x1, x2, x3⟩ := S9.out.cells
                      have IS := hid (fun w => IsSet_any m s w)
                      rw [setB_is] at IS
                      have FIN : Hid (Below w3.heap.size w3 wd) := H9
                      rcases HSP.out with ⟨hq1, hs1⟩ | ⟨hq1, hs1, y, rfl, hyt, hP⟩
                      · rw [hs1] at IS
                        have hP0 := HZ2.out (by rw [hq1]; decide)
                        subst hP0
                        subst hq1
                        have BD := hid (fun w => bad_no 1 w)
                        clear HSP hs1
                        go_wp2_with fail
                        refine (IS.out _).mono ?_
                        rintro e w' ⟨rfl, hw'⟩
                        obtain rfl := hw'.symm
                        go_wp2_with fail
                        refine (BD.out _).mono ?_
                        rintro e w' ⟨rfl, hw'⟩
                        obtain rfl := hw'.symm
                        go_wp2_with fail
                        go_meet
                        exact ⟨rfl, rfl, rfl, rfl, rfl, ⟨a5, L5, c5, rfl, T5⟩, H9⟩
                      · rw [hs1] at IS
                        subst hq1
                        have BD := hid (fun w => bad_yes 1 w)
                        have hP' : spI (rk l) (rk l') m (2 * m) y = P := by rw [hP]; exact sp_twice hm hyt
                        obtain ⟨f, HF⟩ : ∃ f : Nat → Nat, Hid ((fun j => spI (rk l) (rk l') m j y) = f) := ⟨_, rfl⟩
                        have HF1 : ∀ j, spI (rk l) (rk l') m j y = f j := fun j => by rw [← HF.out]
                        have F0 : f 0 = y := by rw [← HF1]; rfl
                        have FS : Hid (∀ j, f (j + 1) = cl (rk l') m (cl (rk l) m (f j))) := fun j => by rw [← HF1, ← HF1]; rfl
                        have FL : Hid (∀ j, f j < 2 ^ m) := fun j => by rw [← HF1]; exact spI_lt hm hyt j
                        have FE : Hid (f (2 * m) = P) := by show _ = _; rw [← HF1]; exact hP'
                        have CA : Hid (∀ (z : Nat) (w' : World), z < 2 ^ m → Below wd.heap.size wd w' → _) := fun z w' hz hb2 => Closure_ref m z _ l w' hm hb (hf.lt256 hm) (HM.out _ (S9.out.1.trans (hb2.mono S9.out.1.size))) hz
                        have CB : Hid (∀ (z : Nat) (w' : World), z < 2 ^ m → Below wd.heap.size wd w' → _) := fun z w' hz hb2 => Closure_ref m z _ l' w' hm hb' (hf'.lt256 hm) (HN.out _ (S9.out.1.trans (hb2.mono S9.out.1.size))) hz
                        have CL : Hid (∀ j, cl (rk l) m (f j) < 2 ^ m) := fun j => cl_lt hm (FL.out j)
                        have hF0 : ((f 0 : Nat) : Int) = (y : Int) := by rw [F0]
                        have HBS := hid S9.out
                        clear HSP hs1 HF HF1 hP hP' F0 HM HN HX HRn HQn
                        go_wp2_with fail
                        refine (IS.out _).mono ?_
                        rintro e w' ⟨rfl, hw'⟩
                        obtain rfl := hw'.symm
                        go_wp2_with fail
                        refine (BD.out _).mono ?_
                        rintro e w' ⟨rfl, hw'⟩
                        obtain rfl := hw'.symm
                        go_wp2_with fail
                        go_loopw [14, 23] (fun sp i wr => ∃ j : Nat, j ≤ 2 * m ∧ i = .int .i64 j ∧ sp = .int .i64 (f j : Nat) ∧ Hid (Below wd.heap.size wd wr)) (fun _ i _ => 2 * m - (intOf i).toNat)
                        case atStart => exact ⟨0, Nat.zero_le _, rfl, by rw [hF0], Below.refl _ _⟩
                        case round =>
                          obtain ⟨j, hj, rfl, rfl, HBt⟩ := hrel
                          obtain ⟨p0, p1, p2, p3⟩ := (HBS.out.next HBt.out).cells
                          by_cases hlt : j < 2 * m
                          · have hlt' : (j : Int) < 2 * (m : Int) := by omega
                            have CA1 : Hid (∀ x : Later wr, _) := fun x => CA.out (f j) x.now (FL.out j) (HBt.out.trans (x.kept.mono HBt.out.size))
                            have CB1 : Hid (∀ x : Later wr, _) := fun x => CB.out (cl (rk l) m (f j)) x.now (CL.out j) (HBt.out.trans (x.kept.mono HBt.out.size))
                            have d0 : ∀ x : Later wr, x.now.cell? ⟨w.heap.size, 0, none⟩ = some (.int .i64 m) := fun x => ((HBS.out.next HBt.out).next x.kept).cells.1
                            have d1 : ∀ x : Later wr, x.now.cell? ⟨w.heap.size, 1, none⟩ = some (.slice a0 l.length cap) := fun x => ((HBS.out.next HBt.out).next x.kept).cells.2.1
                            have d2 : ∀ x : Later wr, x.now.cell? ⟨w.heap.size + 1, 0, none⟩ = some (.int .i64 m) := fun x => ((HBS.out.next HBt.out).next x.kept).cells.2.2.1
                            have d3 : ∀ x : Later wr, x.now.cell? ⟨w.heap.size + 1, 1, none⟩ = some (.slice a1 l'.length cap1) := fun x => ((HBS.out.next HBt.out).next x.kept).cells.2.2.2
                            have E := hid (FS.out j)
                            clear FS FL CA CB CL FE
                            generalize cl (rk l) m (f j) = q1 at *
                            generalize cl (rk l') m q1 = q2 at *
                            generalize f j = fj at *
                            clear x0 x1 x2 x3
                            go_wp2_with fail
                            refine region_later (by kernel_rfl) (by kernel_rfl) ?_
                            repeat (go_big_quiet_step ((first | (go_at_call 15; (with_reducible refine (CA1.out _).mono ?_); rintro e w' ⟨rfl, hb9⟩; exact ⟨rfl, Later.on _ hb9⟩) | (go_at_call 15; (with_reducible refine (CB1.out _).mono ?_); rintro e w' ⟨rfl, hb9⟩; exact ⟨rfl, Later.on _ hb9⟩))))
                            refine wpQuiet_nil ?_
                            intro wx hw'
                            obtain ⟨⟨yx, hbx⟩, hw''⟩ := hw'
                            dsimp only at hw''
                            subst hw''
                            have HBx := hid (HBt.out.trans (hbx.mono HBt.out.size))
                            clear hbx
                            clear d0 d1 d2 d3 CA1 CB1 p0 p1 p2 p3
                            go_wp2_with fail
                            go_roundw
                            case rel => exact ⟨j + 1, by omega, by go_num, by rw [E.out], HBx.out⟩
                            case measure => simp [intOf]; omega
                          · obtain rfl : j = 2 * m := by omega
                            have hlt' : ¬ ((2 * m : Nat) : Int) < 2 * (m : Int) := by omega
                            rw [FE.out]
                            have T6 := hid (T5.out.below HBt.out)
                            have H10 := hid (H9.out.trans (HBt.out.mono H9.out.size))
                            clear x0 x1 x2 x3 FS FL CA CB CL FE
                            go_wp2_with fail
                            go_meet
                            exact ⟨rfl, rfl, rfl, rfl, rfl, ⟨a5, L5, c5, rfl, T6⟩, H10⟩
                · have hbe := HBN.out j (by omega)
                  clear HBN HBE HK1 HK2
                  generalize A - j = y at *
                  generalize rk l j = q1 at *
                  generalize rk l' y = q2 at *
                  have hbe' : (((q1 : Int) + q2) == (pop S : Int)) = false := by rw [beq_eq_false_iff_ne]; omega
                  have hbe2 : ¬ (q1 : Int) + q2 = (pop S : Int) := by omega
                  generalize pop S = ps at *
                  clear hbe
                  have hjA' : (j : Int) < (A : Int) := by omega
                  go_wp2_with fail
                  refine region_later (by kernel_rfl) (by kernel_rfl) ?_
                  repeat (go_big_quiet_step ((first | (go_at_call 11; (with_reducible refine (SZ.out _).mono ?_); rintro e w' ⟨rfl, hb9⟩; exact ⟨rfl, Later.on _ hb9⟩))))
                  refine wpQuiet_nil ?_
                  intro wx hw'
                  obtain ⟨⟨yx, hbx⟩, hw''⟩ := hw'
                  dsimp only at hw''
                  subst hw''
                  have HBx := hid (HBt.out.trans (hbx.mono HBt.out.size))
                  clear hbx
                  clear cA cB hA1 hyT hjT hbe' SZ
                  go_wp2_with fail
                  go_roundw
                  case rel => exact ⟨j + 1, by omega, by go_num, HBx.out⟩
                  case measure => simp [intOf]; omega
        · have hq' : (qF == 0) = false := by simp [hq]
          obtain ⟨e1, e2, e3, e4⟩ := HZ1.out hq
          have e5 := HZ2.out (by rw [e4]; exact hq)
          subst e1
          subst e2
          subst e5
          have E4 : Hid (ToldJ w3.heap.size w3 qF (.slice none 0 0) L) := .inl ⟨hq, rfl⟩
          have E5 := hid e3
          have E6 := hid e4
          clear hq HCM HHV HSP HZ1 HZ2 HIS e3 e4
          go_wp2_with fail
          go_meet
          exact ⟨by rw [E5.out], by rw [E6.out], rfl, rfl, rfl, ⟨none, 0, 0, rfl, by rw [E5.out]; exact E4⟩, Below.refl _ _⟩
      case rest =>
        obtain ⟨rfl, rfl, rfl, rfl, rfl, ⟨a5, L5, c5, rfl, T5⟩, HC⟩ := hcut
        have S4 := hid (S3.out.next HC.out)
        clear HC S3 HIS
        generalize wc = w4 at *
        have C1 := hid (HCM.out _ _ w4 (HM.out _ S4.out.1) (HN.out _ S4.out.1))
        obtain ⟨x0, x1, x2, x3⟩ := S4.out.cells
        clear HCM
        go_wp2_with fail
        refine C1.out.mono ?_
        rintro e w5 ⟨rfl, hb5⟩
        have S5 := hid (S4.out.next hb5)
        have T6 := hid (T5.out.below hb5)
        have C2 := hid (HHV.out _ _ _ w5 (HM.out _ S5.out.1) (HN.out _ S5.out.1) (HX.out _ S5.out.1))
        clear hb5 T5 S4 C1 HHV x0 x1 x2 x3
        obtain ⟨x0, x1, x2, x3⟩ := S5.out.cells
        go_wp2_with fail
        refine C2.out.mono ?_
        rintro e w6 ⟨a6, L6, c6, rfl, ht6, hb6⟩
        have S6 := hid (S5.out.next hb6)
        have T7 := hid (T6.out.below hb6)
        have T8 := hid ht6
        have C3 := hid (HSP.out _ _ w6 (HM.out _ S6.out.1) (HN.out _ S6.out.1))
        clear hb6 ht6 T6 S5 C2 HSP x0 x1 x2 x3
        obtain ⟨x0, x1, x2, x3⟩ := S6.out.cells
        go_wp2_with fail
        refine C3.out.mono ?_
        rintro e w7 ⟨rfl, hb7⟩
        have S7 := hid (S6.out.next hb7)
        have LI := hid (listJ w7 (T8.out.below hb7) (T7.out.below hb7) hL)
        have O1 := hid (fun w => oneJ S qF w (fun h => by rw [(HZ1.out h).1]; rfl))
        have O2 := hid (fun w => oneJ B qF w (fun h => by rw [(HZ1.out h).2.1]; rfl))
        have O3 := hid (fun w => oneJ P qS w (fun h => by rw [HZ2.out h]; rfl))
        clear hb7 T7 T8 S6 C3 HZ1 HZ2 x0 x1 x2 x3 HM HN HX
        go_wp2_with fail
        refine (O1.out _).mono ?_
        rintro e w' ⟨rfl, hw'⟩
        obtain rfl := hw'.symm
        go_wp2_with fail
        refine (O2.out _).mono ?_
        rintro e w' ⟨rfl, hw'⟩
        obtain rfl := hw'.symm
        go_wp2_with fail
        refine LI.out.mono ?_
        rintro e w8 ⟨rfl, hb8⟩
        have S8 := hid (S7.out.next hb8)
        clear hb8 LI S7
        go_wp2_with fail
        refine (O3.out _).mono ?_
        rintro e w' ⟨rfl, hw'⟩
        obtain rfl := hw'.symm
        have HBF := hid S8.out.1
        go_wp2_with fail
        go_ret
        exact ⟨rfl, HBF.out⟩
end Go.Proofs.Yteeopmbddeplcaa
