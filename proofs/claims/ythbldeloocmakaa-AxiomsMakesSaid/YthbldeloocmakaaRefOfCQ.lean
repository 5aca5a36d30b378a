/- rotaref.OfCircuits. -/
import Derived.Test.YthbldeloocmakaaRefOf2Q
namespace Go.Proofs.Ythbldeloocmakaa
open Go.RowKit

set_option maxRecDepth 100000 in
set_option maxHeartbeats 4000000 in
theorem OfCircuits_ref (m : Nat) (v : Value) (l : List Nat) (w : World) (hm : m ≤ 8) (hf : Fam m l) (h : Ints w v (N l)) :
    Calls Try.prog 33 #[.int .i64 m, v] w (BoolM w (qOf (CirAx l)) m (bigS (noneL m l))) := by
  have HI := hid h
  have HL := hid (hf.lt256 hm)
  have HF := hid hf
  obtain ⟨a, cap, rfl, hlen, hc⟩ := h.nats
  obtain ⟨q, HQ⟩ : ∃ q, Hid (qOf (CirAx l) = q) := ⟨_, rfl⟩
  rw [HQ.out]
  have A0 := hid (At2.new w (.slice a l.length cap))
  clear h hf
  go_enter Try.func33, Try.ntmps33
  go_wp2_with fail
  generalize (w.alloc _).alloc _ = w1 at *
  go_loopw [6] (fun i wr => ∃ k : Nat, k ≤ l.length ∧ i = .int .i64 k ∧ Hid (∀ i, i < k → l.getD i 0 ≠ 0 ∧ ∀ j, j < l.length → i ≠ j → cP m l (l.getD i 0) (l.getD j 0)) ∧ Hid (At2 w (.slice a l.length cap) wr)) (fun i _ => l.length - (intOf i).toNat)
  case atStart => exact ⟨0, Nat.zero_le _, rfl, fun i h => absurd h (by omega), A0⟩
  case round =>
    obtain ⟨i, hi, rfl, G1, A1⟩ := hrel
    have bx1 := A1.out.box
    by_cases hlt1 : i < l.length
    · obtain ⟨b, off, rfl, hb, hcell⟩ := hc (by omega)
      have hci := hcell i hlt1
      have hxi := getD_lt HL.out i
      have N1 := hid (cP_no1 (_m := m) hlt1)
      have N2 := hid (fun j hj hne => cP_no2 HF.out (i := i) (j := j) hlt1 hj hne)
      obtain ⟨x, HX⟩ : ∃ x, Hid (l.getD i 0 = x) := ⟨_, rfl⟩
      rw [HX.out] at hci hxi N1 N2
      by_cases hx0 : x = 0
      · have Q3 : Hid (q = 3) := HQ.out.symm.trans (qOf_neg (N1.out hx0))
        subst hx0
        have ci := A1.out.cell hb hci
        obtain ⟨y0, y1, g0, g1⟩ := A1.out.cells
        go_wp2_with fail
        obtain ⟨⟨c0, c1⟩, hD⟩ := A1.out.end (.int .i64 0) (.slice none 0 0)
        refine bodyPost_ret (v := .tuple #[.agg #[.int .i64 0, .slice none 0 0], .bool false]) ?_ rfl (BoolM.no Q3.out hD)
        simp [results, Try.f33, go_sem, c0, c1]
      have hx0' : ((x : Int) == 0) = false := by rw [beq_eq_false_iff_ne]; omega
      have HX0 := hid hx0
      clear hx0 N1
      have ci0 := A1.out.cell hb hci
      go_wp2_with fail
      go_loopw [7] (fun j wr => ∃ k : Nat, k ≤ l.length ∧ j = .int .i64 k ∧ Hid (∀ j, j < k → i ≠ j → cP m l x (l.getD j 0)) ∧ Hid (At2 w (.slice (some ⟨b, off, none⟩) l.length cap) wr)) (fun j _ => l.length - (intOf j).toNat)
      case atStart => exact ⟨0, Nat.zero_le _, rfl, fun j h => absurd h (by omega), A1⟩
      case round =>
        rename World => wr2
        obtain ⟨j, hj, rfl, G2, A2⟩ := hrel
        have bx2 := A2.out.box
        by_cases hlt2 : j < l.length
        · by_cases hij : i = j
          · subst hij
            go_wp2_with fail
            go_roundw
            case rel => exact ⟨i + 1, by omega, by go_num, fun j' hj' hne => (Nat.lt_succ_iff_lt_or_eq.1 hj').elim (fun h => G2.out j' h hne) (fun e => absurd e.symm hne), A2⟩
            case measure => simp [intOf]; omega
          have hij' : ((i : Int) == (j : Int)) = false := by rw [beq_eq_false_iff_ne]; omega
          have hyj := getD_lt HL.out j
          have NN := hid (N2.out j hlt2 hij)
          have hcj := hcell j hlt2
          have HIJ := hid hij
          clear hij
          obtain ⟨y, HY⟩ : ∃ y, Hid (l.getD j 0 = y) := ⟨_, rfl⟩
          rw [HY.out] at hyj NN hcj
          have ci : ∀ x9 : Later wr2, x9.now.cell? ⟨b, off + i, none⟩ = some (.int .i64 (x : Nat)) := fun x9 => (A2.out.on x9.kept).cell hb hci
          have cj : ∀ x9 : Later wr2, x9.now.cell? ⟨b, off + j, none⟩ = some (.int .i64 (y : Nat)) := fun x9 => (A2.out.on x9.kept).cell hb hcj
          have bx : ∀ x9 : Later wr2, x9.now.cell? ⟨w.heap.size, 0, none⟩ = some (.slice (some ⟨b, off, none⟩) l.length cap) := fun x9 => (A2.out.on x9.kept).box
          have WI := hid (fun w => Within_any x y w hxi hyj)
          cases hsub : subB x y with
          | true =>
            have Q3 : Hid (q = 3) := HQ.out.symm.trans (qOf_neg (NN.out fun h => by rw [h.1] at hsub; cases hsub))
            rw [hsub] at WI
            clear hsub
            go_wp2_with fail
            refine region_later (by kernel_rfl) (by kernel_rfl) ?_
            repeat (go_big_quiet_step (((go_at_call 44; refine (WI.out _).mono ?_; rintro e w' ⟨rfl, hb9⟩; exact ⟨rfl, Later.on _ (by rw [hb9]; exact Below.refl _ _)⟩))))
            refine wpQuiet_nil ?_
            intro w6 hw'
            obtain ⟨⟨y6, hb6⟩, hw''⟩ := hw'
            dsimp only at hw''
            subst hw''
            have A9 := hid (A2.out.on hb6)
            clear hb6 ci cj bx
            obtain ⟨y0, y1, g0, g1⟩ := A9.out.cells
            go_wp2_with fail
            obtain ⟨⟨c0, c1⟩, hD⟩ := A9.out.end (.int .i64 0) (.slice none 0 0)
            refine bodyPost_ret (v := .tuple #[.agg #[.int .i64 0, .slice none 0 0], .bool false]) ?_ rfl (BoolM.no Q3.out hD)
            simp [results, Try.f33, go_sem, c0, c1]
          | false =>
            have HS := hid hsub
            rw [hsub] at WI
            clear hsub
            go_wp2_with fail
            refine region_later (by kernel_rfl) (by kernel_rfl) ?_
            repeat (go_big_quiet_step (((go_at_call 44; refine (WI.out _).mono ?_; rintro e w' ⟨rfl, hb9⟩; exact ⟨rfl, Later.on _ (by rw [hb9]; exact Below.refl _ _)⟩))))
            refine wpQuiet_nil ?_
            intro w6 hw'
            obtain ⟨⟨y6, hb6⟩, hw''⟩ := hw'
            dsimp only at hw''
            subst hw''
            have A9 := hid (A2.out.on hb6)
            clear hb6 ci cj bx
            clear WI
            go_wp2_with fail
            go_loopw [8] (fun k wr => ∃ z : Nat, z ≤ m ∧ k = .int .i64 z ∧ Hid (∀ k, k < z → (x &&& y).testBit k = true → l.any (fun c => subB c (rm (x ||| y) k)) = true) ∧ Hid (At2 w (.slice (some ⟨b, off, none⟩) l.length cap) wr)) (fun k _ => m - (intOf k).toNat)
            case atStart => exact ⟨0, Nat.zero_le _, rfl, fun k h => absurd h (by omega), A9⟩
            case round =>
              rename World => wr3
              obtain ⟨k, hk, rfl, G3, A3⟩ := hrel
              by_cases hlt3 : k < m
              · have ci : ∀ x9 : Later wr3, x9.now.cell? ⟨b, off + i, none⟩ = some (.int .i64 (x : Nat)) := fun x9 => (A3.out.on x9.kept).cell hb hci
                have cj : ∀ x9 : Later wr3, x9.now.cell? ⟨b, off + j, none⟩ = some (.int .i64 (y : Nat)) := fun x9 => (A3.out.on x9.kept).cell hb hcj
                have bx : ∀ x9 : Later wr3, x9.now.cell? ⟨w.heap.size, 0, none⟩ = some (.slice (some ⟨b, off, none⟩) l.length cap) := fun x9 => (A3.out.on x9.kept).box
                have AN : bits .and .i64 (x : Int) (y : Int) = ((x &&& y : Nat) : Int) := i64_and_nat _ _ (by omega) (by omega)
                have OR : bits .or .i64 (x : Int) (y : Int) = ((x ||| y : Nat) : Int) := i64_or_nat _ _ (by omega) (by omega)
                have ha8 : x &&& y < 256 := Nat.lt_of_le_of_lt Nat.and_le_left hxi
                have ho8 : x ||| y < 256 := Nat.or_lt_two_pow (n := 8) hxi hyj
                have hbk8 : bt k < 256 := bt_lt (by omega)
                have IN := hid (fun w => In_any (x &&& y) k w (by assumption) (by omega))
                have HSK : wrap64 (2 ^ k) = (bt k : Int) := (pow_wrap k (by omega)).1
                cases hbk : (x &&& y).testBit k with
                | false =>
                  have HB := hid hbk
                  rw [hbk] at IN
                  clear hbk
                  generalize x &&& y = xa at *
                  generalize x ||| y = xo at *
                  go_wp2_with fail
                  refine region_later (by kernel_rfl) (by kernel_rfl) ?_
                  repeat (go_big_quiet_step (((go_at_call 60; refine (IN.out _).mono ?_; rintro e w' ⟨rfl, hb9⟩; exact ⟨rfl, Later.on _ (by rw [hb9]; exact Below.refl _ _)⟩))))
                  refine wpQuiet_nil ?_
                  intro w6 hw'
                  obtain ⟨⟨y6, hb6⟩, hw''⟩ := hw'
                  dsimp only at hw''
                  subst hw''
                  have A9 := hid (A3.out.on hb6)
                  clear hb6 ci cj bx
                  go_wp2_with fail
                  go_roundw
                  case rel => exact ⟨k + 1, by omega, by go_num, fun k' hk' hb' => (Nat.lt_succ_iff_lt_or_eq.1 hk').elim (fun h => G3.out k' h hb') (fun e => by subst e; rw [HB.out] at hb'; cases hb'), A9⟩
                  case measure => simp [intOf]; omega
                | true =>
                  have HB := hid hbk
                  rw [hbk] at IN
                  clear hbk
                  obtain ⟨p, HP⟩ : ∃ p : Nat → Bool, Hid ((fun c => subB c (rm (x ||| y) k)) = p) := ⟨_, rfl⟩
                  have RM : bits .andNot .i64 ((x ||| y : Nat) : Int) (bt k : Int) = ((rm (x ||| y) k : Nat) : Int) := i64_andNot_nat (x ||| y) (bt k) (Nat.lt_trans ho8 (by decide)) (Nat.lt_trans hbk8 (by decide))
                  have hr8 : rm (x ||| y) k < 256 := Nat.lt_of_le_of_lt (rm_le _ _) ho8
                  have WP := hid (fun c w (hc : c < 256) => by have := Within_any c (rm (x ||| y) k) w hc hr8; rw [show subB c (rm (x ||| y) k) = p c from congrFun HP.out c] at this; exact this)
                  have NK := hid (fun (h : l.any p = false) => NN.out (fun h9 => by have := h9.2 k hlt3 HB.out; rw [show (fun c => subB c (rm (x ||| y) k)) = p from HP.out] at this; rw [h] at this; cases this))
                  obtain ⟨xa, HXA⟩ : ∃ xa, Hid (x &&& y = xa) := ⟨_, rfl⟩
                  obtain ⟨xo, HXO⟩ : ∃ xo, Hid (x ||| y = xo) := ⟨_, rfl⟩
                  rw [HXA.out] at IN AN ha8
                  rw [HXO.out] at OR ho8 RM hr8 WP
                  obtain ⟨xr, HXR⟩ : ∃ xr, Hid (rm xo k = xr) := ⟨_, rfl⟩
                  rw [HXR.out] at RM hr8 WP
                  go_wp2_with fail
                  refine region_later (by kernel_rfl) (by kernel_rfl) ?_
                  repeat (go_big_quiet_step (((go_at_call 60; refine (IN.out _).mono ?_; rintro e w' ⟨rfl, hb9⟩; exact ⟨rfl, Later.on _ (by rw [hb9]; exact Below.refl _ _)⟩))))
                  refine wpQuiet_nil ?_
                  intro w6 hw'
                  obtain ⟨⟨y6, hb6⟩, hw''⟩ := hw'
                  dsimp only at hw''
                  subst hw''
                  have A9 := hid (A3.out.on hb6)
                  clear hb6 ci cj bx
                  go_wp2_with fail
                  go_loopw [9, 10] (fun u t wr => ∃ z : Nat, z ≤ l.length ∧ t = .int .i64 z ∧ u = .bool ((l.take z).any p) ∧ Hid (At2 w (.slice (some ⟨b, off, none⟩) l.length cap) wr)) (fun _ t _ => l.length - (intOf t).toNat)
                  case atStart => exact ⟨0, Nat.zero_le _, rfl, rfl, A9⟩
                  case round =>
                    rename World => wr4
                    obtain ⟨z, hz4, rfl, rfl, A4⟩ := hrel
                    have bx4 := A4.out.box
                    by_cases hlt4 : z < l.length
                    · have hcz := hcell z hlt4
                      have AS := hid (any_take (p := p) hlt4)
                      have hz8 := getD_lt HL.out z
                      have WZ := hid (fun w => WP.out (l.getD z 0) w hz8)
                      generalize l.getD z 0 = c at *
                      have ci : ∀ x9 : Later wr4, x9.now.cell? ⟨b, off + i, none⟩ = some (.int .i64 (x : Nat)) := fun x9 => (A4.out.on x9.kept).cell hb hci
                      have cj : ∀ x9 : Later wr4, x9.now.cell? ⟨b, off + j, none⟩ = some (.int .i64 (y : Nat)) := fun x9 => (A4.out.on x9.kept).cell hb hcj
                      have cz : ∀ x9 : Later wr4, x9.now.cell? ⟨b, off + z, none⟩ = some (.int .i64 (c : Nat)) := fun x9 => (A4.out.on x9.kept).cell hb hcz
                      have bx : ∀ x9 : Later wr4, x9.now.cell? ⟨w.heap.size, 0, none⟩ = some (.slice (some ⟨b, off, none⟩) l.length cap) := fun x9 => (A4.out.on x9.kept).box
                      cases hau : (l.take z).any p with
                      | true =>
                        rw [hau] at AS
                        clear hau
                        go_wp2_with fail
                        refine region_later (by kernel_rfl) (by kernel_rfl) ?_
                        repeat (go_big_quiet_step (fail))
                        refine wpQuiet_nil ?_
                        intro w6 hw'
                        obtain ⟨⟨y6, hb6⟩, hw''⟩ := hw'
                        dsimp only at hw''
                        subst hw''
                        have A9 := hid (A4.out.on hb6)
                        clear hb6 ci cj cz bx
                        go_wp2_with fail
                        go_roundw
                        case rel => exact ⟨z + 1, by omega, by go_num, by rw [AS.out]; rfl, A9⟩
                        case measure => simp [intOf]; omega
                      | false =>
                        rw [hau] at AS
                        clear hau
                        generalize p c = me at *
                        go_wp2_with fail
                        refine region_later (by kernel_rfl) (by kernel_rfl) ?_
                        repeat (go_big_quiet_step (((go_at_call 44; refine (WZ.out _).mono ?_; rintro e w' ⟨rfl, hb9⟩; exact ⟨rfl, Later.on _ (by rw [hb9]; exact Below.refl _ _)⟩))))
                        refine wpQuiet_nil ?_
                        intro w6 hw'
                        obtain ⟨⟨y6, hb6⟩, hw''⟩ := hw'
                        dsimp only at hw''
                        subst hw''
                        have A9 := hid (A4.out.on hb6)
                        clear hb6 ci cj cz bx
                        go_wp2_with fail
                        go_roundw
                        case rel => exact ⟨z + 1, by omega, by go_num, by rw [AS.out]; simp, A9⟩
                        case measure => simp [intOf]; omega
                    · have hzz : z = l.length := by omega
                      rw [hzz, List.take_length]
                      cases hau : l.any p with
                      | true =>
                        have HA := hid hau
                        clear hau
                        go_wp2_with fail
                        go_roundw
                        case rel => exact ⟨k + 1, by omega, by go_num, fun k' hk' hb' => (Nat.lt_succ_iff_lt_or_eq.1 hk').elim (fun h => G3.out k' h hb') (fun e => by subst e; rw [HP.out]; exact HA.out), A4⟩
                        case measure => simp [intOf]; omega
                      | false =>
                        have Q3 : Hid (q = 3) := HQ.out.symm.trans (qOf_neg (NK.out hau))
                        clear hau
                        obtain ⟨y0, y1, g0, g1⟩ := A4.out.cells
                        go_wp2_with fail
                        obtain ⟨⟨c0, c1⟩, hD⟩ := A4.out.end (.int .i64 0) (.slice none 0 0)
                        refine bodyPost_ret (v := .tuple #[.agg #[.int .i64 0, .slice none 0 0], .bool false]) ?_ rfl (BoolM.no Q3.out hD)
                        simp [results, Try.f33, go_sem, c0, c1]
              · go_wp2_with fail
                go_roundw
                case rel => exact ⟨j + 1, by omega, by go_num, fun j' hj' hne => (Nat.lt_succ_iff_lt_or_eq.1 hj').elim (fun h => G2.out j' h hne) (fun e => by subst e; rw [HY.out]; exact ⟨HS.out, fun k' hk' => G3.out k' (by omega)⟩), A3⟩
                case measure => simp [intOf]; omega
        · go_wp2_with fail
          go_roundw
          case rel => exact ⟨i + 1, by omega, by go_num, fun i' hi' => (Nat.lt_succ_iff_lt_or_eq.1 hi').elim (fun h => G1.out i' h) (fun e => by subst e; rw [HX.out]; exact ⟨HX0.out, fun j' hj' => G2.out j' (by omega)⟩), A2⟩
          case measure => simp [intOf]; omega
    · have Q0 : Hid (q = 0) := HQ.out.symm.trans (qOf_pos (cP_yes HF.out fun i' hi' => G1.out i' (by omega)))
      have TH := hid (Those_any m 79 #[.pointer (some ⟨w.heap.size, 0, none⟩)] (fun s => l.all fun b => !subB b s) wr hm (fun args w => enters_of Try.func79 (by kernel_rfl) rfl args w)
        (fun x hx w3 hb3 hs3 => (OfCirQ x w.heap.size _ l w3 (lt256 hm hx) HL.out ((hb3.cell (p := ⟨w.heap.size, 0, none⟩) (by show w.heap.size < _; have := A1.out.2.2.2; omega)).trans A1.out.box) ((A1.out.ints HI.out).below hb3)).mono fun e w' h => ⟨h.1, h.2 ▸ Below.refl _ _⟩))
      obtain ⟨K, HK⟩ : ∃ K, Hid ((List.range (2 ^ m)).filter (fun s => l.all fun b => !subB b s) = K) := ⟨_, rfl⟩
      have KF : Hid (Fam m K) := by show Fam m K; rw [← HK.out]; exact Fam.range m _
      rw [HK.out] at TH
      have KE : Hid (bigS (noneL m l) = bigS K) := by
        show _ = _
        rw [← HK.out]
        refine congrArg bigS (List.filter_congr fun s _ => ?_)
        rw [Bool.eq_iff_iff]
        simp

      go_wp2_with fail
      refine TH.out.mono ?_
      rintro e w4 ⟨r4, rfl, hr4, hb4⟩
      have A4 := hid (A1.out.on hb4)
      have BG := hid (biggest_any _ K w4 (KF.out.lt256 hm) (Nat.le_trans (fam_len hm KF.out) (by decide)) (hr4.ints (len_of hm KF.out)))
      rw [big_eq] at BG
      obtain ⟨ra, rc, hr⟩ := ownsRow_form' hr4
      subst hr
      clear hb4 hr4
      go_wp2_with fail
      refine BG.out.mono ?_
      rintro e w5 ⟨r5, rfl, hr5, hb5⟩
      obtain ⟨rb, rd, hr⟩ := ownsRow_form' hr5
      subst hr
      have A5 := hid (A4.out.on hb5)
      have HO := hid (hr5.mono A4.out.2.2.2)
      have HE := hid (BoolM.yes2 (n := m) Q0.out (Nat.le_trans (big_len K) (len_of hm KF.out)) HO.out A5.out)
      obtain ⟨y0, y1, g0, g1⟩ := A5.out.cells
      clear hb5 hr5
      generalize (bigS K) = RS at *
      go_wp2_with fail
      obtain ⟨⟨c0, c1⟩, hD⟩ := A5.out.end (.int .i64 m) (.slice rb RS.length rd)
      refine bodyPost_ret (v := .tuple #[.agg #[.int .i64 m, .slice rb RS.length rd], .bool true]) ?_ rfl (by rw [KE.out]; exact HE.out)
      simp [results, Try.f33, go_sem, c0, c1]
end Go.Proofs.Ythbldeloocmakaa
