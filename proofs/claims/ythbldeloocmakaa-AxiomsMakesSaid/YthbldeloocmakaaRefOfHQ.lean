/- rotaref.OfHyperplanes. -/
import Derived.Test.YthbldeloocmakaaRefOf2Q
namespace Go.Proofs.Ythbldeloocmakaa
open Go.RowKit

set_option maxRecDepth 100000 in
set_option maxHeartbeats 4000000 in
theorem OfHyperplanes_ref (m : Nat) (v : Value) (l : List Nat) (w : World) (hm : m ≤ 8) (hf : Fam m l) (h : Ints w v (N l)) :
    Calls Try.prog 35 #[.int .i64 m, v] w (BoolM w (qOf (HypAx m l)) m (blk m (cmp m l))) := by
  have HI := hid h
  have HL := hid (hf.lt256 hm)
  have HF := hid hf
  obtain ⟨a, cap, rfl, hlen, hc⟩ := h.nats
  obtain ⟨q, HQ⟩ : ∃ q, Hid (qOf (HypAx m l) = q) := ⟨_, rfl⟩
  rw [HQ.out]
  have A0 := hid (At2.new w (.slice a l.length cap))
  clear h hf
  obtain ⟨T, HT, hT2, hT0⟩ : ∃ T : Nat, Hid (T = 2 ^ m) ∧ T ≤ 256 ∧ 1 ≤ T := ⟨2 ^ m, rfl, (pow_wrap _ hm).2, Nat.one_le_two_pow⟩
  have AL := hid (fun w => All_nat m w hm)
  rw [← HT.out] at AL
  go_enter Try.func35, Try.ntmps35
  go_wp2_with fail
  generalize (w.alloc _).alloc _ = w1 at *
  go_loopw [6] (fun i wr => ∃ k : Nat, k ≤ l.length ∧ i = .int .i64 k ∧ Hid (∀ i, i < k → l.getD i 0 ≠ T - 1 ∧ ∀ j, j < l.length → i ≠ j → hP m l (l.getD i 0) (l.getD j 0)) ∧ Hid (At2 w (.slice a l.length cap) wr)) (fun i _ => l.length - (intOf i).toNat)
  case atStart => exact ⟨0, Nat.zero_le _, rfl, fun i h => absurd h (by omega), A0⟩
  case round =>
    obtain ⟨i, hi, rfl, G1, A1⟩ := hrel
    have bx1 := A1.out.box
    by_cases hlt1 : i < l.length
    · obtain ⟨b, off, rfl, hb, hcell⟩ := hc (by omega)
      have hci := hcell i hlt1
      have hxi := getD_lt HL.out i
      have N1 := hid (hP_no1 (m := m) hlt1)
      have N2 := hid (fun j hj hne => hP_no2 HF.out (i := i) (j := j) hlt1 hj hne)
      obtain ⟨x, HX⟩ : ∃ x, Hid (l.getD i 0 = x) := ⟨_, rfl⟩
      rw [HX.out] at hci hxi N1 N2
      have ci : ∀ x9 : Later wr, x9.now.cell? ⟨b, off + i, none⟩ = some (.int .i64 (x : Nat)) := fun x9 => (A1.out.on x9.kept).cell hb hci
      have bx : ∀ x9 : Later wr, x9.now.cell? ⟨w.heap.size, 0, none⟩ = some (.slice (some ⟨b, off, none⟩) l.length cap) := fun x9 => (A1.out.on x9.kept).box
      by_cases hx0 : x = T - 1
      · have Q3 : Hid (q = 3) := HQ.out.symm.trans (qOf_neg (N1.out (by rw [← HT.out]; exact hx0)))
        have hx0' : ((x : Int) == ((T - 1 : Nat) : Int)) = true := by rw [hx0]; simp
        clear hx0
        go_wp2_with fail
        refine region_later (by kernel_rfl) (by kernel_rfl) ?_
        repeat (go_big_quiet_step (((go_at_call 42; refine (AL.out _).mono ?_; rintro e w' ⟨rfl, hb9⟩; exact ⟨rfl, Later.on _ (by rw [hb9]; exact Below.refl _ _)⟩))))
        refine wpQuiet_nil ?_
        intro w6 hw'
        obtain ⟨⟨y6, hb6⟩, hw''⟩ := hw'
        dsimp only at hw''
        subst hw''
        have A9 := hid (A1.out.on hb6)
        clear hb6 ci bx
        obtain ⟨y0, y1, g0, g1⟩ := A9.out.cells
        go_wp2_with fail
        obtain ⟨⟨c0, c1⟩, hD⟩ := A9.out.end (.int .i64 0) (.slice none 0 0)
        refine bodyPost_ret (v := .tuple #[.agg #[.int .i64 0, .slice none 0 0], .bool false]) ?_ rfl (BoolM.no Q3.out hD)
        simp [results, Try.f35, go_sem, c0, c1]
      have hx0' : ((x : Int) == ((T - 1 : Nat) : Int)) = false := by rw [beq_eq_false_iff_ne]; omega
      have HX0 := hid hx0
      clear hx0 N1
      go_wp2_with fail
      refine region_later (by kernel_rfl) (by kernel_rfl) ?_
      repeat (go_big_quiet_step (((go_at_call 42; refine (AL.out _).mono ?_; rintro e w' ⟨rfl, hb9⟩; exact ⟨rfl, Later.on _ (by rw [hb9]; exact Below.refl _ _)⟩))))
      refine wpQuiet_nil ?_
      intro w6 hw'
      obtain ⟨⟨y6, hb6⟩, hw''⟩ := hw'
      dsimp only at hw''
      subst hw''
      have A9 := hid (A1.out.on hb6)
      clear hb6 ci bx
      go_wp2_with fail
      go_loopw [7] (fun j wr => ∃ k : Nat, k ≤ l.length ∧ j = .int .i64 k ∧ Hid (∀ j, j < k → i ≠ j → hP m l x (l.getD j 0)) ∧ Hid (At2 w (.slice (some ⟨b, off, none⟩) l.length cap) wr)) (fun j _ => l.length - (intOf j).toNat)
      case atStart => exact ⟨0, Nat.zero_le _, rfl, fun j h => absurd h (by omega), A9⟩
      case round =>
        rename World => wr2
        obtain ⟨j, hj, rfl, G2, A2⟩ := hrel
        have bx2 := A2.out.box
        by_cases hlt2 : j < l.length
        · by_cases hij : i = j
          · subst hij
            go_wp2_with fail
            go_roundw
            case rel => exact ⟨i + 1, by omega, by go_num, fun j' hj' hne => (Nat.lt_succ_iff_lt_or_eq.1 hj').elim (fun h => G2.out j' h hne) (fun e => absurd e.symm hne), A2⟩
            case measure => simp [intOf]; omega
          have hij' : ((i : Int) == (j : Int)) = false := by rw [beq_eq_false_iff_ne]; omega
          have hyj := getD_lt HL.out j
          have NN := hid (N2.out j hlt2 hij)
          have hcj := hcell j hlt2
          have HIJ := hid hij
          clear hij
          obtain ⟨y, HY⟩ : ∃ y, Hid (l.getD j 0 = y) := ⟨_, rfl⟩
          rw [HY.out] at hyj NN hcj
          have ci : ∀ x9 : Later wr2, x9.now.cell? ⟨b, off + i, none⟩ = some (.int .i64 (x : Nat)) := fun x9 => (A2.out.on x9.kept).cell hb hci
          have cj : ∀ x9 : Later wr2, x9.now.cell? ⟨b, off + j, none⟩ = some (.int .i64 (y : Nat)) := fun x9 => (A2.out.on x9.kept).cell hb hcj
          have bx : ∀ x9 : Later wr2, x9.now.cell? ⟨w.heap.size, 0, none⟩ = some (.slice (some ⟨b, off, none⟩) l.length cap) := fun x9 => (A2.out.on x9.kept).box
          have WI := hid (fun w => Within_any x y w hxi hyj)
          cases hsub : subB x y with
          | true =>
            have Q3 : Hid (q = 3) := HQ.out.symm.trans (qOf_neg (NN.out fun h => by rw [h.1] at hsub; cases hsub))
            rw [hsub] at WI
            clear hsub
            go_wp2_with fail
            refine region_later (by kernel_rfl) (by kernel_rfl) ?_
            repeat (go_big_quiet_step (((go_at_call 44; refine (WI.out _).mono ?_; rintro e w' ⟨rfl, hb9⟩; exact ⟨rfl, Later.on _ (by rw [hb9]; exact Below.refl _ _)⟩))))
            refine wpQuiet_nil ?_
            intro w6 hw'
            obtain ⟨⟨y6, hb6⟩, hw''⟩ := hw'
            dsimp only at hw''
            subst hw''
            have A9 := hid (A2.out.on hb6)
            clear hb6 ci cj bx
            obtain ⟨y0, y1, g0, g1⟩ := A9.out.cells
            go_wp2_with fail
            obtain ⟨⟨c0, c1⟩, hD⟩ := A9.out.end (.int .i64 0) (.slice none 0 0)
            refine bodyPost_ret (v := .tuple #[.agg #[.int .i64 0, .slice none 0 0], .bool false]) ?_ rfl (BoolM.no Q3.out hD)
            simp [results, Try.f35, go_sem, c0, c1]
          | false =>
            have HS := hid hsub
            rw [hsub] at WI
            clear hsub
            go_wp2_with fail
            refine region_later (by kernel_rfl) (by kernel_rfl) ?_
            repeat (go_big_quiet_step (((go_at_call 44; refine (WI.out _).mono ?_; rintro e w' ⟨rfl, hb9⟩; exact ⟨rfl, Later.on _ (by rw [hb9]; exact Below.refl _ _)⟩))))
            refine wpQuiet_nil ?_
            intro w6 hw'
            obtain ⟨⟨y6, hb6⟩, hw''⟩ := hw'
            dsimp only at hw''
            subst hw''
            have A9 := hid (A2.out.on hb6)
            clear hb6 ci cj bx
            clear WI
            go_wp2_with fail
            go_loopw [8] (fun k wr => ∃ z : Nat, z ≤ m ∧ k = .int .i64 z ∧ Hid (∀ k, k < z → (x ||| y).testBit k = false → l.any (fun c => subB (x &&& y ||| bt k) c) = true) ∧ Hid (At2 w (.slice (some ⟨b, off, none⟩) l.length cap) wr)) (fun k _ => m - (intOf k).toNat)
            case atStart => exact ⟨0, Nat.zero_le _, rfl, fun k h => absurd h (by omega), A9⟩
            case round =>
              rename World => wr3
              obtain ⟨k, hk, rfl, G3, A3⟩ := hrel
              by_cases hlt3 : k < m
              · have ci : ∀ x9 : Later wr3, x9.now.cell? ⟨b, off + i, none⟩ = some (.int .i64 (x : Nat)) := fun x9 => (A3.out.on x9.kept).cell hb hci
                have cj : ∀ x9 : Later wr3, x9.now.cell? ⟨b, off + j, none⟩ = some (.int .i64 (y : Nat)) := fun x9 => (A3.out.on x9.kept).cell hb hcj
                have bx : ∀ x9 : Later wr3, x9.now.cell? ⟨w.heap.size, 0, none⟩ = some (.slice (some ⟨b, off, none⟩) l.length cap) := fun x9 => (A3.out.on x9.kept).box
                have AN : bits .and .i64 (x : Int) (y : Int) = ((x &&& y : Nat) : Int) := i64_and_nat _ _ (by omega) (by omega)
                have OR : bits .or .i64 (x : Int) (y : Int) = ((x ||| y : Nat) : Int) := i64_or_nat _ _ (by omega) (by omega)
                have ha8 : x &&& y < 256 := Nat.lt_of_le_of_lt Nat.and_le_left hxi
                have ho8 : x ||| y < 256 := Nat.or_lt_two_pow (n := 8) hxi hyj
                have hbk8 : bt k < 256 := bt_lt (by omega)
                have IN := hid (fun w => In_any (x ||| y) k w (by assumption) (by omega))
                have HSK : wrap64 (2 ^ k) = (bt k : Int) := (pow_wrap k (by omega)).1
                cases hbk : (x ||| y).testBit k with
                | true =>
                  have HB := hid hbk
                  rw [hbk] at IN
                  clear hbk
                  generalize x &&& y = xa at *
                  generalize x ||| y = xo at *
                  go_wp2_with fail
                  refine region_later (by kernel_rfl) (by kernel_rfl) ?_
                  repeat (go_big_quiet_step (((go_at_call 60; refine (IN.out _).mono ?_; rintro e w' ⟨rfl, hb9⟩; exact ⟨rfl, Later.on _ (by rw [hb9]; exact Below.refl _ _)⟩))))
                  refine wpQuiet_nil ?_
                  intro w6 hw'
                  obtain ⟨⟨y6, hb6⟩, hw''⟩ := hw'
                  dsimp only at hw''
                  subst hw''
                  have A9 := hid (A3.out.on hb6)
                  clear hb6 ci cj bx
                  go_wp2_with fail
                  go_roundw
                  case rel => exact ⟨k + 1, by omega, by go_num, fun k' hk' hb' => (Nat.lt_succ_iff_lt_or_eq.1 hk').elim (fun h => G3.out k' h hb') (fun e => by subst e; rw [HB.out] at hb'; cases hb'), A9⟩
                  case measure => simp [intOf]; omega
                | false =>
                  have HB := hid hbk
                  rw [hbk] at IN
                  clear hbk
                  obtain ⟨p, HP⟩ : ∃ p : Nat → Bool, Hid ((fun c => subB (x &&& y ||| bt k) c) = p) := ⟨_, rfl⟩
                  have RM : bits .or .i64 ((x &&& y : Nat) : Int) (bt k : Int) = ((x &&& y ||| bt k : Nat) : Int) := i64_or_nat (x &&& y) (bt k) (Nat.lt_trans ha8 (by decide)) (Nat.lt_trans hbk8 (by decide))
                  have hr8 : x &&& y ||| bt k < 256 := Nat.or_lt_two_pow (n := 8) ha8 hbk8
                  have WP := hid (fun c w (hc : c < 256) => by have := Within_any (x &&& y ||| bt k) c w hr8 hc; rw [show subB (x &&& y ||| bt k) c = p c from congrFun HP.out c] at this; exact this)
                  have NK := hid (fun (h : l.any p = false) => NN.out (fun h9 => by have := h9.2 k hlt3 HB.out; rw [show (fun c => subB (x &&& y ||| bt k) c) = p from HP.out] at this; rw [h] at this; cases this))
                  obtain ⟨xo, HXO⟩ : ∃ xo, Hid (x ||| y = xo) := ⟨_, rfl⟩
                  obtain ⟨xr, HXR⟩ : ∃ xr, Hid (x &&& y ||| bt k = xr) := ⟨_, rfl⟩
                  rw [HXR.out] at RM hr8 WP
                  obtain ⟨xa, HXA⟩ : ∃ xa, Hid (x &&& y = xa) := ⟨_, rfl⟩
                  rw [HXA.out] at AN ha8 RM
                  rw [HXO.out] at OR ho8 IN
                  go_wp2_with fail
                  refine region_later (by kernel_rfl) (by kernel_rfl) ?_
                  repeat (go_big_quiet_step (((go_at_call 60; refine (IN.out _).mono ?_; rintro e w' ⟨rfl, hb9⟩; exact ⟨rfl, Later.on _ (by rw [hb9]; exact Below.refl _ _)⟩))))
                  refine wpQuiet_nil ?_
                  intro w6 hw'
                  obtain ⟨⟨y6, hb6⟩, hw''⟩ := hw'
                  dsimp only at hw''
                  subst hw''
                  have A9 := hid (A3.out.on hb6)
                  clear hb6 ci cj bx
                  go_wp2_with fail
                  go_loopw [9, 10] (fun u t wr => ∃ z : Nat, z ≤ l.length ∧ t = .int .i64 z ∧ u = .bool ((l.take z).any p) ∧ Hid (At2 w (.slice (some ⟨b, off, none⟩) l.length cap) wr)) (fun _ t _ => l.length - (intOf t).toNat)
                  case atStart => exact ⟨0, Nat.zero_le _, rfl, rfl, A9⟩
                  case round =>
                    rename World => wr4
                    obtain ⟨z, hz4, rfl, rfl, A4⟩ := hrel
                    have bx4 := A4.out.box
                    by_cases hlt4 : z < l.length
                    · have hcz := hcell z hlt4
                      have AS := hid (any_take (p := p) hlt4)
                      have hz8 := getD_lt HL.out z
                      have WZ := hid (fun w => WP.out (l.getD z 0) w hz8)
                      generalize l.getD z 0 = c at *
                      have ci : ∀ x9 : Later wr4, x9.now.cell? ⟨b, off + i, none⟩ = some (.int .i64 (x : Nat)) := fun x9 => (A4.out.on x9.kept).cell hb hci
                      have cj : ∀ x9 : Later wr4, x9.now.cell? ⟨b, off + j, none⟩ = some (.int .i64 (y : Nat)) := fun x9 => (A4.out.on x9.kept).cell hb hcj
                      have cz : ∀ x9 : Later wr4, x9.now.cell? ⟨b, off + z, none⟩ = some (.int .i64 (c : Nat)) := fun x9 => (A4.out.on x9.kept).cell hb hcz
                      have bx : ∀ x9 : Later wr4, x9.now.cell? ⟨w.heap.size, 0, none⟩ = some (.slice (some ⟨b, off, none⟩) l.length cap) := fun x9 => (A4.out.on x9.kept).box
                      cases hau : (l.take z).any p with
                      | true =>
                        rw [hau] at AS
                        clear hau
                        go_wp2_with fail
                        refine region_later (by kernel_rfl) (by kernel_rfl) ?_
                        repeat (go_big_quiet_step (fail))
                        refine wpQuiet_nil ?_
                        intro w6 hw'
                        obtain ⟨⟨y6, hb6⟩, hw''⟩ := hw'
                        dsimp only at hw''
                        subst hw''
                        have A9 := hid (A4.out.on hb6)
                        clear hb6 ci cj cz bx
                        go_wp2_with fail
                        go_roundw
                        case rel => exact ⟨z + 1, by omega, by go_num, by rw [AS.out]; rfl, A9⟩
                        case measure => simp [intOf]; omega
                      | false =>
                        rw [hau] at AS
                        clear hau
                        generalize p c = me at *
                        go_wp2_with fail
                        refine region_later (by kernel_rfl) (by kernel_rfl) ?_
                        repeat (go_big_quiet_step (((go_at_call 44; refine (WZ.out _).mono ?_; rintro e w' ⟨rfl, hb9⟩; exact ⟨rfl, Later.on _ (by rw [hb9]; exact Below.refl _ _)⟩))))
                        refine wpQuiet_nil ?_
                        intro w6 hw'
                        obtain ⟨⟨y6, hb6⟩, hw''⟩ := hw'
                        dsimp only at hw''
                        subst hw''
                        have A9 := hid (A4.out.on hb6)
                        clear hb6 ci cj cz bx
                        go_wp2_with fail
                        go_roundw
                        case rel => exact ⟨z + 1, by omega, by go_num, by rw [AS.out]; simp, A9⟩
                        case measure => simp [intOf]; omega
                    · have hzz : z = l.length := by omega
                      rw [hzz, List.take_length]
                      cases hau : l.any p with
                      | true =>
                        have HA := hid hau
                        clear hau
                        go_wp2_with fail
                        go_roundw
                        case rel => exact ⟨k + 1, by omega, by go_num, fun k' hk' hb' => (Nat.lt_succ_iff_lt_or_eq.1 hk').elim (fun h => G3.out k' h hb') (fun e => by subst e; rw [HP.out]; exact HA.out), A4⟩
                        case measure => simp [intOf]; omega
                      | false =>
                        have Q3 : Hid (q = 3) := HQ.out.symm.trans (qOf_neg (NK.out hau))
                        clear hau
                        obtain ⟨y0, y1, g0, g1⟩ := A4.out.cells
                        go_wp2_with fail
                        obtain ⟨⟨c0, c1⟩, hD⟩ := A4.out.end (.int .i64 0) (.slice none 0 0)
                        refine bodyPost_ret (v := .tuple #[.agg #[.int .i64 0, .slice none 0 0], .bool false]) ?_ rfl (BoolM.no Q3.out hD)
                        simp [results, Try.f35, go_sem, c0, c1]
              · go_wp2_with fail
                go_roundw
                case rel => exact ⟨j + 1, by omega, by go_num, fun j' hj' hne => (Nat.lt_succ_iff_lt_or_eq.1 hj').elim (fun h => G2.out j' h hne) (fun e => by subst e; rw [HY.out]; exact ⟨HS.out, fun k' hk' => G3.out k' (by omega)⟩), A3⟩
                case measure => simp [intOf]; omega
        · go_wp2_with fail
          go_roundw
          case rel => exact ⟨i + 1, by omega, by go_num, fun i' hi' => (Nat.lt_succ_iff_lt_or_eq.1 hi').elim (fun h => G1.out i' h) (fun e => by subst e; rw [HX.out]; exact ⟨HX0.out, fun j' hj' => G2.out j' (by omega)⟩), A2⟩
          case measure => simp [intOf]; omega
    · have Q0 : Hid (q = 0) := HQ.out.symm.trans (qOf_pos (hP_yes HF.out fun i' hi' => by have := G1.out i' (by omega); rw [HT.out] at this; exact this))
      have TH := hid (Those_any m 80 #[.pointer (some ⟨w.heap.size, 0, none⟩)] (fun s => l.all fun b => !subB s b) wr hm (fun args w => enters_of Try.func80 (by kernel_rfl) rfl args w)
        (fun x hx w3 hb3 hs3 => (OfHypQ x w.heap.size _ l w3 (lt256 hm hx) HL.out ((hb3.cell (p := ⟨w.heap.size, 0, none⟩) (by show w.heap.size < _; have := A1.out.2.2.2; omega)).trans A1.out.box) ((A1.out.ints HI.out).below hb3)).mono fun e w' h => ⟨h.1, h.2 ▸ Below.refl _ _⟩))
      obtain ⟨K, HK⟩ : ∃ K, Hid ((List.range (2 ^ m)).filter (fun s => l.all fun b => !subB s b) = K) := ⟨_, rfl⟩
      have KF : Hid (Fam m K) := by show Fam m K; rw [← HK.out]; exact Fam.range m _
      rw [HK.out] at TH
      have KE : Hid (blk m (cmp m l) = (List.range (2 ^ m)).filter (leastK K)) := by
        show _ = _
        rw [← HK.out]
        exact (hyp_doc hm HF.out).symm

      go_wp2_with fail
      refine TH.out.mono ?_
      rintro e w4 ⟨r4, rfl, hr4, hb4⟩
      have A4 := hid (A1.out.on hb4)
      have BG := hid (Least_ref m _ K w4 hm (KF.out.lt256 hm) (hr4.ints (len_of hm KF.out)))
      obtain ⟨ra, rc, hr⟩ := ownsRow_form' hr4
      subst hr
      clear hb4 hr4
      go_wp2_with fail
      refine BG.out.mono ?_
      rintro e w5 ⟨r5, rfl, hr5, hb5⟩
      obtain ⟨rb, rd, hr⟩ := ownsRow_form' hr5
      subst hr
      have A5 := hid (A4.out.on hb5)
      have HO := hid (hr5.mono A4.out.2.2.2)
      have HE := hid (BoolM.yes2 (n := m) Q0.out (len_of hm (Fam.range m (leastK K))) HO.out A5.out)
      obtain ⟨y0, y1, g0, g1⟩ := A5.out.cells
      clear hb5 hr5
      generalize ((List.range (2 ^ m)).filter (leastK K)) = RS at *
      go_wp2_with fail
      obtain ⟨⟨c0, c1⟩, hD⟩ := A5.out.end (.int .i64 m) (.slice rb RS.length rd)
      refine bodyPost_ret (v := .tuple #[.agg #[.int .i64 m, .slice rb RS.length rd], .bool true]) ?_ rfl (by rw [KE.out]; exact HE.out)
      simp [results, Try.f35, go_sem, c0, c1]
end Go.Proofs.Ythbldeloocmakaa
