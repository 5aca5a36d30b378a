/- Contracts of rotalaw.bad, rotaref.IsSet, rotaref.IsFamily, rotalaw.list. -/
import Derived.Test.YthlmnhcnpffjdaaGreatThoseQ
import Derived.Test.YthlmnhcnpffjdaaGreatPlainAll
namespace Go.Proofs.YthlmnhcnpffjdaaGreat
open Go.RowKit

theorem bad_yes (e : Int) (w : World) : Calls Tryz.prog 5 #[.bool true, .int .i64 e] w fun r w' => r = .returned (.int .i64 0) ∧ w' = w := by
  go_enter Tryz.func5, Tryz.ntmps5
  go_wp2
  go_ret
  exact ⟨rfl, rfl⟩
theorem bad_no (e : Int) (w : World) : Calls Tryz.prog 5 #[.bool false, .int .i64 e] w fun r w' => r = .returned (.int .i64 e) ∧ w' = w := by
  go_enter Tryz.func5, Tryz.ntmps5
  go_wp2
  go_ret
  exact ⟨rfl, rfl⟩

/-- Is s a set of n elements? -/
def setB (n s : Int) : Bool := decide (0 ≤ n ∧ n ≤ 8 ∧ 0 ≤ s ∧ s < 2 ^ n.toNat)
def famB (n : Int) (zs : List Int) : Bool := famR n zs == 0
theorem famB_step {n : Nat} {zs : List Int} {T : Int} (hn : n ≤ 8) (hT : T = 2 ^ n) (k : Nat) (R : risesB T (-1) zs = risesB T (lastB zs k) (zs.drop k)) :
    famB n zs = risesB T (lastB zs k) (zs.drop k) := by
  unfold famB
  rw [famR_step hn hT k R]
  cases risesB T (lastB zs k) (zs.drop k) <;> rfl

set_option maxHeartbeats 1600000 in
set_option maxRecDepth 100000 in
theorem IsFamily_good (n : Nat) (v : Value) (zs : List Int) (w : World) (hn : n ≤ 8) (h : Ints w v zs) :
    Calls Tryz.prog 19 #[.int .i64 n, v] w fun e w' => e = .returned (.bool (famB n zs)) ∧ Below w.heap.size w w' := by
  obtain ⟨a, cap, rfl, hl, hc⟩ := h
  obtain ⟨T, HT, HT2⟩ : ∃ T : Nat, Hid (T = 2 ^ n) ∧ Hid ((T : Int) = 2 ^ n) := ⟨2 ^ n, rfl, by show ((2 ^ n : Nat) : Int) = _; simp⟩
  have HA := hid (fun w => All_any n w hn)
  rw [← HT.out] at HA
  have h8 : decide ((8 : Int) < (n : Int)) = false := by simp; omega
  have h8' : decide (8 < n) = false := by simp; omega
  go_enter Tryz.func19, Tryz.ntmps19
  go_wp2_with fail
  go_loopw [5] (fun i wr => ∃ k : Nat, k ≤ zs.length ∧ i = .int .i64 k ∧ Below w.heap.size w wr ∧ Hid (-1 ≤ lastB zs k) ∧ Hid (risesB T (-1) zs = risesB T (lastB zs k) (zs.drop k))) (fun i _ => zs.length - (intOf i).toNat)
  case atStart => exact ⟨0, Nat.zero_le _, rfl, Below.refl _ _, (by decide : (-1 : Int) ≤ -1), rfl⟩
  case round =>
    obtain ⟨k, hk, rfl, hnx, L, R⟩ := hrel
    have F := hid (famB_step hn HT2.out k R.out)
    by_cases hlt : k < zs.length
    · obtain ⟨b, off, rfl, hb, hcell⟩ := hc (by omega)
      have hck : wr.cell? ⟨b, off + k, none⟩ = some (.int .i64 (zs.getD k 0)) := (hnx.cell (p := ⟨b, off + k, none⟩) hb).trans (hcell k hlt)
      have D := hid (drop_getD hlt)
      have S := hid (lastB_succ zs k)
      have hki : (k : Int) < (zs.length : Int) := by omega
      have K2 : Hid (0 < k → wr.cell? ⟨b, off + (k - 1), none⟩ = some (.int .i64 (lastB zs k))) := fun h0 => by
        have := (hnx.cell (p := ⟨b, off + (k - 1), none⟩) hb).trans (hcell (k - 1) (by omega))
        rw [this]
        obtain ⟨j, rfl⟩ : ∃ j, k = j + 1 := ⟨k - 1, by omega⟩
        rfl
      have K0 : Hid (k = 0 → lastB zs k = -1) := fun h0 => by rw [h0]; rfl
      clear hcell hc
      generalize zs.getD k 0 = x at *
      generalize lastB zs k = y at *
      by_cases hneg : x < 0
      · have F2 : Hid (famB n zs = false) := by show famB n zs = false; rw [F.out, D.out]; have := L.out; simp [risesB]; intros; omega
        go_wp2_with fail
        go_quiet (fail)
        go_wp2_with fail
        go_ret
        exact ⟨ret_bool F2.out.symm, below_drewN hnx _⟩
      · have hneg' : decide (x < 0) = false := by simpa using hneg
        by_cases hbig : (T : Int) - 1 < x
        · have F2 : Hid (famB n zs = false) := by show famB n zs = false; rw [F.out, D.out]; simp [risesB]; intros; omega
          go_wp2_with fail
          go_quiet ((go_at_call 22; exact Calls.quiet_of_same (HA.out _)))
          go_wp2_with fail
          go_ret
          exact ⟨ret_bool F2.out.symm, below_drewN hnx _⟩
        · have hbig' : decide ((T : Int) - 1 < x) = false := by simpa using hbig
          by_cases hk0 : k = 0
          · have hy := K0.out hk0
            subst hk0
            have F2 : Hid (risesB T (-1) zs = risesB T x (zs.drop 1)) := by show risesB T (-1) zs = _; rw [R.out, D.out, hy]; simp [risesB]; intros; omega
            clear hy
            have h00 : decide ((0 : Int) < 0) = false := by simp
            have hck0 : wr.cell? ⟨b, off, none⟩ = some (.int .i64 x) := hck
            go_wp2_with fail
            go_quiet ((go_at_call 22; exact Calls.quiet_of_same (HA.out _)))
            go_wp2_with fail
            go_roundw
            case rel => exact ⟨1, by omega, by go_num, below_drewN hnx _, by rw [show lastB zs 1 = x from S.out]; show (-1 : Int) ≤ x; omega, by show risesB T (-1) zs = _; rw [F2.out, show lastB zs 1 = x from S.out]⟩
            case measure => simp [intOf]; omega
          · have hkp : 0 < k := by omega
            have hck2 := K2.out hkp
            obtain ⟨j, rfl⟩ : ∃ j, k = j + 1 := ⟨k - 1, by omega⟩
            simp only [Nat.add_sub_cancel] at hck2
            have hkp' : (0 : Int) < (j : Int) + 1 := by omega
            by_cases hyx : x ≤ y
            · have F2 : Hid (famB n zs = false) := by show famB n zs = false; rw [F.out, D.out]; simp [risesB]; intros; omega
              go_wp2_with fail
              go_quiet ((go_at_call 22; exact Calls.quiet_of_same (HA.out _)))
              go_wp2_with fail
              go_ret
              exact ⟨ret_bool F2.out.symm, below_drewN hnx _⟩
            · have hyx' : decide (x ≤ y) = false := by simpa using hyx
              have F2 : Hid (risesB T (-1) zs = risesB T x (zs.drop (j + 1 + 1))) := by show risesB T (-1) zs = _; rw [R.out, D.out]; simp [risesB]; intros; omega
              go_wp2_with fail
              go_quiet ((go_at_call 22; exact Calls.quiet_of_same (HA.out _)))
              go_wp2_with fail
              go_roundw
              case rel => exact ⟨j + 1 + 1, by omega, by go_num, below_drewN hnx _, by rw [S.out]; show (-1 : Int) ≤ x; omega, by show risesB T (-1) zs = _; rw [F2.out, S.out]⟩
              case measure => simp [intOf]; omega
    · have F2 : Hid (famB n zs = true) := by show famB n zs = true; rw [F.out, List.drop_of_length_le (by omega)]; rfl
      go_wp2_with fail
      go_ret
      exact ⟨ret_bool F2.out.symm, hnx⟩
theorem IsFamily_any (n : Int) (v : Value) (zs : List Int) (w : World) (h : Ints w v zs) :
    Calls Tryz.prog 19 #[.int .i64 n, v] w fun e w' => e = .returned (.bool (famB n zs)) ∧ Below w.heap.size w w' := by
  by_cases hn : 0 ≤ n ∧ n ≤ 8
  · obtain ⟨m, rfl⟩ := Int.eq_ofNat_of_zero_le hn.1
    exact IsFamily_good m v zs w (by omega) h
  · have F : Hid (famB n zs = false) := by show famB n zs = false; unfold famB famR; rw [if_neg (by omega)]; rfl
    obtain ⟨a, cap, rfl, hl, hc⟩ := h
    clear hc
    by_cases h0 : n < 0
    · go_enter Tryz.func19, Tryz.ntmps19
      go_wp2_with fail
      go_ret
      exact ⟨ret_bool F.out.symm, Below.refl _ _⟩
    · have h0' : decide (n < 0) = false := by simpa using h0
      have h8 : 8 < n := by omega
      go_enter Tryz.func19, Tryz.ntmps19
      go_wp2_with fail
      go_ret
      exact ⟨ret_bool F.out.symm, Below.refl _ _⟩

theorem list_bad (w : World) (a : Value) (e : Int) (ha : a = .slice none 0 0) (he : (e != 0) = true) (v : Value) :
    Calls Tryz.prog 17 #[a, .int .i64 e, v, .int .i64 e] w fun r w' => r = .returned (.bool true) ∧ w' = w := by
  subst ha
  have h2 : (e == e) = true := by simp
  go_enter Tryz.func17, Tryz.ntmps17
  go_wp2_with fail
  go_ret
  exact ⟨rfl, rfl⟩
theorem list_good (w : World) (u v : Value) (zs : List Int) (h1 : Ints w u zs) (h2 : Ints w v zs) :
    Calls Tryz.prog 17 #[u, .int .i64 0, v, .int .i64 0] w fun r w' => r = .returned (.bool true) ∧ Below w.heap.size w w' := by
  have HS := hid (Same_any u v zs zs w h1 h2)
  rw [decide_eq_true rfl] at HS
  obtain ⟨a, cap, hv, -⟩ := h1
  obtain ⟨a2, cap2, hv2, -⟩ := h2
  subst hv hv2
  go_enter Tryz.func17, Tryz.ntmps17
  go_wp2_with fail
  refine HS.out.mono ?_
  rintro e w1 ⟨rfl, hb⟩
  go_wp2_with fail
  go_ret
  exact ⟨rfl, hb⟩
end Go.Proofs.YthlmnhcnpffjdaaGreat

namespace Go.Proofs.YthlmnhcnpffjdaaGreat
open Go.RowKit

set_option maxHeartbeats 800000 in
theorem Least1_any (s bx : Nat) (v : Value) (l : List Nat) (w : World) (hs : s < 256) (hl : ∀ s ∈ l, s < 256) (hbx : w.cell? ⟨bx, 0, none⟩ = some v) (h : Ints w v (N l)) :
    Calls Tryz.prog 100 #[.int .i64 s, .pointer (some ⟨bx, 0, none⟩)] w fun e w' => e = .returned (.bool (leastK l s)) ∧ w' = w := by
  obtain ⟨a, cap, hv, hlen, hc⟩ := h.nats
  have HI := hid h
  clear h
  subst hv
  rcases hm : memB s l with _ | _
  · have F : Hid (leastK l s = false) := by show leastK l s = false; unfold leastK; rw [hm]; rfl
    have HM := hid hm
    clear hm
    go_enter Tryz.func100, Tryz.ntmps100
    go_wp2_with fail
    refine (Has_any _ l s _ HI.out).mono ?_
    rw [HM.out]
    rintro e w1 ⟨rfl, rfl⟩
    go_wp2_with fail
    go_ret
    exact ⟨ret_bool F.out.symm, rfl⟩
  · have F : Hid (leastK l s = !l.any (otherIn s)) := by show leastK l s = _; unfold leastK; rw [hm]; rfl
    have HM := hid hm
    clear hm
    go_enter Tryz.func100, Tryz.ntmps100
    go_wp2_with fail
    refine (Has_any _ l s _ HI.out).mono ?_
    rw [HM.out]
    rintro e w1 ⟨rfl, rfl⟩
    go_wp2_with fail
    go_loop [4] (fun i => ∃ k : Nat, k ≤ l.length ∧ i = .int .i64 k ∧ Hid (l.any (otherIn s) = (l.drop k).any (otherIn s))) (fun i => l.length - (intOf i).toNat)
    case atStart => exact ⟨0, Nat.zero_le _, rfl, rfl⟩
    case round =>
      obtain ⟨k, hk, rfl, R⟩ := hrel
      by_cases hlt : k < l.length
      · obtain ⟨b, off, rfl, hb, hcell⟩ := hc (by omega)
        have hck := hcell k hlt
        have D := hid (any_drop (p := otherIn s) hlt)
        have hx := getD_lt hl k
        clear hcell hc
        generalize l.getD k 0 = x at hck D hx
        by_cases h1 : x = s
        · have h1' : ((x : Int) != (s : Int)) = false := by rw [h1]; simp
          have P1 : Hid (otherIn s x = false) := by show otherIn s x = false; simp [otherIn, h1]
          clear h1
          go_wp2_with fail
          go_round
          case rel => exact ⟨k + 1, by omega, by go_num, by show l.any (otherIn s) = _; rw [R.out, D.out, P1.out]; rfl⟩
          case measure => simp [intOf]; omega
        · have h1' : ((x : Int) != (s : Int)) = true := by rw [bne_iff_ne]; omega
          rcases hsub : subB x s with _ | _
          · have P1 : Hid (otherIn s x = false) := by show otherIn s x = false; simp [otherIn, hsub]
            go_wp2_with fail
            refine (Within_any _ _ _ hx hs).mono ?_
            rintro e w2 ⟨rfl, rfl⟩
            go_wp2_with fail
            go_round
            case rel => exact ⟨k + 1, by omega, by go_num, by show l.any (otherIn s) = _; rw [R.out, D.out, P1.out]; rfl⟩
            case measure => simp [intOf]; omega
          · have P1 : Hid (otherIn s x = true) := by show otherIn s x = true; simp [otherIn, hsub, h1]
            go_wp2_with fail
            refine (Within_any _ _ _ hx hs).mono ?_
            rintro e w2 ⟨rfl, rfl⟩
            go_wp2_with fail
            go_ret
            exact ⟨ret_bool (by rw [F.out, R.out, D.out, P1.out]; rfl), rfl⟩
      · go_wp2_with fail
        go_ret
        exact ⟨ret_bool (by rw [F.out, R.out, List.drop_of_length_le (by omega)]; rfl), rfl⟩

theorem Least_ref (n : Nat) (v : Value) (l : List Nat) (w : World) (hn : n ≤ 8) (hl : ∀ s ∈ l, s < 256) (h : Ints w v (N l)) :
    Calls Tryz.prog 86 #[.int .i64 n, v] w fun e w' => ∃ r, e = .returned r ∧ Own w.heap.size w' r ((List.range (2 ^ n)).filter (leastK l)) ∧ Below w.heap.size w w' := by
  have hmf : ∀ (fn : Fn) (first cap : Array Value) (w : World), (Instr.makeFunc fn first cap).run Tryz.prog w = .ok (.func fn first cap) w := fun _ _ _ _ => rfl
  obtain ⟨a, cap, hv, -⟩ := h.nats
  have HI := hid h
  clear h
  subst hv
  go_enter Tryz.func86, Tryz.ntmps86
  go_wp2_with fail
  refine (Those_any n 100 #[.pointer (some ⟨w.heap.size, 0, none⟩)] (leastK l) (w.alloc (.cells #[.slice a l.length cap] 22)) hn Tryz.call100 ?_).mono ?_
  · intro x hx w1 hb1 _
    refine (Least1_any x w.heap.size _ l w1 ?_ hl ((hb1.cell (p := ⟨w.heap.size, 0, none⟩) (by simp)).trans (by rw [World.cell?_alloc_at _ _ _ _ rfl]; rfl)) ((HI.out.below ((Below.refl _ _).alloc (Nat.le_refl _) _)).below hb1)).mono ?_
    · have := (pow_wrap n hn).2; omega
    · rintro e w2 ⟨rfl, rfl⟩; exact ⟨rfl, Below.refl _ _⟩
  · rintro e w2 ⟨r, rfl, ho, hb⟩
    have R1 := hid (ho.mono (B' := w.heap.size) (by simp))
    have R2 := hid (((Below.refl w.heap.size w).alloc (Nat.le_refl _) _).trans (hb.mono (by simp)))
    clear ho hb
    go_wp2_with fail
    go_ret
    exact ⟨_, rfl, R1.out, R2.out⟩

end Go.Proofs.YthlmnhcnpffjdaaGreat
