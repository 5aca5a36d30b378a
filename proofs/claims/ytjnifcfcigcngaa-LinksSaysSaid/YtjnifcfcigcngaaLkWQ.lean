/- links.without, onward, firstWay. -/
import Derived.Test.YtjnifcfcigcngaaLkSW
import Derived.Test.YtjnifcfcigcngaaPlainAll
namespace Go.Proofs.Ytjnifcfcigcngaa
open Go.RowKit

theorem two_pow8 {v : Nat} (h : v < 8) : 2 ^ v < 256 := Nat.pow_lt_pow_right (by decide) h
set_option maxRecDepth 20000 in
set_option maxHeartbeats 1600000 in
theorem lwithout_any (s : Nat) (v : Value) (l : List Nat) (w : World) (hs : s < 256) (hl : ∀ x ∈ l, x < 8) (h : Ints w v (N l)) :
    Calls Try.prog 31 #[.int .i64 s, v] w fun e w' => e = .returned (.int .i64 (setW s l : Nat)) ∧ w' = w := by
  obtain ⟨a, cap, rfl, hlen, hc⟩ := h.nats
  clear h
  have HT : Hid (∀ k, k < l.length → setW s (l.take (k + 1)) = dif (setW s (l.take k)) (2 ^ l.getD k 0)) := fun k hk => by
    rw [List.take_add_one, List.getElem?_eq_getElem hk, List.getD_eq_getElem?_getD, List.getElem?_eq_getElem hk]
    exact setW_snoc _ _ _
  have HL : Hid (∀ k, setW s (l.take k) < 256) := fun k => setW_lt (n := 8) _ _ hs
  have HX : Hid (∀ k, k < l.length → l.getD k 0 < 8) := fun k hk => hl _ (by rw [List.getD_eq_getElem?_getD, List.getElem?_eq_getElem hk]; exact List.getElem_mem _)
  have HE : Hid (setW s (l.take l.length) = setW s l) := by show _ = _; rw [List.take_length]
  have HZ : Hid (setW s (l.take 0) = s) := rfl
  clear hl
  generalize hq : (fun k => setW s (l.take k)) = q
  have HQ : Hid (∀ k, setW s (l.take k) = q k) := fun k => by rw [← hq]
  simp only [Hid.out HQ] at HT HL HE HZ
  clear hq HQ
  generalize setW s l = R at *
  go_enter Try.func31, Try.ntmps31
  go_wp2_with fail
  go_loop [0, 6, 9] (fun u _ i => ∃ k : Nat, k ≤ l.length ∧ i = .int .i64 k ∧ u = .int .i64 (q k : Nat)) (fun _ _ i => l.length - (intOf i).toNat)
  case atStart => exact ⟨0, Nat.zero_le _, rfl, by rw [HZ.out]⟩
  case round =>
    obtain ⟨k, hk, rfl, rfl⟩ := hrel
    by_cases hlt : k < l.length
    · obtain ⟨b, off, rfl, hb, hcell⟩ := hc (by omega)
      have x1 := hcell k hlt
      have hki : (k : Int) < (l.length : Int) := by omega
      have hx := HX.out k hlt
      have T := hid (HT.out k hlt)
      have hq := HL.out k
      have hpw : wrap64 (2 ^ l.getD k 0) = ((2 ^ l.getD k 0 : Nat) : Int) := (pow_wrap _ (by omega)).1
      have hp2 : 2 ^ l.getD k 0 < 256 := two_pow8 hx
      have han : bits .andNot .i64 (q k : Nat) ((2 ^ l.getD k 0 : Nat) : Int) = ((dif (q k) (2 ^ l.getD k 0) : Nat) : Int) := i64_andNot_nat _ _ (by omega) (by omega)
      have hx64 : ((l.getD k 0 : Nat) : Int) < 64 := by omega
      clear hcell hc
      generalize hq1 : q (k + 1) = q1 at *
      have HQ1 := hid hq1
      clear hq1
      generalize dif (q k) (2 ^ l.getD k 0) = y at *
      generalize hE2 : 2 ^ l.getD k 0 = E2 at *
      generalize l.getD k 0 = x at *
      go_wp2_with fail
      go_round
      case rel => exact ⟨k + 1, by omega, by go_num, by rw [HQ1.out, T.out]⟩
      case measure => simp [intOf]; omega
    · obtain rfl : k = l.length := by omega
      go_wp2_with fail
      go_ret
      exact ⟨by rw [← HE.out]; rfl, rfl⟩
/-- What onward answers. -/
def onwI (o : Option Nat) : Int := match o with | some u => u | none => -1
set_option maxRecDepth 20000 in
set_option maxHeartbeats 1600000 in
theorem onward_any (n L S B T : Nat) (f : Nat → Nat) (v : Value) (w : World) (hn : n ≤ 8) (hL : L < 2 ^ n) (hS : S < 2 ^ n) (hB : B < 2 ^ n) (hT : T < 2 ^ n) (hf : ∀ i, i < n → f i < 256) (h : RkAt w v n f) :
    Calls Try.prog 38 #[v, .int .i64 L, .int .i64 S, .int .i64 B, .int .i64 T] w fun e w' => e = .returned (.int .i64 (onwI (onwF f n T L S B))) ∧ w' = w := by
  have LI : Hid (∀ k, k < n → Calls Try.prog 28 #[v, .int .i64 L, .int .i64 ((B ||| 2 ^ k : Nat) : Int), .int .i64 T] w fun e w' => e = .returned (.bool (lkB f n T L (B ||| 2 ^ k))) ∧ w' = w) := fun k hk =>
    linked_any n L (B ||| 2 ^ k) T f v w hn hL (Nat.or_lt_two_pow hB (Nat.pow_lt_pow_right (by decide) hk)) hT hf h
  obtain ⟨b, off, cap, rfl, -, -⟩ := h
  have hS8 := lt256 hn hS
  have hB8 := lt256 hn hB
  have HA := hid (fun v w hv => has_any S v w hS8 hv)
  have HY : Hid (∀ k, k < n → (∀ j, j < k → (S.testBit j && lkB f n T L (B ||| 2 ^ j)) = false) → (S.testBit k && lkB f n T L (B ||| 2 ^ k)) = true → onwI (onwF f n T L S B) = (k : Nat)) := fun k hk h1 h2 => by rw [onw_yes hk h1 h2]; rfl
  have HN : Hid ((∀ j, j < n → (S.testBit j && lkB f n T L (B ||| 2 ^ j)) = false) → onwI (onwF f n T L S B) = -1) := fun h => by rw [onw_no h]; rfl
  generalize onwI (onwF f n T L S B) = R at *
  go_enter Try.func38, Try.ntmps38
  go_wp2_with fail
  go_loop [11, 14] (fun _ i => ∃ k : Nat, k ≤ n ∧ i = .int .i64 k ∧ ∀ j, j < k → (S.testBit j && lkB f n T L (B ||| 2 ^ j)) = false) (fun _ i => n - (intOf i).toNat)
  case atStart => exact ⟨0, Nat.zero_le _, rfl, fun j hj => absurd hj (Nat.not_lt_zero j)⟩
  case round =>
    obtain ⟨k, hk, rfl, hno⟩ := hrel
    have NO := hid hno
    clear hno
    by_cases hlt : k < n
    · have hki : (k : Int) < (n : Int) := by omega
      have H1 := hid (HA.out k w (by omega))
      have L1 := hid (LI.out k hlt)
      have Y := hid (HY.out k hlt NO.out)
      have hpw : wrap64 (2 ^ k) = ((2 ^ k : Nat) : Int) := (pow_wrap _ (by omega)).1
      have hp2 : 2 ^ k < 256 := two_pow8 (by omega)
      have hor : bits .or .i64 (B : Int) ((2 ^ k : Nat) : Int) = ((B ||| 2 ^ k : Nat) : Int) := i64_or_nat _ _ (by omega) (by omega)
      have hk64 : (k : Int) < 64 := by omega
      have NX : Hid ((S.testBit k && lkB f n T L (B ||| 2 ^ k)) = false → ∀ j, j < k + 1 → (S.testBit j && lkB f n T L (B ||| 2 ^ j)) = false) := fun h j hj => by
        rcases Nat.lt_or_ge j k with g | g
        · exact NO.out j g
        · rw [show j = k by omega]; exact h
      rcases hbit : S.testBit k with _ | _
      · rw [hbit] at H1 NX
        have NX2 := hid (NX.out rfl)
        clear hbit
        go_wp2_with fail
        refine H1.out.mono ?_
        rintro e w' ⟨rfl, rfl⟩
        go_wp2_with fail
        go_round
        case rel => exact ⟨k + 1, by omega, by go_num, NX2.out⟩
        case measure => simp [intOf]; omega
      · rw [hbit] at H1 NX Y
        clear hbit
        rcases hlk : lkB f n T L (B ||| 2 ^ k) with _ | _
        · rw [hlk] at L1 NX
          have NX2 := hid (NX.out rfl)
          clear hlk
          generalize B ||| 2 ^ k = y at *
          generalize hE2 : 2 ^ k = E2 at *
          go_wp2_with fail
          refine H1.out.mono ?_
          rintro e w' ⟨rfl, rfl⟩
          go_wp2_with fail
          refine L1.out.mono ?_
          rintro e w' ⟨rfl, rfl⟩
          go_wp2_with fail
          go_round
          case rel => exact ⟨k + 1, by omega, by go_num, NX2.out⟩
          case measure => simp [intOf]; omega
        · rw [hlk] at L1 Y
          have Y2 := hid (Y.out rfl)
          clear hlk
          generalize B ||| 2 ^ k = y at *
          generalize hE2 : 2 ^ k = E2 at *
          go_wp2_with fail
          refine H1.out.mono ?_
          rintro e w' ⟨rfl, rfl⟩
          go_wp2_with fail
          refine L1.out.mono ?_
          rintro e w' ⟨rfl, rfl⟩
          go_wp2_with fail
          go_ret
          exact ⟨by rw [Y2.out]; rfl, rfl⟩
    · obtain rfl : k = n := by omega
      have Y2 := hid (HN.out NO.out)
      go_wp2_with fail
      go_ret
      exact ⟨by rw [Y2.out]; rfl, rfl⟩
end Go.Proofs.Ytjnifcfcigcngaa
