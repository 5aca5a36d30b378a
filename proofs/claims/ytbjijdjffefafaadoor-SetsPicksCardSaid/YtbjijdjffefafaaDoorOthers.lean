/- Contracts of hasOtherWithin, hasOtherAround, canSpareOne. -/
import Derived.Test.YtbjijdjffefafaaDoorInts
namespace Go.Proofs.YtbjijdjffefafaaDoor
open Go.RowKit

set_option maxHeartbeats 400000 in
theorem hasOtherWithin_any (v : Value) (l : List Nat) (s : Nat) (w : World) (hs : s < 256) (hl : ∀ s ∈ l, s < 256) (h : Ints w v (N l)) :
    Calls Tryd.prog 55 #[v, .int .i64 s] w fun e w' => e = .returned (.bool (l.any (otherIn s))) ∧ w' = w := by
  obtain ⟨a, cap, rfl, hlen, hc⟩ := h.nats
  clear h
  go_enter Tryd.func55, Tryd.ntmps55
  go_wp2_with fail
  go_loop [9] (fun i => ∃ k : Nat, k ≤ l.length ∧ i = .int .i64 k ∧ Hid (l.any (otherIn s) = (l.drop k).any (otherIn s))) (fun i => l.length - (intOf i).toNat)
  case atStart => exact ⟨0, Nat.zero_le _, rfl, rfl⟩
  case round =>
    obtain ⟨k, hk, rfl, R⟩ := hrel
    by_cases hlt : k < l.length
    · obtain ⟨b, off, rfl, hb, hcell⟩ := hc (by omega)
      have hck := hcell k hlt
      have D := hid (any_drop (p := otherIn s) hlt)
      have hx := getD_lt hl k
      clear hcell hc
      generalize l.getD k 0 = x at hck D hx
      by_cases h1 : x = s
      · have h1' : ((x : Int) != (s : Int)) = false := by rw [h1]; simp
        have P1 : Hid (otherIn s x = false) := by show otherIn s x = false; simp [otherIn, h1]
        clear h1
        go_wp2_with fail
        go_round
        case rel => exact ⟨k + 1, by omega, by go_num, by show l.any (otherIn s) = _; rw [R.out, D.out, P1.out]; rfl⟩
        case measure => simp [intOf]; omega
      · have h1' : ((x : Int) != (s : Int)) = true := by rw [bne_iff_ne]; omega
        rcases hsub : subB x s with _ | _
        · have P1 : Hid (otherIn s x = false) := by show otherIn s x = false; simp [otherIn, hsub]
          go_wp2_with fail
          refine (within_any _ _ _ hx hs).mono ?_
          rintro e w' ⟨rfl, rfl⟩
          go_wp2_with fail
          go_round
          case rel => exact ⟨k + 1, by omega, by go_num, by show l.any (otherIn s) = _; rw [R.out, D.out, P1.out]; rfl⟩
          case measure => simp [intOf]; omega
        · have P1 : Hid (otherIn s x = true) := by show otherIn s x = true; simp [otherIn, hsub, h1]
          go_wp2_with fail
          refine (within_any _ _ _ hx hs).mono ?_
          rintro e w' ⟨rfl, rfl⟩
          go_wp2_with fail
          go_ret
          exact ⟨ret_bool (by rw [R.out, D.out, P1.out]; rfl), rfl⟩
    · go_wp2_with fail
      go_ret
      exact ⟨ret_bool (by rw [R.out, List.drop_of_length_le (by omega)]; rfl), rfl⟩

set_option maxHeartbeats 400000 in
theorem hasOtherAround_any (v : Value) (l : List Nat) (s : Nat) (w : World) (hs : s < 256) (hl : ∀ s ∈ l, s < 256) (h : Ints w v (N l)) :
    Calls Tryd.prog 56 #[v, .int .i64 s] w fun e w' => e = .returned (.bool (l.any (otherOut s))) ∧ w' = w := by
  obtain ⟨a, cap, rfl, hlen, hc⟩ := h.nats
  clear h
  go_enter Tryd.func56, Tryd.ntmps56
  go_wp2_with fail
  go_loop [9] (fun i => ∃ k : Nat, k ≤ l.length ∧ i = .int .i64 k ∧ Hid (l.any (otherOut s) = (l.drop k).any (otherOut s))) (fun i => l.length - (intOf i).toNat)
  case atStart => exact ⟨0, Nat.zero_le _, rfl, rfl⟩
  case round =>
    obtain ⟨k, hk, rfl, R⟩ := hrel
    by_cases hlt : k < l.length
    · obtain ⟨b, off, rfl, hb, hcell⟩ := hc (by omega)
      have hck := hcell k hlt
      have D := hid (any_drop (p := otherOut s) hlt)
      have hx := getD_lt hl k
      clear hcell hc
      generalize l.getD k 0 = x at hck D hx
      by_cases h1 : x = s
      · have h1' : ((x : Int) != (s : Int)) = false := by rw [h1]; simp
        have P1 : Hid (otherOut s x = false) := by show otherOut s x = false; simp [otherOut, h1]
        clear h1
        go_wp2_with fail
        go_round
        case rel => exact ⟨k + 1, by omega, by go_num, by show l.any (otherOut s) = _; rw [R.out, D.out, P1.out]; rfl⟩
        case measure => simp [intOf]; omega
      · have h1' : ((x : Int) != (s : Int)) = true := by rw [bne_iff_ne]; omega
        rcases hsub : subB s x with _ | _
        · have P1 : Hid (otherOut s x = false) := by show otherOut s x = false; simp [otherOut, hsub]
          go_wp2_with fail
          refine (within_any _ _ _ hs hx).mono ?_
          rintro e w' ⟨rfl, rfl⟩
          go_wp2_with fail
          go_round
          case rel => exact ⟨k + 1, by omega, by go_num, by show l.any (otherOut s) = _; rw [R.out, D.out, P1.out]; rfl⟩
          case measure => simp [intOf]; omega
        · have P1 : Hid (otherOut s x = true) := by show otherOut s x = true; simp [otherOut, hsub, h1]
          go_wp2_with fail
          refine (within_any _ _ _ hs hx).mono ?_
          rintro e w' ⟨rfl, rfl⟩
          go_wp2_with fail
          go_ret
          exact ⟨ret_bool (by rw [R.out, D.out, P1.out]; rfl), rfl⟩
    · go_wp2_with fail
      go_ret
      exact ⟨ret_bool (by rw [R.out, List.drop_of_length_le (by omega)]; rfl), rfl⟩

set_option maxHeartbeats 800000 in
theorem canSpareOne_any (v : Value) (l : List Nat) (s : Nat) (w : World) (hw : Tabbed w) (hs : s < 256) (hl : ∀ s ∈ l, s < 256) (h : Ints w v (N l)) :
    Calls Tryd.prog 58 #[v, .int .i64 s] w fun e w' => e = .returned (.bool (spareB l s)) ∧ w' = w := by
  obtain ⟨a, cap, hv⟩ : ∃ a cap, v = .slice a l.length cap := by
    obtain ⟨a, cap, hv, _⟩ := h.nats
    exact ⟨a, cap, hv⟩
  have HI := hid h
  clear h
  subst hv
  go_enter Tryd.func58, Tryd.ntmps58
  go_wp2_with fail
  go_loop [5] (fun i => ∃ r : Nat, r < 256 ∧ i = .int .i64 r ∧ Hid (spareB l s = (els r).any fun i => l.all (meetB (s ^^^ (s &&& 2 ^ i))))) (fun i => (intOf i).toNat)
  case atStart => exact ⟨s, hs, rfl, rfl⟩
  case round =>
    obtain ⟨r, hr, rfl, R⟩ := hrel
    by_cases hz : r = 0
    · subst hz
      go_wp2_with fail
      go_ret
      exact ⟨ret_bool (by rw [R.out, els_zero]; rfl), rfl⟩
    · have hr0 : 0 < r := by omega
      have hnz : ((r : Int) != 0) = true := by rw [bne_iff_ne]; omega
      have E := hid (els_step r hr hr0)
      have l1 := wl_lt r hr hr0
      have t1 := tz_lt r hr hr0
      obtain ⟨T, hT, hT2, hT3⟩ : ∃ T : Nat, wrap64 (2 ^ tz r) = (T : Int) ∧ Hid (T = 2 ^ tz r) ∧ T ≤ 256 := ⟨2 ^ tz r, (pow_wrap _ (by omega)).1, rfl, (pow_wrap _ (by omega)).2⟩
      have hand : bits .andNot .i64 (s : Int) (T : Int) = ((s ^^^ (s &&& T) : Nat) : Int) := i64_andNot_nat s T (by omega) (by omega)
      have hlt2 : s ^^^ (s &&& T) < 2 ^ 8 := Nat.xor_lt_two_pow (by omega) (Nat.lt_of_le_of_lt Nat.and_le_left (by omega))
      have hm : ∀ b : Bool, l.all (meetB (s ^^^ (s &&& T))) = b → Hid (spareB l s = (b || (els (wl r)).any fun i => l.all (meetB (s ^^^ (s &&& 2 ^ i))))) := by
        intro b hb
        show spareB l s = _
        rw [R.out, E.out, List.any_cons, ← hT2.out, hb]
      have HM := hid hm
      clear hm
      rcases hall : l.all (meetB (s ^^^ (s &&& T))) with _ | _
      · have F := HM.out _ hall
        have HA := hid hall
        clear hall HM
        go_wp2_with fail
        refine (least_any r _ hw hr0 hr).mono ?_
        rintro e w' ⟨rfl, rfl⟩
        go_wp2_with fail
        refine (meetsAll_any _ l _ _ hlt2 hl HI.out).mono ?_
        rw [HA.out]
        rintro e w' ⟨rfl, rfl⟩
        go_wp2_with fail
        refine (without_any r _ hr0 hr).mono ?_
        rintro e w' ⟨rfl, rfl⟩
        go_wp2_with fail
        go_round
        case rel => exact ⟨wl r, by omega, rfl, by simpa using F⟩
        case measure => simp [intOf]; omega
      · have F := HM.out _ hall
        have HA := hid hall
        clear hall HM
        go_wp2_with fail
        refine (least_any r _ hw hr0 hr).mono ?_
        rintro e w' ⟨rfl, rfl⟩
        go_wp2_with fail
        refine (meetsAll_any _ l _ _ hlt2 hl HI.out).mono ?_
        rw [HA.out]
        rintro e w' ⟨rfl, rfl⟩
        go_wp2_with fail
        go_ret
        exact ⟨ret_bool (by rw [F.out]; simp), rfl⟩
end Go.Proofs.YtbjijdjffefafaaDoor
