/- kinds.meetings, canBeGiven, keepsTo, crossesOne. -/
import Derived.Test.YtomajfpincehnaaQuietQ
import Derived.Test.YtomajfpincehnaaPlainAll
import Derived.Deep.QuietTactic
import Derived.BigQuiet
import Derived.Test.YtomajfpincehnaaQBelQ
namespace Go.Proofs.Ytomajfpincehnaa
open Go.RowKit

end Go.Proofs.Ytomajfpincehnaa

namespace Go.Proofs.Ytomajfpincehnaa
open Go.RowKit

theorem keep_drop {l : List Nat} {ms : List Int} {s k : Nat} (hk : k < l.length) : ((List.range l.length).drop k).all (fun i => decide ((pop (s &&& l.getD i 0) : Int) ≤ ms.getD i 0)) = (decide ((pop (s &&& l.getD k 0) : Int) ≤ ms.getD k 0) && ((List.range l.length).drop (k + 1)).all fun i => decide ((pop (s &&& l.getD i 0) : Int) ≤ ms.getD i 0)) := by
  rw [List.drop_eq_getElem_cons (by simpa using hk), List.all_cons, List.getElem_range]

set_option maxHeartbeats 400000 in
theorem keepsTo_any (v u : Value) (l : List Nat) (ms : List Int) (s : Nat) (w : World) (hs : s < 256) (hl : ∀ s ∈ l, s < 256) (hml : ms.length = l.length) (h : Ints w v (N l)) (hu : Ints w u ms) :
    Calls Try.prog 24 #[v, u, .int .i64 s] w fun e w' => e = .returned (.bool (keepH l ms s)) ∧ Below w.heap.size w w' := by
  obtain ⟨a, cap, rfl, hlen, hc⟩ := h.nats
  obtain ⟨a2, cap2, rfl, _, hc2⟩ := hu
  rw [hml] at hc2 ⊢
  clear h
  go_enter Try.func24, Try.ntmps24
  go_wp2_with fail
  go_loopw [11] (fun i wr => ∃ k : Nat, k ≤ l.length ∧ i = .int .i64 k ∧ Below w.heap.size w wr ∧ Hid (keepH l ms s = ((List.range l.length).drop k).all fun i => decide ((pop (s &&& l.getD i 0) : Int) ≤ ms.getD i 0))) (fun i _ => l.length - (intOf i).toNat)
  case atStart => exact ⟨0, Nat.zero_le _, rfl, Below.refl _ _, rfl⟩
  case round =>
    obtain ⟨k, hk, rfl, hnx, R⟩ := hrel
    by_cases hlt : k < l.length
    · obtain ⟨b, off, rfl, hb, hcell⟩ := hc (by omega)
      obtain ⟨b2, off2, rfl, hb2, hcell2⟩ := hc2 (by omega)
      have hck : wr.cell? ⟨b, off + k, none⟩ = some (.int .i64 (l.getD k 0 : Nat)) := (hnx.cell (p := ⟨b, off + k, none⟩) hb).trans (hcell k hlt)
      have hck2 : wr.cell? ⟨b2, off2 + k, none⟩ = some (.int .i64 (ms.getD k 0)) := (hnx.cell (p := ⟨b2, off2 + k, none⟩) hb2).trans (hcell2 k hlt)
      have D := hid (keep_drop (ms := ms) (s := s) hlt)
      have hx := getD_lt hl k
      have hki : (k : Int) < (l.length : Int) := by omega
      clear hcell hc hcell2 hc2
      generalize l.getD k 0 = x at *
      generalize ms.getD k 0 = y at *
      have hand : bits .and .i64 (s : Int) (x : Int) = ((s &&& x : Nat) : Int) := i64_and_nat s x (by omega) (by omega)
      have SZ := hid (fun w' => size_any (s &&& x) w' (and_lt hs))
      generalize s &&& x = z at *
      generalize pop z = c at *
      by_cases h1 : (c : Int) ≤ y
      · have h1' : ¬ (y < (c : Int)) := by omega
        have HX := hid (decide_eq_true h1)
        go_wp2_with fail
        go_quiet ((go_at_call 26; refine (SZ.out _).mono ?_; rintro e w' ⟨rfl, rfl⟩; exact ⟨rfl, _, rfl⟩))
        go_wp2_with fail
        go_roundw
        case rel => exact ⟨k + 1, by omega, by go_num, below_drewN hnx _, by show _ = _; rw [R.out, D.out, HX.out, Bool.true_and]⟩
        case measure => simp [intOf]; omega
      · have h1' : y < (c : Int) := by omega
        have HX := hid (decide_eq_false h1)
        go_wp2_with fail
        go_quiet ((go_at_call 26; refine (SZ.out _).mono ?_; rintro e w' ⟨rfl, rfl⟩; exact ⟨rfl, _, rfl⟩))
        go_wp2_with fail
        go_ret
        exact ⟨ret_bool (by rw [R.out, D.out, HX.out, Bool.false_and]), below_drewN hnx _⟩
    · go_wp2_with fail
      go_ret
      exact ⟨ret_bool (by rw [R.out, List.drop_of_length_le (by simp; omega)]; rfl), hnx⟩
set_option maxHeartbeats 800000 in
theorem crosses_any (v : Value) (l : List Nat) (s : Nat) (w : World) (hs : s < 256) (hl : ∀ s ∈ l, s < 256) (h : Ints w v (N l)) :
    Calls Try.prog 21 #[v, .int .i64 s] w fun e w' => e = .returned (.bool (l.any (crossB s))) ∧ w' = w := by
  obtain ⟨a, cap, rfl, hlen, hc⟩ := h.nats
  clear h
  go_enter Try.func21, Try.ntmps21
  go_wp2_with fail
  go_loop [9] (fun i => ∃ k : Nat, k ≤ l.length ∧ i = .int .i64 k ∧ Hid (l.any (crossB s) = (l.drop k).any (crossB s))) (fun i => l.length - (intOf i).toNat)
  case atStart => exact ⟨0, Nat.zero_le _, rfl, rfl⟩
  case round =>
    obtain ⟨k, hk, rfl, R⟩ := hrel
    by_cases hlt : k < l.length
    · obtain ⟨b, off, rfl, hb, hcell⟩ := hc (by omega)
      have hck := hcell k hlt
      have D := hid (any_drop (p := crossB s) hlt)
      have hx := getD_lt hl k
      clear hcell hc
      generalize l.getD k 0 = x at hck D hx
      have hand : bits .and .i64 (s : Int) (x : Int) = ((s &&& x : Nat) : Int) := i64_and_nat s x (by omega) (by omega)
      have W1 := hid (within_any s x w hs hx)
      have W2 := hid (within_any x s w hx hs)
      have CB : Hid (crossB s x = ((s &&& x != 0) && !subB s x && !subB x s)) := rfl
      rcases q1 : (s &&& x != 0) with _ | _
      · have h1' : (((s &&& x : Nat) : Int) != 0) = false := by simp at q1; rw [q1]; rfl
        rw [q1] at CB
        go_wp2_with fail
        go_round
        case rel => exact ⟨k + 1, by omega, by go_num, by show _ = _; rw [R.out, D.out, CB.out]; simp⟩
        case measure => simp [intOf]; omega
      · have h1' : (((s &&& x : Nat) : Int) != 0) = true := by rw [bne_iff_ne] at q1 ⊢; omega
        rw [q1] at CB
        rcases q2 : subB s x with _ | _
        · rw [q2] at W1 CB
          rcases q3 : subB x s with _ | _
          · rw [q3] at W2 CB
            go_wp2_with fail
            refine W1.out.mono ?_
            rintro e w' ⟨rfl, hw'⟩
            subst hw'
            go_wp2_with fail
            refine W2.out.mono ?_
            rintro e w' ⟨rfl, hw'⟩
            subst hw'
            go_wp2_with fail
            go_ret
            exact ⟨ret_bool (by rw [R.out, D.out, CB.out]; simp), rfl⟩
          · rw [q3] at W2 CB
            go_wp2_with fail
            refine W1.out.mono ?_
            rintro e w' ⟨rfl, hw'⟩
            subst hw'
            go_wp2_with fail
            refine W2.out.mono ?_
            rintro e w' ⟨rfl, hw'⟩
            subst hw'
            go_wp2_with fail
            go_round
            case rel => exact ⟨k + 1, by omega, by go_num, by show _ = _; rw [R.out, D.out, CB.out]; simp⟩
            case measure => simp [intOf]; omega
        · rw [q2] at W1 CB
          go_wp2_with fail
          refine W1.out.mono ?_
          rintro e w' ⟨rfl, hw'⟩
          subst hw'
          go_wp2_with fail
          go_round
          case rel => exact ⟨k + 1, by omega, by go_num, by show _ = _; rw [R.out, D.out, CB.out]; simp⟩
          case measure => simp [intOf]; omega
    · go_wp2_with fail
      go_ret
      exact ⟨ret_bool (by rw [R.out, List.drop_of_length_le (by omega)]; rfl), rfl⟩
theorem LamQ_ok (s b b2 : Nat) (v u : Value) (l : List Nat) (ms : List Int) (w : World) (hs : s < 256) (hl : ∀ s ∈ l, s < 256) (hml : ms.length = l.length) (hb : w.cell? ⟨b, 0, none⟩ = some v) (hb2 : w.cell? ⟨b2, 0, none⟩ = some u) (h : Ints w v (N l)) (hu : Ints w u ms) :
    Calls Try.prog 23 #[.int .i64 s, .pointer (some ⟨b, 0, none⟩), .pointer (some ⟨b2, 0, none⟩)] w fun e w' => e = .returned (.bool (keepH l ms s)) ∧ Below w.heap.size w w' := by
  have CG := hid (keepsTo_any v u l ms s w hs hl hml h hu)
  obtain ⟨a, cap, rfl, _, _⟩ := h.nats
  obtain ⟨a2, cap2, rfl, _, _⟩ := hu
  rw [hml] at hb2 CG
  clear h
  go_enter Try.func23, Try.ntmps23
  go_wp2_with fail
  refine CG.out.mono ?_
  rintro e w' ⟨rfl, hb3⟩
  have HB := hid hb3
  clear hb3
  go_wp2_with fail
  go_ret
  exact ⟨rfl, HB.out⟩
end Go.Proofs.Ytomajfpincehnaa
