/- What rotaref.OfCircuits, OfHyperplanes and OfRanks ask of a set. -/
import Derived.Test.YthbldeloocmakaaRefBgQ
import Derived.Test.YthbldeloocmakaaQBelW
import Derived.Test.YthbldeloocmakaaQuietQ
namespace Go.Proofs.Ythbldeloocmakaa
open Go.RowKit

theorem OfCirQ (s bx : Nat) (v : Value) (l : List Nat) (w : World) (hs : s < 256) (hl : ∀ s ∈ l, s < 256) (hbx : w.cell? ⟨bx, 0, none⟩ = some v) (h : Ints w v (N l)) :
    Calls Try.prog 79 #[.int .i64 s, .pointer (some ⟨bx, 0, none⟩)] w fun e w' => e = .returned (.bool (l.all fun b => !subB b s)) ∧ w' = w := by
  obtain ⟨a, cap, rfl, hlen, hc⟩ := h.nats
  clear h
  generalize hp : (fun b => !subB b s) = p
  have HP := hid (fun b => congrFun hp b)
  clear hp
  go_enter Try.func79, Try.ntmps79
  go_wp2_with fail
  go_loop [4] (fun i => ∃ k : Nat, k ≤ l.length ∧ i = .int .i64 k ∧ Hid (l.all p = (l.drop k).all p)) (fun i => l.length - (intOf i).toNat)
  case atStart => exact ⟨0, Nat.zero_le _, rfl, rfl⟩
  case round =>
    obtain ⟨k, hk, rfl, R⟩ := hrel
    by_cases hlt : k < l.length
    · obtain ⟨b, off, rfl, hb, hcell⟩ := hc (by omega)
      have hck := hcell k hlt
      have D := hid (all_drop (p := p) hlt)
      have hx := getD_lt hl k
      have PX := hid (HP.out (l.getD k 0))
      clear hcell hc HP
      generalize l.getD k 0 = x at *
      have WI := hid (fun w => Within_any x s w hx hs)
      rcases hq : subB x s with _ | _
      · have HQ := hid hq
        clear hq
        go_wp2_with fail
        refine (WI.out _).mono ?_
        rw [HQ.out]
        rintro e w' ⟨rfl, rfl⟩
        go_wp2_with fail
        go_round
        case rel => exact ⟨k + 1, by omega, by go_num, by show l.all p = _; rw [R.out, D.out, ← PX.out, HQ.out]; rfl⟩
        case measure => simp [intOf]; omega
      · have HQ := hid hq
        clear hq
        go_wp2_with fail
        refine (WI.out _).mono ?_
        rw [HQ.out]
        rintro e w' ⟨rfl, rfl⟩
        go_wp2_with fail
        go_ret
        exact ⟨ret_bool (by rw [R.out, D.out, ← PX.out, HQ.out]; rfl), rfl⟩
    · go_wp2_with fail
      go_ret
      exact ⟨ret_bool (by rw [R.out, List.drop_of_length_le (by omega)]; rfl), rfl⟩
theorem OfHypQ (s bx : Nat) (v : Value) (l : List Nat) (w : World) (hs : s < 256) (hl : ∀ s ∈ l, s < 256) (hbx : w.cell? ⟨bx, 0, none⟩ = some v) (h : Ints w v (N l)) :
    Calls Try.prog 80 #[.int .i64 s, .pointer (some ⟨bx, 0, none⟩)] w fun e w' => e = .returned (.bool (l.all fun b => !subB s b)) ∧ w' = w := by
  obtain ⟨a, cap, rfl, hlen, hc⟩ := h.nats
  clear h
  generalize hp : (fun b => !subB s b) = p
  have HP := hid (fun b => congrFun hp b)
  clear hp
  go_enter Try.func80, Try.ntmps80
  go_wp2_with fail
  go_loop [4] (fun i => ∃ k : Nat, k ≤ l.length ∧ i = .int .i64 k ∧ Hid (l.all p = (l.drop k).all p)) (fun i => l.length - (intOf i).toNat)
  case atStart => exact ⟨0, Nat.zero_le _, rfl, rfl⟩
  case round =>
    obtain ⟨k, hk, rfl, R⟩ := hrel
    by_cases hlt : k < l.length
    · obtain ⟨b, off, rfl, hb, hcell⟩ := hc (by omega)
      have hck := hcell k hlt
      have D := hid (all_drop (p := p) hlt)
      have hx := getD_lt hl k
      have PX := hid (HP.out (l.getD k 0))
      clear hcell hc HP
      generalize l.getD k 0 = x at *
      have WI := hid (fun w => Within_any s x w hs hx)
      rcases hq : subB s x with _ | _
      · have HQ := hid hq
        clear hq
        go_wp2_with fail
        refine (WI.out _).mono ?_
        rw [HQ.out]
        rintro e w' ⟨rfl, rfl⟩
        go_wp2_with fail
        go_round
        case rel => exact ⟨k + 1, by omega, by go_num, by show l.all p = _; rw [R.out, D.out, ← PX.out, HQ.out]; rfl⟩
        case measure => simp [intOf]; omega
      · have HQ := hid hq
        clear hq
        go_wp2_with fail
        refine (WI.out _).mono ?_
        rw [HQ.out]
        rintro e w' ⟨rfl, rfl⟩
        go_wp2_with fail
        go_ret
        exact ⟨ret_bool (by rw [R.out, D.out, ← PX.out, HQ.out]; rfl), rfl⟩
    · go_wp2_with fail
      go_ret
      exact ⟨ret_bool (by rw [R.out, List.drop_of_length_le (by omega)]; rfl), rfl⟩
theorem OfRkQ (s bx T : Nat) (v : Value) (zs : List Int) (w : World) (hT : T ≤ 256) (hs : s < T) (hz : zs.length = T) (hbs : bx < w.heap.size) (hbx : w.cell? ⟨bx, 0, none⟩ = some v) (h : Ints w v zs) :
    Calls Try.prog 84 #[.int .i64 s, .pointer (some ⟨bx, 0, none⟩)] w fun e w' => e = .returned (.bool (zs.getD s 0 == (pop s : Int))) ∧ Below w.heap.size w w' := by
  obtain ⟨a, cap, rfl, _, h0⟩ := h
  obtain ⟨b, off, rfl, h1, h2⟩ := h0 (by omega)
  rw [hz] at h2 hbx
  have hc := h2 s hs
  have c1 : ∀ x : Later w, x.now.cell? ⟨b, off + s, none⟩ = some (.int .i64 (zs.getD s 0)) := fun x => (x.kept.cell (p := ⟨b, off + s, none⟩) h1).trans hc
  have c2 : ∀ x : Later w, x.now.cell? ⟨bx, 0, none⟩ = some (.slice (some ⟨b, off, none⟩) T cap) := fun x => (x.kept.cell (p := ⟨bx, 0, none⟩) hbs).trans hbx
  have hs8 : s < 256 := by omega
  clear h2 h0
  generalize zs.getD s 0 = x at *
  go_enter Try.func84, Try.ntmps84
  go_wp2_with fail
  refine region_later (by kernel_rfl) (by kernel_rfl) ?_
  repeat (go_big_quiet_step ((go_at_call 49; refine (Size_any _ _ (by assumption)).mono ?_; rintro e w' ⟨rfl, hb⟩; exact ⟨rfl, Later.on _ hb⟩)))
  refine wpQuiet_nil ?_
  intro w3 hw'
  obtain ⟨⟨y3, hb3⟩, hw''⟩ := hw'
  dsimp only at hw''
  subst hw''
  have HB := hid hb3
  clear hb3 c1 c2
  go_wp2_with fail
  go_ret
  exact ⟨rfl, HB.out⟩
end Go.Proofs.Ythbldeloocmakaa

namespace Go.Proofs.Ythbldeloocmakaa
open Go.RowKit

theorem wholeSet_any (n : Nat) (w : World) (hn : n ≤ 8) : Calls Try.prog 87 #[.int .i64 n] w fun e w' => e = .returned (.int .i64 (2 ^ n - 1 : Nat)) ∧ w' = w := by
  obtain ⟨T, HT, hT2, hT, hT0⟩ : ∃ T : Nat, Hid (T = 2 ^ n) ∧ T ≤ 256 ∧ wrap64 (2 ^ n) = (T : Int) ∧ 1 ≤ T := ⟨2 ^ n, rfl, (pow_wrap _ hn).2, (pow_wrap _ hn).1, Nat.one_le_two_pow⟩
  rw [← HT.out]
  have hti : (T : Int) - 1 = ((T - 1 : Nat) : Int) := by omega
  go_enter Try.func87, Try.ntmps87
  go_wp2
  go_ret
  exact ⟨rfl, rfl⟩
end Go.Proofs.Ythbldeloocmakaa
