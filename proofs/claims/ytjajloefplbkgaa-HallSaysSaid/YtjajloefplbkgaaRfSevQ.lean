/- rotaref.Several. -/
import Derived.Test.YtjajloefplbkgaaRefQ
import Derived.Test.YtjajloefplbkgaaPlainAll
namespace Go.Proofs.Ytjajloefplbkgaa
open Go.RowKit

set_option maxRecDepth 20000 in
set_option maxHeartbeats 1600000 in
theorem Several_any (s : Nat) (v : Value) (l : List Nat) (w : World) (hs : s < 256) (hk : l.length ≤ 8) (hl : ∀ x ∈ l, x < 256) (h : Ints w v (N l)) :
    Calls Try.prog 12 #[v, .int .i64 s] w fun e w' => e = .returned (.int .i64 (sevL l s : Nat)) ∧ w' = w := by
  obtain ⟨a, cap, rfl, hlen, hc⟩ := h.nats
  clear h
  have HSV : Hid (∀ k, sevL (l.take k) s < 256) := fun k => sev_lt (n := 8) (fun x hx => hl x (List.mem_of_mem_take hx)) s
  have HST : Hid (∀ k, k < l.length → sevL (l.take (k + 1)) s = if s.testBit k = true then sevL (l.take k) s ||| l.getD k 0 else sevL (l.take k) s) := fun k hk => sev_step s hk
  have HE : Hid (sevL (l.take l.length) s = sevL l s) := by show _ = _; rw [List.take_length]
  have H0 : Hid (sevL (l.take 0) s = 0) := rfl
  have HXL : Hid (∀ k, l.getD k 0 < 256) := fun k => getD_lt hl k
  have HIN := hid (fun i w hi => In_any s i w hs hi)
  go_enter Try.func12, Try.ntmps12
  go_wp2_with fail
  go_loop [5, 6] (fun o i => ∃ k : Nat, k ≤ l.length ∧ i = .int .i64 k ∧ o = .int .i64 (sevL (l.take k) s : Nat)) (fun _ i => l.length - (intOf i).toNat)
  case atStart => exact ⟨0, Nat.zero_le _, rfl, rfl⟩
  case round =>
    obtain ⟨k, hk2, rfl, rfl⟩ := hrel
    by_cases hlt : k < l.length
    · obtain ⟨b, off, rfl, hb, hcell⟩ := hc (by omega)
      have x1 := hcell k hlt
      have ST := hid (HST.out k hlt)
      have q1 := HSV.out k
      have q2 := HXL.out k
      have IN := hid (fun w => HIN.out k w (by omega))
      have hki : (k : Int) < (l.length : Int) := by omega
      have hor : bits .or .i64 (sevL (l.take k) s : Nat) (l.getD k 0 : Nat) = ((sevL (l.take k) s ||| l.getD k 0 : Nat) : Int) := i64_or_nat _ _ (by omega) (by omega)
      clear hcell hc
      generalize l.getD k 0 = x at *
      generalize sevL (l.take k) s = y at *
      by_cases hbit : s.testBit k = true
      · rw [hbit] at IN
        go_wp2_with fail
        refine (IN.out _).mono ?_
        rintro e w' ⟨rfl, hw'⟩
        obtain rfl := hw'.symm
        go_wp2_with fail
        go_round
        case rel => exact ⟨k + 1, by omega, by go_num, by rw [ST.out, if_pos hbit]⟩
        case measure => simp [intOf]; omega
      · rw [Bool.not_eq_true] at hbit
        rw [hbit] at IN
        go_wp2_with fail
        refine (IN.out _).mono ?_
        rintro e w' ⟨rfl, hw'⟩
        obtain rfl := hw'.symm
        go_wp2_with fail
        go_round
        case rel => exact ⟨k + 1, by omega, by go_num, by rw [ST.out, if_neg (by rw [hbit]; decide)]⟩
        case measure => simp [intOf]; omega
    · obtain rfl : k = l.length := by omega
      rw [HE.out]
      go_wp2_with fail
      go_ret
      exact ⟨rfl, rfl⟩
end Go.Proofs.Ytjajloefplbkgaa
