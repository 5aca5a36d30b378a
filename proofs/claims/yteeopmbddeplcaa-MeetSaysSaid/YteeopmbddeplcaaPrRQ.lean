/- rotaref.Priced. -/
import Derived.Test.YteeopmbddeplcaaGrWQ
namespace Go.Proofs.Yteeopmbddeplcaa
open Go.RowKit

set_option maxRecDepth 20000 in
set_option maxHeartbeats 800000 in
theorem Priced_any (n : Int) (v : Value) (ws : List Int) (w : World) (h : Ints w v ws) :
    Calls Try.prog 12 #[.int .i64 n, v] w fun e w' => e = .returned (.int .i64 (cwR n ws)) ∧ w' = w := by
  obtain ⟨a, cap, rfl, hl, hc⟩ := h
  have E0 : Hid (cwR n ws = if (ws.length : Int) ≠ n then 3 else if ws.all fun x => decide (-1000 ≤ x ∧ x ≤ 1000) then 0 else 1) := rfl
  generalize cwR n ws = res at *
  by_cases hn : (ws.length : Int) = n
  · subst hn
    rw [if_neg (by simp)] at E0
    go_enter Try.func12, Try.ntmps12
    go_wp2_with fail
    go_loop [5] (fun i => ∃ k : Nat, k ≤ ws.length ∧ i = .int .i64 k ∧ Hid (∀ i, i < k → decide (-1000 ≤ ws.getD i 0 ∧ ws.getD i 0 ≤ 1000) = true)) (fun i => ws.length - (intOf i).toNat)
    case atStart => exact ⟨0, Nat.zero_le _, rfl, fun i hi => by omega⟩
    case round =>
      obtain ⟨k, hk, rfl, R⟩ := hrel
      by_cases hlt : k < ws.length
      · have hki : (k : Int) < (ws.length : Int) := by omega
        obtain ⟨b, off, rfl, hb, hcell⟩ := hc (by omega)
        have hck := hcell k hlt
        have R2 : Hid (decide (-1000 ≤ ws.getD k 0 ∧ ws.getD k 0 ≤ 1000) = true → ∀ i, i < k + 1 → decide (-1000 ≤ ws.getD i 0 ∧ ws.getD i 0 ≤ 1000) = true) := fun h i hi => by
          by_cases e : i = k
          · subst e; exact h
          · exact R.out i (by omega)
        have R3 : Hid (decide (-1000 ≤ ws.getD k 0 ∧ ws.getD k 0 ≤ 1000) = false → (ws.all fun x => decide (-1000 ≤ x ∧ x ≤ 1000)) = false) := fun h => by
          rw [List.all_eq_false]
          refine ⟨ws.getD k 0, ?_, by rw [h]; simp⟩
          simp only [List.getD, List.getElem?_eq_getElem hlt, Option.getD_some]
          exact List.getElem_mem _
        clear hcell hc
        generalize ws.getD k 0 = x at *
        by_cases h1 : x < -1000
        · have F := R3.out (by rw [decide_eq_false_iff_not]; omega)
          rw [F] at E0
          go_wp2_with fail
          go_ret
          exact ⟨by rw [E0.out]; rfl, rfl⟩
        · by_cases h2 : 1000 < x
          · have F := R3.out (by rw [decide_eq_false_iff_not]; omega)
            rw [F] at E0
            go_wp2_with fail
            go_ret
            exact ⟨by rw [E0.out]; rfl, rfl⟩
          · have R4 := hid (R2.out (by rw [decide_eq_true_eq]; omega))
            clear R2 R3
            go_wp2_with fail
            go_round
            case rel => exact ⟨k + 1, by omega, by go_num, R4⟩
            case measure => simp [intOf]; omega
      · obtain rfl : k = ws.length := by omega
        have F : (ws.all fun x => decide (-1000 ≤ x ∧ x ≤ 1000)) = true := List.all_eq_true.2 fun y hy => by
          obtain ⟨i, hi, rfl⟩ := List.mem_iff_getElem.1 hy
          have := R.out i hi
          simpa [List.getD, hi] using this
        rw [F] at E0
        go_wp2_with fail
        go_ret
        exact ⟨by rw [E0.out]; rfl, rfl⟩
  · rw [if_pos hn] at E0
    have hn' : ((ws.length : Int) != n) = true := by simp [hn]
    go_enter Try.func12, Try.ntmps12
    go_wp2_with fail
    go_ret
    exact ⟨by rw [E0.out]; rfl, rfl⟩
end Go.Proofs.Yteeopmbddeplcaa
