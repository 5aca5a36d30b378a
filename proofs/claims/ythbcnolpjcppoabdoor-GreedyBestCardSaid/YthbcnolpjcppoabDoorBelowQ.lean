/- The contract of sets.Below, for every two numbers. -/
import Derived.Test.YthbcnolpjcppoabDoorBitsQ
import Derived.BigQuiet
namespace Go.Proofs.YthbcnolpjcppoabDoor
open Go.RowKit

theorem below_bad (a b : Int) (w : World) (h : ¬ (0 ≤ a ∧ a ≤ 255 ∧ 0 ≤ b ∧ b ≤ 255)) :
    Calls Tryd.prog 12 #[.int .i64 a, .int .i64 b] w fun e w' => e = .returned (.tuple #[.bool false, .int .i64 1]) ∧ w' = w := by
  by_cases ha : 0 ≤ a ∧ a ≤ 255
  · obtain ⟨a0, a1⟩ := ha
    go_enter Tryd.func12, Tryd.ntmps12
    go_wp2_with fail
    refine (isSet_yes _ _ a0 a1).mono ?_
    rintro e w' ⟨rfl, rfl⟩
    go_wp2_with fail
    refine (isSet_no _ _ (by omega)).mono ?_
    rintro e w' ⟨rfl, rfl⟩
    go_wp2_with fail
    go_ret2
    exact ⟨rfl, rfl⟩
  · go_enter Tryd.func12, Tryd.ntmps12
    go_wp2_with fail
    refine (isSet_no _ _ (by omega)).mono ?_
    rintro e w' ⟨rfl, rfl⟩
    go_wp2_with fail
    go_ret2
    exact ⟨rfl, rfl⟩

theorem below_shape (a b : Nat) (w : World) (ha : a < 256) (hb : b < 256) (h : pop a ≠ pop b) :
    Calls Tryd.prog 12 #[.int .i64 a, .int .i64 b] w fun e w' => e = .returned (.tuple #[.bool false, .int .i64 3]) ∧ w' = w := by
  have hne : ((pop a : Int) != (pop b : Int)) = true := by rw [bne_iff_ne]; omega
  go_enter Tryd.func12, Tryd.ntmps12
  go_wp2_with fail
  refine (isSet_yes _ _ (by omega) (by omega)).mono ?_
  rintro e w' ⟨rfl, rfl⟩
  go_wp2_with fail
  refine (isSet_yes _ _ (by omega) (by omega)).mono ?_
  rintro e w' ⟨rfl, rfl⟩
  go_wp2_with fail
  refine (size_any a _ ha).mono ?_
  rintro e w' ⟨rfl, rfl⟩
  go_wp2_with fail
  refine (size_any b _ hb).mono ?_
  rintro e w' ⟨rfl, rfl⟩
  go_wp2_with fail
  go_ret2
  exact ⟨rfl, rfl⟩

theorem tup_eq {x y : Bool} (h : x = y) : Ending.returned (.tuple #[.bool x, .int .i64 0]) = .returned (.tuple #[.bool y, .int .i64 0]) := by rw [h]

set_option maxHeartbeats 1000000 in
theorem below_good (a b : Nat) (w : World) (hw : Tabbed w) (ha : a < 256) (hb : b < 256) (h : pop a = pop b) :
    Calls Tryd.prog 12 #[.int .i64 a, .int .i64 b] w fun e w' => e = .returned (.tuple #[.bool (galeL (els a) (els b)), .int .i64 0]) ∧ w' = w := by
  have hne : ((pop a : Int) != (pop b : Int)) = false := by rw [h]; simp
  have H : Hid (pop a = pop b) := h
  clear h
  go_enter Tryd.func12, Tryd.ntmps12
  go_wp2_with fail
  refine (isSet_yes _ _ (by omega) (by omega)).mono ?_
  rintro e w' ⟨rfl, rfl⟩
  go_wp2_with fail
  refine (isSet_yes _ _ (by omega) (by omega)).mono ?_
  rintro e w' ⟨rfl, rfl⟩
  go_wp2_with fail
  refine (size_any a _ ha).mono ?_
  rintro e w' ⟨rfl, rfl⟩
  go_wp2_with fail
  refine (size_any b _ hb).mono ?_
  rintro e w' ⟨rfl, rfl⟩
  go_wp2_with fail
  go_loop [0, 1] (fun x y => ∃ p q : Nat, p < 256 ∧ q < 256 ∧ Hid (pop p = pop q ∧ galeL (els p) (els q) = galeL (els a) (els b)) ∧ x = .int .i64 p ∧ y = .int .i64 q) (fun x _ => (intOf x).toNat)
  case atStart => exact ⟨a, b, ha, hb, ⟨H.out, rfl⟩, rfl, rfl⟩
  case round =>
    obtain ⟨p, q, hp, hq, R, rfl, rfl⟩ := hrel
    by_cases hz : p = 0
    · subst hz
      go_wp2_with fail
      go_ret2
      exact ⟨tup_eq (by rw [← R.out.2, els_zero]; rfl), rfl⟩
    · have hp0 : 0 < p := by omega
      have hq0 : 0 < q := by
        have h1 := pop_pos p hp
        have h2 := pop_pos q hq
        have h3 := R.out.1
        omega
      have hnz : ((p : Int) != 0) = true := by rw [bne_iff_ne]; omega
      have E : Hid (els p = tz p :: els (wl p) ∧ els q = tz q :: els (wl q)) := ⟨els_step p hp hp0, els_step q hq hq0⟩
      have l1 := wl_lt p hp hp0
      have l2 := wl_lt q hq hq0
      by_cases hc : tz q < tz p
      · have hc' : (tz q : Int) < (tz p : Int) := by omega
        go_wp2_with fail
        refine (least_any p _ hw hp0 hp).mono ?_
        rintro e w' ⟨rfl, rfl⟩
        go_wp2_with fail
        refine (least_any q _ hw hq0 hq).mono ?_
        rintro e w' ⟨rfl, rfl⟩
        go_wp2_with fail
        go_ret2
        exact ⟨tup_eq (by rw [← R.out.2, E.out.1, E.out.2]; simp [galeL]; omega), rfl⟩
      · have hc' : ¬ (tz q : Int) < (tz p : Int) := by omega
        go_wp2_with fail
        refine (least_any p _ hw hp0 hp).mono ?_
        rintro e w' ⟨rfl, rfl⟩
        go_wp2_with fail
        refine (least_any q _ hw hq0 hq).mono ?_
        rintro e w' ⟨rfl, rfl⟩
        go_wp2_with fail
        refine (without_any p _ hp0 hp).mono ?_
        rintro e w' ⟨rfl, rfl⟩
        go_wp2_with fail
        refine (without_any q _ hq0 hq).mono ?_
        rintro e w' ⟨rfl, rfl⟩
        go_wp2_with fail
        go_round
        case rel =>
          refine ⟨wl p, wl q, by omega, by omega, ⟨?_, ?_⟩, rfl, rfl⟩
          · have h3 := R.out.1
            rw [pop_els, pop_els, E.out.1, E.out.2] at h3
            simpa [pop_els] using h3
          · rw [← R.out.2, E.out.1, E.out.2]
            simp [galeL]; omega
        case measure => simp [intOf]; omega

theorem below_any (a b : Int) (w : World) (hw : Tabbed w) :
    Calls Tryd.prog 12 #[.int .i64 a, .int .i64 b] w fun e w' => e = .returned (.tuple #[.bool (belowR a b).1, .int .i64 (belowR a b).2]) ∧ w' = w := by
  by_cases h : 0 ≤ a ∧ a ≤ 255 ∧ 0 ≤ b ∧ b ≤ 255
  · obtain ⟨n, rfl⟩ := Int.eq_ofNat_of_zero_le h.1
    obtain ⟨m, rfl⟩ := Int.eq_ofNat_of_zero_le h.2.2.1
    by_cases h2 : pop n = pop m
    · rw [belowR_mk h (by simpa using h2)]
      simpa using below_good n m w hw (by omega) (by omega) h2
    · have e : belowR n m = (false, 3) := by
        unfold belowR; rw [if_pos h, if_neg (by simpa using h2)]
      rw [e]
      exact below_shape n m w (by omega) (by omega) h2
  · have e : belowR a b = (false, 1) := by unfold belowR; rw [if_neg h]
    rw [e]
    exact below_bad a b w h
end Go.Proofs.YthbcnolpjcppoabDoor
