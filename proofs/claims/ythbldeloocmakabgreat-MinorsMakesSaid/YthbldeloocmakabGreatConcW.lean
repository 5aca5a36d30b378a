/- slices.BinarySearch. -/
import Derived.Test.YthbldeloocmakabGreatOwnQ
import Derived.Deep.QuietTactic
import Derived.BigQuiet
namespace Go.Proofs.YthbldeloocmakabGreat
open Go.RowKit

theorem isNaN_any (x : Int) (w : World) : Calls Tryz.prog 95 #[.int .i64 x] w fun e w' => e = .returned (.bool false) ∧ w' = w := by
  have h : (x != x) = false := by simp
  go_enter Tryz.func95, Tryz.ntmps95
  go_wp2
  go_ret
  exact ⟨rfl, rfl⟩
theorem isNaN2_any (x : Int) (w : World) : Calls Tryz.prog 82 #[.int .i64 x] w fun e w' => e = .returned (.bool false) ∧ w' = w := by
  have h : (x != x) = false := by simp
  go_enter Tryz.func82, Tryz.ntmps82
  go_wp2
  go_ret
  exact ⟨rfl, rfl⟩
theorem Less_any (x y : Int) (w : World) : Calls Tryz.prog 81 #[.int .i64 x, .int .i64 y] w fun e w' => e = .returned (.bool (decide (x < y))) ∧ w' = w := by
  go_enter Tryz.func81, Tryz.ntmps81
  go_wp2_with (go_at_call 95; refine (isNaN_any _ _).mono ?_; rintro e w' ⟨rfl, rfl⟩)
  go_ret
  exact ⟨rfl, rfl⟩
theorem bin_lo {l : List Nat} {m t k : Nat} (hup : l.Pairwise (· < ·)) (hm : m < l.length) (hk : k < m + 1) (h : l.getD m 0 < t) : l.getD k 0 < t := by
  rcases Nat.lt_or_ge k m with g | g
  · rw [List.pairwise_iff_getElem] at hup
    have h1 := hup k m (by omega) hm g
    simp only [List.getD, List.getElem?_eq_getElem hm, List.getElem?_eq_getElem (show k < l.length by omega), Option.getD_some] at h ⊢
    omega
  · obtain rfl : k = m := by omega
    exact h
theorem bin_hi {l : List Nat} {m t k : Nat} (hup : l.Pairwise (· < ·)) (hk : m ≤ k) (hk2 : k < l.length) (h : t ≤ l.getD m 0) : t ≤ l.getD k 0 := by
  rcases Nat.lt_or_ge m k with g | g
  · rw [List.pairwise_iff_getElem] at hup
    have h1 := hup m k (by omega) hk2 g
    simp only [List.getD, List.getElem?_eq_getElem hk2, List.getElem?_eq_getElem (show m < l.length by omega), Option.getD_some] at h ⊢
    omega
  · obtain rfl : k = m := by omega
    exact h
theorem bin_end {l : List Nat} {p t : Nat} (hp : p ≤ l.length) (h1 : ∀ k, k < p → l.getD k 0 < t) (h2 : ∀ k, p ≤ k → k < l.length → t ≤ l.getD k 0) (hup : l.Pairwise (· < ·)) :
    (l.filter (· < t)).length = p ∧ memB t l = (decide (p < l.length) && l.getD p 0 == t) := by
  have e : l.filter (· < t) = l.take p := by
    conv => lhs; rw [← List.take_append_drop p l]
    rw [List.filter_append]
    have a1 : (l.take p).filter (· < t) = l.take p := List.filter_eq_self.2 fun x hx => by
      obtain ⟨i, hi, rfl⟩ := List.mem_take_iff_getElem.1 hx
      have := h1 i (by omega)
      simp only [List.getD, List.getElem?_eq_getElem (show i < l.length by omega), Option.getD_some] at this
      simpa using this
    have a2 : (l.drop p).filter (· < t) = [] := List.filter_eq_nil_iff.2 fun x hx => by
      obtain ⟨i, hi, rfl⟩ := List.mem_drop_iff_getElem.1 hx
      have := h2 (p + i) (by omega) (by omega)
      simp only [List.getD, List.getElem?_eq_getElem (show p + i < l.length by omega), Option.getD_some] at this
      simp
      omega
    rw [a1, a2, List.append_nil]
  refine ⟨by rw [e, List.length_take]; omega, ?_⟩
  unfold memB
  rw [Bool.eq_iff_iff, decide_eq_true_eq, Bool.and_eq_true, decide_eq_true_eq, beq_iff_eq]
  constructor
  · intro hm
    obtain ⟨i, hi, he⟩ := List.mem_iff_getElem.1 hm
    have g1 : p ≤ i := by
      rcases Nat.lt_or_ge i p with g | g
      · have := h1 i g
        simp only [List.getD, List.getElem?_eq_getElem hi, Option.getD_some] at this
        omega
      · exact g
    have g2 := h2 p (Nat.le_refl _) (by omega)
    refine ⟨by omega, ?_⟩
    have g3 := bin_hi (t := l.getD p 0) hup g1 hi (Nat.le_refl _)
    simp only [List.getD, List.getElem?_eq_getElem hi, Option.getD_some] at g3 g2 ⊢
    omega
  · rintro ⟨hp2, he⟩
    simp only [List.getD, List.getElem?_eq_getElem hp2, Option.getD_some] at he
    rw [← he]
    exact List.getElem_mem _
set_option maxHeartbeats 800000 in
theorem Bin_any (v : Value) (l : List Nat) (t : Nat) (w : World) (hl : l.length ≤ 256) (hup : l.Pairwise (· < ·)) (h : Ints w v (N l)) :
    Calls Tryz.prog 54 #[v, .int .i64 t] w fun e w' => e = .returned (.tuple #[.int .i64 ((l.filter (· < t)).length : Nat), .bool (memB t l)]) ∧ Below w.heap.size w w' := by
  obtain ⟨a, cap, hv, hlen, hc⟩ := h.nats
  subst hv
  clear h
  obtain ⟨pr, HP⟩ : ∃ pr : Nat, Hid ((l.filter (· < t)).length = pr) := ⟨_, rfl⟩
  obtain ⟨mb, HM0⟩ : ∃ mb : Bool, Hid (memB t l = mb) := ⟨_, rfl⟩
  rw [HP.out, HM0.out]
  go_enter Tryz.func54, Tryz.ntmps54
  go_wp2_with fail
  go_loop [7, 8] (fun i j => ∃ p q : Nat, i = .int .i64 p ∧ j = .int .i64 q ∧ p ≤ q ∧ q ≤ l.length ∧ Hid ((∀ k, k < p → l.getD k 0 < t) ∧ ∀ k, q ≤ k → k < l.length → t ≤ l.getD k 0)) (fun i j => (intOf j - intOf i).toNat)
  case atStart => exact ⟨0, l.length, rfl, rfl, Nat.zero_le _, Nat.le_refl _, ⟨fun k hk => by omega, fun k h1 h2 => by omega⟩⟩
  case round =>
    obtain ⟨p, q, rfl, rfl, hpq, hq, R⟩ := hrel
    by_cases hlt : p < q
    · obtain ⟨b, off, rfl, hb, hcell⟩ := hc (by omega)
      obtain ⟨m, hm⟩ : ∃ m : Nat, (p + q) / 2 = m := ⟨_, rfl⟩
      have hm1 : p ≤ m := by omega
      have hm2 : m < q := by omega
      have hck := hcell m (by omega)
      clear hcell hc
      have hmi : ((p : Int) + (q : Int)) / 2 = (m : Int) := by omega
      obtain ⟨y, HY⟩ : ∃ y : Nat, Hid (l.getD m 0 = y) := ⟨_, rfl⟩
      rw [HY.out] at hck
      by_cases hyt : y < t
      · have hyt' : decide ((y : Int) < (t : Int)) = true := by simp; omega
        have HL := hid (Less_any y t w)
        rw [hyt'] at HL
        go_wp2_with fail
        refine HL.out.mono ?_
        rintro e w' ⟨rfl, rfl⟩
        go_wp2_with fail
        go_round
        case rel => exact ⟨m + 1, q, by go_num, rfl, by omega, hq, ⟨fun k hk => bin_lo hup (by omega) hk (by rw [HY.out]; exact hyt), R.out.2⟩⟩
        case measure => simp [intOf]; omega
      · have hyt' : decide ((y : Int) < (t : Int)) = false := by simp; omega
        have HL := hid (Less_any y t w)
        rw [hyt'] at HL
        go_wp2_with fail
        refine HL.out.mono ?_
        rintro e w' ⟨rfl, rfl⟩
        go_wp2_with fail
        go_round
        case rel => exact ⟨p, m, rfl, rfl, hm1, by omega, ⟨R.out.1, fun k h1 h2 => bin_hi hup h1 h2 (by rw [HY.out]; omega)⟩⟩
        case measure => simp [intOf]; omega
    · obtain rfl : p = q := by omega
      obtain ⟨H1, H2⟩ := bin_end hq R.out.1 R.out.2 hup
      rw [HP.out] at H1
      rw [HM0.out] at H2
      subst H1
      clear HP HM0 R
      by_cases hp : pr < l.length
      · obtain ⟨b, off, rfl, hb, hcell⟩ := hc (by omega)
        have hck := hcell pr hp
        have hcd : decide (pr < l.length) = true := decide_eq_true hp
        rw [hcd] at H2
        clear hcell hc
        generalize l.getD pr 0 = y at *
        by_cases hy : y = t
        · subst hy
          have HM := hid H2
          clear H2
          go_wp2_with fail
          go_ret2
          exact ⟨by rw [HM.out]; simp, Below.refl _ _⟩
        · have hy' : ((y : Int) == (t : Int)) = false := by rw [beq_eq_false_iff_ne]; omega
          have HM : Hid (mb = false) := by rw [beq_eq_false_iff_ne.2 hy] at H2; exact H2
          clear H2
          go_wp2_with fail
          refine (isNaN2_any _ _).mono ?_
          rintro e w' ⟨rfl, rfl⟩
          go_wp2_with fail
          go_ret2
          exact ⟨by rw [HM.out]; rfl, Below.refl _ _⟩
      · have HM : Hid (mb = false) := by rw [decide_eq_false hp] at H2; exact H2
        clear H2
        go_wp2_with fail
        go_ret2
        exact ⟨by rw [HM.out]; rfl, Below.refl _ _⟩
end Go.Proofs.YthbldeloocmakabGreat

namespace Go.Proofs.YthbldeloocmakabGreat
open Go.RowKit

theorem drop_mem {zs : List Int} {t : Int} {k : Nat} (h : k < zs.length) : t ∈ zs.drop k ↔ t = zs.getD k 0 ∨ t ∈ zs.drop (k + 1) := by
  rw [drop_getD h, List.mem_cons]
set_option maxHeartbeats 800000 in
theorem IndexC_any (v : Value) (zs : List Int) (t : Int) (w : World) (h : Ints w v zs) :
    Calls Tryz.prog 66 #[v, .int .i64 t] w fun e w' => (∃ k : Int, e = .returned (.int .i64 k) ∧ (0 ≤ k ↔ t ∈ zs)) ∧ Below w.heap.size w w' := by
  obtain ⟨a, cap, rfl, hl, hc⟩ := h
  go_enter Tryz.func66, Tryz.ntmps66
  go_wp2_with fail
  go_loopw [8] (fun i wr => ∃ k : Nat, k ≤ zs.length ∧ i = .int .i64 k ∧ Below w.heap.size w wr ∧ Hid (t ∈ zs ↔ t ∈ zs.drop k)) (fun i _ => zs.length - (intOf i).toNat)
  case atStart => exact ⟨0, Nat.zero_le _, rfl, Below.refl _ _, Iff.rfl⟩
  case round =>
    obtain ⟨k, hk, rfl, hnx, R⟩ := hrel
    by_cases hlt : k < zs.length
    · obtain ⟨b, off, rfl, hb, hcell⟩ := hc (by omega)
      have hck : wr.cell? ⟨b, off + k, none⟩ = some (.int .i64 (zs.getD k 0)) := (hnx.cell (p := ⟨b, off + k, none⟩) hb).trans (hcell k hlt)
      have D := hid (drop_mem (t := t) hlt)
      have hki : (k : Int) < (zs.length : Int) := by omega
      clear hcell hc
      generalize zs.getD k 0 = x at *
      by_cases hxy : t = x
      · have hxy' : (t == x) = true := by rw [hxy]; simp
        have F : Hid (t ∈ zs) := R.out.2 (D.out.2 (.inl hxy))
        clear hxy
        go_wp2_with fail
        go_ret
        exact ⟨⟨_, rfl, by constructor <;> intro <;> first | exact F.out | omega⟩, hnx⟩
      · have hxy' : (t == x) = false := by rw [beq_eq_false_iff_ne]; exact hxy
        have HX := hid hxy
        go_wp2_with fail
        go_roundw
        case rel => exact ⟨k + 1, by omega, by go_num, hnx, by show _ ↔ _; rw [R.out, D.out]; simp [HX.out]⟩
        case measure => simp [intOf]; omega
    · have hz : zs.drop k = [] := List.drop_of_length_le (by omega)
      have F : Hid (¬ t ∈ zs) := by show ¬ _; rw [R.out, hz]; simp
      clear hz
      go_wp2_with fail
      go_ret
      exact ⟨⟨_, rfl, by constructor <;> intro h <;> first | omega | exact absurd h F.out⟩, hnx⟩
theorem ContainsC_any (v : Value) (zs : List Int) (t : Int) (w : World) (h : Ints w v zs) :
    Calls Tryz.prog 29 #[v, .int .i64 t] w fun e w' => e = .returned (.bool (decide (t ∈ zs))) ∧ Below w.heap.size w w' := by
  have HX := hid (IndexC_any v zs t w h)
  clear h
  go_enter Tryz.func29, Tryz.ntmps29
  go_wp2_with fail
  refine HX.out.mono ?_
  rintro e w1 ⟨⟨k, rfl, hk⟩, hb1⟩
  have HB := hid hb1
  have HK := hid hk
  clear hb1 hk
  go_wp2_with fail
  go_ret
  exact ⟨ret_bool (by rw [Bool.eq_iff_iff, decide_eq_true_eq, decide_eq_true_eq]; exact HK.out), HB.out⟩
end Go.Proofs.YthbldeloocmakabGreat
