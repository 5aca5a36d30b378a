/- slices.BinarySearch. -/
import Derived.Test.YtkmpnaohdijpnaaGreatDoorOwnW
import Derived.Deep.QuietTactic
import Derived.BigQuiet
namespace Go.Proofs.YtkmpnaohdijpnaaGreatDoor
open Go.RowKit

theorem bin_lo {l : List Nat} {m t k : Nat} (hup : l.Pairwise (· < ·)) (hm : m < l.length) (hk : k < m + 1) (h : l.getD m 0 < t) : l.getD k 0 < t := by
  rcases Nat.lt_or_ge k m with g | g
  · rw [List.pairwise_iff_getElem] at hup
    have h1 := hup k m (by omega) hm g
    simp only [List.getD, List.getElem?_eq_getElem hm, List.getElem?_eq_getElem (show k < l.length by omega), Option.getD_some] at h ⊢
    omega
  · obtain rfl : k = m := by omega
    exact h
theorem bin_hi {l : List Nat} {m t k : Nat} (hup : l.Pairwise (· < ·)) (hk : m ≤ k) (hk2 : k < l.length) (h : t ≤ l.getD m 0) : t ≤ l.getD k 0 := by
  rcases Nat.lt_or_ge m k with g | g
  · rw [List.pairwise_iff_getElem] at hup
    have h1 := hup m k (by omega) hk2 g
    simp only [List.getD, List.getElem?_eq_getElem hk2, List.getElem?_eq_getElem (show m < l.length by omega), Option.getD_some] at h ⊢
    omega
  · obtain rfl : k = m := by omega
    exact h
theorem bin_end {l : List Nat} {p t : Nat} (hp : p ≤ l.length) (h1 : ∀ k, k < p → l.getD k 0 < t) (h2 : ∀ k, p ≤ k → k < l.length → t ≤ l.getD k 0) (hup : l.Pairwise (· < ·)) :
    (l.filter (· < t)).length = p ∧ memB t l = (decide (p < l.length) && l.getD p 0 == t) := by
  have e : l.filter (· < t) = l.take p := by
    conv => lhs; rw [← List.take_append_drop p l]
    rw [List.filter_append]
    have a1 : (l.take p).filter (· < t) = l.take p := List.filter_eq_self.2 fun x hx => by
      obtain ⟨i, hi, rfl⟩ := List.mem_take_iff_getElem.1 hx
      have := h1 i (by omega)
      simp only [List.getD, List.getElem?_eq_getElem (show i < l.length by omega), Option.getD_some] at this
      simpa using this
    have a2 : (l.drop p).filter (· < t) = [] := List.filter_eq_nil_iff.2 fun x hx => by
      obtain ⟨i, hi, rfl⟩ := List.mem_drop_iff_getElem.1 hx
      have := h2 (p + i) (by omega) (by omega)
      simp only [List.getD, List.getElem?_eq_getElem (show p + i < l.length by omega), Option.getD_some] at this
      simp
      omega
    rw [a1, a2, List.append_nil]
  refine ⟨by rw [e, List.length_take]; omega, ?_⟩
  unfold memB
  rw [Bool.eq_iff_iff, decide_eq_true_eq, Bool.and_eq_true, decide_eq_true_eq, beq_iff_eq]
  constructor
  · intro hm
    obtain ⟨i, hi, he⟩ := List.mem_iff_getElem.1 hm
    have g1 : p ≤ i := by
      rcases Nat.lt_or_ge i p with g | g
      · have := h1 i g
        simp only [List.getD, List.getElem?_eq_getElem hi, Option.getD_some] at this
        omega
      · exact g
    have g2 := h2 p (Nat.le_refl _) (by omega)
    refine ⟨by omega, ?_⟩
    have g3 := bin_hi (t := l.getD p 0) hup g1 hi (Nat.le_refl _)
    simp only [List.getD, List.getElem?_eq_getElem hi, Option.getD_some] at g3 g2 ⊢
    omega
  · rintro ⟨hp2, he⟩
    simp only [List.getD, List.getElem?_eq_getElem hp2, Option.getD_some] at he
    rw [← he]
    exact List.getElem_mem _
end Go.Proofs.YtkmpnaohdijpnaaGreatDoor

namespace Go.Proofs.YtkmpnaohdijpnaaGreatDoor
open Go.RowKit

theorem drop_mem {zs : List Int} {t : Int} {k : Nat} (h : k < zs.length) : t ∈ zs.drop k ↔ t = zs.getD k 0 ∨ t ∈ zs.drop (k + 1) := by
  rw [drop_getD h, List.mem_cons]
set_option maxHeartbeats 800000 in
theorem IndexC_any (v : Value) (zs : List Int) (t : Int) (w : World) (h : Ints w v zs) :
    Calls Tryz.prog 102 #[v, .int .i64 t] w fun e w' => (∃ k : Int, e = .returned (.int .i64 k) ∧ (0 ≤ k ↔ t ∈ zs)) ∧ Below w.heap.size w w' := by
  obtain ⟨a, cap, rfl, hl, hc⟩ := h
  go_enter Tryz.func102, Tryz.ntmps102
  go_wp2_with fail
  go_loopw [8] (fun i wr => ∃ k : Nat, k ≤ zs.length ∧ i = .int .i64 k ∧ Below w.heap.size w wr ∧ Hid (t ∈ zs ↔ t ∈ zs.drop k)) (fun i _ => zs.length - (intOf i).toNat)
  case atStart => exact ⟨0, Nat.zero_le _, rfl, Below.refl _ _, Iff.rfl⟩
  case round =>
    obtain ⟨k, hk, rfl, hnx, R⟩ := hrel
    by_cases hlt : k < zs.length
    · obtain ⟨b, off, rfl, hb, hcell⟩ := hc (by omega)
      have hck : wr.cell? ⟨b, off + k, none⟩ = some (.int .i64 (zs.getD k 0)) := (hnx.cell (p := ⟨b, off + k, none⟩) hb).trans (hcell k hlt)
      have D := hid (drop_mem (t := t) hlt)
      have hki : (k : Int) < (zs.length : Int) := by omega
      clear hcell hc
      generalize zs.getD k 0 = x at *
      by_cases hxy : t = x
      · have hxy' : (t == x) = true := by rw [hxy]; simp
        have F : Hid (t ∈ zs) := R.out.2 (D.out.2 (.inl hxy))
        clear hxy
        go_wp2_with fail
        go_ret
        exact ⟨⟨_, rfl, by constructor <;> intro <;> first | exact F.out | omega⟩, hnx⟩
      · have hxy' : (t == x) = false := by rw [beq_eq_false_iff_ne]; exact hxy
        have HX := hid hxy
        go_wp2_with fail
        go_roundw
        case rel => exact ⟨k + 1, by omega, by go_num, hnx, by show _ ↔ _; rw [R.out, D.out]; simp [HX.out]⟩
        case measure => simp [intOf]; omega
    · have hz : zs.drop k = [] := List.drop_of_length_le (by omega)
      have F : Hid (¬ t ∈ zs) := by show ¬ _; rw [R.out, hz]; simp
      clear hz
      go_wp2_with fail
      go_ret
      exact ⟨⟨_, rfl, by constructor <;> intro h <;> first | omega | exact absurd h F.out⟩, hnx⟩
theorem ContainsC_any (v : Value) (zs : List Int) (t : Int) (w : World) (h : Ints w v zs) :
    Calls Tryz.prog 99 #[v, .int .i64 t] w fun e w' => e = .returned (.bool (decide (t ∈ zs))) ∧ Below w.heap.size w w' := by
  have HX := hid (IndexC_any v zs t w h)
  clear h
  go_enter Tryz.func99, Tryz.ntmps99
  go_wp2_with fail
  refine HX.out.mono ?_
  rintro e w1 ⟨⟨k, rfl, hk⟩, hb1⟩
  have HB := hid hb1
  have HK := hid hk
  clear hb1 hk
  go_wp2_with fail
  go_ret
  exact ⟨ret_bool (by rw [Bool.eq_iff_iff, decide_eq_true_eq, decide_eq_true_eq]; exact HK.out), HB.out⟩
end Go.Proofs.YtkmpnaohdijpnaaGreatDoor
