/- slices.Index, slices.Contains. -/
import Derived.Test.YthbldeloocmakaaBinQ
namespace Go.Proofs.Ythbldeloocmakaa
open Go.RowKit

theorem drop_mem {zs : List Int} {t : Int} {k : Nat} (h : k < zs.length) : t ∈ zs.drop k ↔ t = zs.getD k 0 ∨ t ∈ zs.drop (k + 1) := by
  rw [drop_getD h, List.mem_cons]
set_option maxHeartbeats 800000 in
theorem IndexC_any (v : Value) (zs : List Int) (t : Int) (w : World) (h : Ints w v zs) :
    Calls Try.prog 85 #[v, .int .i64 t] w fun e w' => (∃ k : Int, e = .returned (.int .i64 k) ∧ (0 ≤ k ↔ t ∈ zs)) ∧ Below w.heap.size w w' := by
  obtain ⟨a, cap, rfl, hl, hc⟩ := h
  go_enter Try.func85, Try.ntmps85
  go_wp2_with fail
  go_loopw [8] (fun i wr => ∃ k : Nat, k ≤ zs.length ∧ i = .int .i64 k ∧ Below w.heap.size w wr ∧ Hid (t ∈ zs ↔ t ∈ zs.drop k)) (fun i _ => zs.length - (intOf i).toNat)
  case atStart => exact ⟨0, Nat.zero_le _, rfl, Below.refl _ _, Iff.rfl⟩
  case round =>
    obtain ⟨k, hk, rfl, hnx, R⟩ := hrel
    by_cases hlt : k < zs.length
    · obtain ⟨b, off, rfl, hb, hcell⟩ := hc (by omega)
      have hck : wr.cell? ⟨b, off + k, none⟩ = some (.int .i64 (zs.getD k 0)) := (hnx.cell (p := ⟨b, off + k, none⟩) hb).trans (hcell k hlt)
      have D := hid (drop_mem (t := t) hlt)
      have hki : (k : Int) < (zs.length : Int) := by omega
      clear hcell hc
      generalize zs.getD k 0 = x at *
      by_cases hxy : t = x
      · have hxy' : (t == x) = true := by rw [hxy]; simp
        have F : Hid (t ∈ zs) := R.out.2 (D.out.2 (.inl hxy))
        clear hxy
        go_wp2_with fail
        go_ret
        exact ⟨⟨_, rfl, by constructor <;> intro <;> first | exact F.out | omega⟩, hnx⟩
      · have hxy' : (t == x) = false := by rw [beq_eq_false_iff_ne]; exact hxy
        have HX := hid hxy
        go_wp2_with fail
        go_roundw
        case rel => exact ⟨k + 1, by omega, by go_num, hnx, by show _ ↔ _; rw [R.out, D.out]; simp [HX.out]⟩
        case measure => simp [intOf]; omega
    · have hz : zs.drop k = [] := List.drop_of_length_le (by omega)
      have F : Hid (¬ t ∈ zs) := by show ¬ _; rw [R.out, hz]; simp
      clear hz
      go_wp2_with fail
      go_ret
      exact ⟨⟨_, rfl, by constructor <;> intro h <;> first | omega | exact absurd h F.out⟩, hnx⟩
theorem ContainsC_any (v : Value) (zs : List Int) (t : Int) (w : World) (h : Ints w v zs) :
    Calls Try.prog 43 #[v, .int .i64 t] w fun e w' => e = .returned (.bool (decide (t ∈ zs))) ∧ Below w.heap.size w w' := by
  have HX := hid (IndexC_any v zs t w h)
  clear h
  go_enter Try.func43, Try.ntmps43
  go_wp2_with fail
  refine HX.out.mono ?_
  rintro e w1 ⟨⟨k, rfl, hk⟩, hb1⟩
  have HB := hid hb1
  have HK := hid hk
  clear hb1 hk
  go_wp2_with fail
  go_ret
  exact ⟨ret_bool (by rw [Bool.eq_iff_iff, decide_eq_true_eq, decide_eq_true_eq]; exact HK.out), HB.out⟩
end Go.Proofs.Ythbldeloocmakaa
