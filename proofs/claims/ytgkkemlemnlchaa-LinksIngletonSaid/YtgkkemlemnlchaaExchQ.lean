/- axioms.areOfOneSize. -/
import Derived.Deep.QuietTactic
import Derived.BigQuiet
import Derived.Test.YtgkkemlemnlchaaGiveQ
namespace Go.Proofs.Ytgkkemlemnlchaa
open Go.RowKit

/-- Are all of one size? -/
def oneB (l : List Nat) : Bool := l.all fun s => pop s == pop (l.getD 0 0)
set_option maxHeartbeats 1000000 in
theorem areOne_any (v : Value) (l : List Nat) (w : World) (hl : ∀ s ∈ l, s < 256) (h : Ints w v (N l)) :
    Calls Try.prog 29 #[v] w fun e w' => e = .returned (.bool (oneB l)) ∧ Below w.heap.size w w' := by
  obtain ⟨a, cap, rfl, hlen, hc⟩ := h.nats
  clear h
  unfold oneB
  generalize hp : (fun s => pop s == pop (l.getD 0 0)) = p
  have HP := hid hp
  clear hp
  go_enter Try.func29, Try.ntmps29
  go_wp2_with fail
  go_loopw [7] (fun i wr => ∃ k : Nat, k ≤ l.length ∧ i = .int .i64 k ∧ Hid (l.all p = (l.drop k).all p) ∧ Below w.heap.size w wr) (fun i _ => l.length - (intOf i).toNat)
  case atStart => exact ⟨0, Nat.zero_le _, rfl, rfl, Below.refl _ _⟩
  case round =>
    obtain ⟨k, hk, rfl, R, hnx⟩ := hrel
    by_cases hlt : k < l.length
    · obtain ⟨b, off, rfl, hb, hcell⟩ := hc (by omega)
      have hck : wr.cell? ⟨b, off + k, none⟩ = some (.int .i64 (l.getD k 0 : Nat)) := (hnx.cell (p := ⟨b, off + k, none⟩) hb).trans (hcell k hlt)
      have hc0 : wr.cell? ⟨b, off, none⟩ = some (.int .i64 (l.getD 0 0 : Nat)) := (hnx.cell (p := ⟨b, off, none⟩) hb).trans (hcell 0 (by omega))
      have D := hid (all_drop (p := p) hlt)
      have hx := getD_lt hl k
      have h0 := getD_lt hl 0
      have PX : Hid (p (l.getD k 0) = (pop (l.getD k 0) == pop (l.getD 0 0))) := by show _ = _; rw [← HP.out]
      clear hcell hc HP
      generalize l.getD k 0 = x at hck D hx PX
      generalize l.getD 0 0 = z at *
      have hpx := pop_le x hx
      have hpz := pop_le z h0
      by_cases h1 : pop x = pop z
      · have h1' : (((pop x : Nat) : Int) == ((pop z : Nat) : Int)) = true := by rw [h1]; simp
        have H1 := hid h1
        clear h1
        go_wp2_with fail
        go_quiet ((go_at_call 16; refine (size_any _ _ (by assumption)).mono ?_; rintro e w' ⟨rfl, rfl⟩; exact ⟨rfl, _, rfl⟩))
        go_wp2_with fail
        go_roundw
        case rel => exact ⟨k + 1, by omega, by go_num, by show l.all p = _; rw [R.out, D.out, PX.out, H1.out]; simp, hnx.trans (drewN_below _ _ _)⟩
        case measure => simp [intOf]; omega
      · have h1' : (((pop x : Nat) : Int) == ((pop z : Nat) : Int)) = false := by rw [beq_eq_false_iff_ne]; omega
        have H1 := hid h1
        clear h1
        go_wp2_with fail
        go_quiet ((go_at_call 16; refine (size_any _ _ (by assumption)).mono ?_; rintro e w' ⟨rfl, rfl⟩; exact ⟨rfl, _, rfl⟩))
        go_wp2_with fail
        go_ret
        exact ⟨ret_bool (by rw [R.out, D.out, PX.out]; simp [H1.out]), hnx.trans (drewN_below _ _ _)⟩
    · go_wp2_with fail
      go_ret
      exact ⟨ret_bool (by rw [R.out, List.drop_of_length_le (by omega)]; rfl), hnx⟩
end Go.Proofs.Ytgkkemlemnlchaa
