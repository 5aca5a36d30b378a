/- slices.IndexFunc and slices.ContainsFunc at []int, for whatever function answers as p does. -/
import Derived.Test.YtioaonmlnikbdaaRefQ
import Derived.Test.YtioaonmlnikbdaaSieveQ
namespace Go.Proofs.Ytioaonmlnikbdaa
open Go.RowKit

/-- A function value that answers as p does at each of l, wherever nothing below B has turned. -/
def AnswersOn (B : Nat) (w : World) (g : Nat) (cs : Array Value) (l : List Nat) (p : Nat → Bool) : Prop :=
  ∀ x ∈ l, ∀ w1, Below B w w1 → B ≤ w1.heap.size → Calls Try.prog g (#[.int .i64 (x : Nat)] ++ cs) w1 fun e w2 => e = .returned (.bool (p x)) ∧ Below w1.heap.size w1 w2

set_option maxRecDepth 20000 in
set_option maxHeartbeats 800000 in
theorem IndexFunc_any (g : Nat) (cs : Array Value) (v : Value) (l : List Nat) (p : Nat → Bool) (w : World) (eg : Enters g) (h : Ints w v (N l)) (hg : AnswersOn w.heap.size w g cs l p) :
    Calls Try.prog 27 #[v, .func (.func g) #[] cs] w fun e w' => ∃ r : Int, e = .returned (.int .i64 r) ∧ decide (0 ≤ r) = l.any p ∧ Below w.heap.size w w' := by
  obtain ⟨a, cap, rfl, hlen, hc⟩ := h.nats
  clear h
  have HG := hid hg
  clear hg
  unfold Enters at eg
  go_enter Try.func27, Try.ntmps27
  go_wp2_with fail
  go_loopw [8] (fun i wr => ∃ k : Nat, k ≤ l.length ∧ i = .int .i64 k ∧ Below w.heap.size w wr ∧ Hid (l.any p = (l.drop k).any p)) (fun i _ => l.length - (intOf i).toNat)
  case atStart => exact ⟨0, Nat.zero_le _, rfl, Below.refl _ _, rfl⟩
  case round =>
    obtain ⟨k, hk, rfl, hnx, R⟩ := hrel
    by_cases hlt : k < l.length
    · obtain ⟨b, off, rfl, hb, hcell⟩ := hc (by omega)
      have hck : wr.cell? ⟨b, off + k, none⟩ = some (.int .i64 (l.getD k 0 : Nat)) := (hnx.cell (p := ⟨b, off + k, none⟩) hb).trans (hcell k hlt)
      have D := hid (any_drop (p := p) hlt)
      have hmem : l.getD k 0 ∈ l := by simp [List.getD, hlt]
      have G := hid (HG.out _ hmem wr hnx hnx.size)
      clear hcell hc hmem
      generalize l.getD k 0 = x at *
      rcases hq : p x with _ | _
      · have HQ := hid hq
        clear hq
        go_wp2_with fail
        refine G.out.mono ?_
        rw [HQ.out]
        rintro e w1 ⟨rfl, hb1⟩
        go_wp2_with fail
        go_roundw
        case rel => exact ⟨k + 1, by omega, by go_num, hnx.trans (hb1.mono hnx.size), by show l.any p = _; rw [R.out, D.out, HQ.out]; rfl⟩
        case measure => simp [intOf]; omega
      · have HQ := hid hq
        clear hq
        go_wp2_with fail
        refine G.out.mono ?_
        rw [HQ.out]
        rintro e w1 ⟨rfl, hb1⟩
        go_wp2_with fail
        go_ret
        exact ⟨_, rfl, by rw [R.out, D.out, HQ.out]; simp, hnx.trans (hb1.mono hnx.size)⟩
    · go_wp2_with fail
      go_ret
      exact ⟨_, rfl, by rw [R.out, List.drop_of_length_le (by omega)]; simp, hnx⟩

theorem ContainsFunc_any (g : Nat) (cs : Array Value) (v : Value) (l : List Nat) (p : Nat → Bool) (w : World) (eg : Enters g) (h : Ints w v (N l)) (hg : AnswersOn w.heap.size w g cs l p) :
    Calls Try.prog 11 #[v, .func (.func g) #[] cs] w fun e w' => e = .returned (.bool (l.any p)) ∧ Below w.heap.size w w' := by
  obtain ⟨a, cap, hv, hlen, hc⟩ := h.nats
  have HG := hid hg
  have HI := hid h
  have HE := hid eg
  clear hg h hc eg
  subst hv
  go_enter Try.func11, Try.ntmps11
  go_wp2_with fail
  refine (IndexFunc_any g cs _ l p _ HE.out HI.out HG.out).mono ?_
  rintro e w1 ⟨r, rfl, hr, hb1⟩
  have HR := hid hr
  clear hr
  go_wp2_with fail
  go_ret
  exact ⟨ret_bool HR.out, hb1⟩
end Go.Proofs.Ytioaonmlnikbdaa
