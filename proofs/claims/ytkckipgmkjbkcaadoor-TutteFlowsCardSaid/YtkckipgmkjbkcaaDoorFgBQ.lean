/- Powers; slices.ContainsFunc over numbers of whatever sign. -/
import Derived.Test.YtkckipgmkjbkcaaDoorSieveQ
namespace Go.Proofs.YtkckipgmkjbkcaaDoor
open Go.RowKit

theorem anyZ_drop {p : Int → Bool} {l : List Int} {k : Nat} (hk : k < l.length) : (l.drop k).any p = (p (l.getD k 0) || (l.drop (k + 1)).any p) := by
  conv => lhs; rw [List.drop_eq_getElem_cons hk, List.any_cons]
  simp [List.getD, hk]
/-- A function value that answers as p does at each of l, wherever nothing below B has turned. -/
def AnswersZ (B : Nat) (w : World) (g : Nat) (cs : Array Value) (l : List Int) (p : Int → Bool) : Prop :=
  ∀ x ∈ l, ∀ w1, Below B w w1 → B ≤ w1.heap.size → Calls Tryd.prog g (#[.int .i64 x] ++ cs) w1 fun e w2 => e = .returned (.bool (p x)) ∧ Below w1.heap.size w1 w2
set_option maxRecDepth 20000 in
set_option maxHeartbeats 800000 in
theorem IndexFuncZ_any (g : Nat) (cs : Array Value) (v : Value) (l : List Int) (p : Int → Bool) (w : World) (eg : Enters g) (h : Ints w v l) (hg : AnswersZ w.heap.size w g cs l p) :
    Calls Tryd.prog 16 #[v, .func (.func g) #[] cs] w fun e w' => ∃ r : Int, e = .returned (.int .i64 r) ∧ decide (0 ≤ r) = l.any p ∧ Below w.heap.size w w' := by
  obtain ⟨a, cap, rfl, hlen, hc⟩ := h
  have HG := hid hg
  clear hg
  unfold Enters at eg
  go_enter Tryd.func16, Tryd.ntmps16
  go_wp2_with fail
  go_loopw [8] (fun i wr => ∃ k : Nat, k ≤ l.length ∧ i = .int .i64 k ∧ Below w.heap.size w wr ∧ Hid (l.any p = (l.drop k).any p)) (fun i _ => l.length - (intOf i).toNat)
  case atStart => exact ⟨0, Nat.zero_le _, rfl, Below.refl _ _, rfl⟩
  case round =>
    obtain ⟨k, hk, rfl, hnx, R⟩ := hrel
    by_cases hlt : k < l.length
    · obtain ⟨b, off, rfl, hb, hcell⟩ := hc (by omega)
      have hck : wr.cell? ⟨b, off + k, none⟩ = some (.int .i64 (l.getD k 0)) := (hnx.cell (p := ⟨b, off + k, none⟩) hb).trans (hcell k hlt)
      have D := hid (anyZ_drop (p := p) hlt)
      have hmem : l.getD k 0 ∈ l := by simp [List.getD, hlt]
      have G := hid (HG.out _ hmem wr hnx hnx.size)
      clear hcell hc hmem
      generalize l.getD k 0 = x at *
      rcases hq : p x with _ | _
      · have HQ := hid hq
        clear hq
        go_wp2_with fail
        refine G.out.mono ?_
        rw [HQ.out]
        rintro e w1 ⟨rfl, hb1⟩
        go_wp2_with fail
        go_roundw
        case rel => exact ⟨k + 1, by omega, by go_num, hnx.trans (hb1.mono hnx.size), by show l.any p = _; rw [R.out, D.out, HQ.out]; rfl⟩
        case measure => simp [intOf]; omega
      · have HQ := hid hq
        clear hq
        go_wp2_with fail
        refine G.out.mono ?_
        rw [HQ.out]
        rintro e w1 ⟨rfl, hb1⟩
        go_wp2_with fail
        go_ret
        exact ⟨_, rfl, by rw [R.out, D.out, HQ.out]; simp, hnx.trans (hb1.mono hnx.size)⟩
    · go_wp2_with fail
      go_ret
      exact ⟨_, rfl, by rw [R.out, List.drop_of_length_le (by omega)]; simp, hnx⟩
theorem ContainsFuncZ_any (g : Nat) (cs : Array Value) (v : Value) (l : List Int) (p : Int → Bool) (w : World) (eg : Enters g) (h : Ints w v l) (hg : AnswersZ w.heap.size w g cs l p) :
    Calls Tryd.prog 8 #[v, .func (.func g) #[] cs] w fun e w' => e = .returned (.bool (l.any p)) ∧ Below w.heap.size w w' := by
  have HI := hid h
  obtain ⟨a, cap, hv, hlen, hc⟩ := h
  have HG := hid hg
  have HE := hid eg
  clear hg hc eg
  subst hv
  go_enter Tryd.func8, Tryd.ntmps8
  go_wp2_with fail
  refine (IndexFuncZ_any g cs _ l p _ HE.out HI.out HG.out).mono ?_
  rintro e w1 ⟨r, rfl, hr, hb1⟩
  have HR := hid hr
  clear hr
  go_wp2_with fail
  go_ret
  exact ⟨ret_bool HR.out, hb1⟩
theorem pow_le_3 {a k : Nat} (ha : a ≤ 3) (hk : k ≤ 8) : a ^ k ≤ 6561 := Nat.le_trans (Nat.pow_le_pow_left ha k) (Nat.le_trans (Nat.pow_le_pow_right (by decide) hk) (by decide))
set_option maxHeartbeats 800000 in
theorem Power_ok (a b : Nat) (w : World) (ha : a ≤ 3) (hb : b ≤ 8) :
    Calls Tryd.prog 7 #[.int .i64 a, .int .i64 b] w fun e w' => e = .returned (.int .i64 (a ^ b : Nat)) ∧ w' = w := by
  go_enter Tryd.func7, Tryd.ntmps7
  go_wp2_with fail
  go_loopw [5, 7] (fun z i W => ∃ k : Nat, k ≤ b ∧ z = .int .i64 (a ^ k : Nat) ∧ i = .int .i64 k ∧ W = w) (fun _ i _ => b - (intOf i).toNat)
  case atStart => exact ⟨0, by omega, by simp, rfl, rfl⟩
  case round =>
    obtain ⟨k, hk, rfl, rfl, rfl⟩ := hrel
    by_cases hlt : k < b
    · have hi : (k : Int) < (b : Int) := by omega
      have hp := pow_le_3 (a := a) (k := k + 1) ha (by omega)
      have hmk : b - (k + 1) < b - k := by omega
      have hmul : ((a ^ k : Nat) : Int) * (a : Int) = ((a ^ (k + 1) : Nat) : Int) := by rw [Nat.pow_succ, Int.natCast_mul]
      obtain ⟨z1, hz1⟩ : ∃ z1, a ^ (k + 1) = z1 := ⟨_, rfl⟩
      obtain ⟨z0, hz0⟩ : ∃ z0, a ^ k = z0 := ⟨_, rfl⟩
      rw [hz0, hz1] at hmul
      rw [hz0]
      rw [hz1] at hp
      have HZ := hid hz1
      have HLT := hid hlt
      have hw3 : IntKind.i64.wrap ((z0 : Int) * (a : Int)) = (z1 : Nat) := by rw [hmul]; exact IntWalk.i64_in _ (by omega)
      clear hz1 hz0 hlt
      go_wp2_with fail
      go_roundw
      case rel => exact ⟨k + 1, HLT.out, by rw [HZ.out], by go_num, trivial⟩
      case measure => exact hmk
    · obtain rfl : k = b := by omega
      have hn : ¬ (k : Int) < (k : Int) := by omega
      obtain ⟨z0, hz0⟩ : ∃ z0, a ^ k = z0 := ⟨_, rfl⟩
      have HZ := hid hz0
      rw [hz0]
      clear hz0
      go_wp2_with fail
      go_ret
      refine ⟨ret_int ?_, rfl⟩
      rw [← HZ.out]
      simp
end Go.Proofs.YtkckipgmkjbkcaaDoor
