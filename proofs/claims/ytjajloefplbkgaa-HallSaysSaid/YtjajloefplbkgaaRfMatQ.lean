/- rotaref.Matching. -/
import Derived.Test.YtjajloefplbkgaaRfSevQ
import Derived.Test.YtjajloefplbkgaaRefAxCQ
namespace Go.Proofs.Ytjajloefplbkgaa
open Go.RowKit

set_option maxRecDepth 20000 in
set_option maxHeartbeats 2000000 in
theorem Matching_any (v : Value) (l : List Nat) (w : World) (hk : l.length ≤ 8) (hl : ∀ x ∈ l, x < 256) (h : Ints w v (N l)) :
    Calls Try.prog 16 #[v] w fun e w' => e = .returned (.int .i64 (mostB l : Nat)) ∧ Below w.heap.size w w' := by
  have HI := hid h
  obtain ⟨a, cap, rfl, -, -⟩ := h.nats
  have SV := hid (fun s w hs hi => Several_any s (.slice a l.length cap) l w hs hk hl hi)
  have AL := hid (fun w => All_nat l.length w hk)
  have HORE := hid (ore hk)
  have HP : 2 ^ l.length ≤ 256 := Nat.pow_le_pow_right (by decide) (by omega : l.length ≤ 8)
  have HP0 : 0 < 2 ^ l.length := Nat.two_pow_pos _
  have WGE := hid (wor_ge l)
  have WLE := hid (fun k hk => wor_le (l := l) k hk)
  have WST : Hid (∀ k, worF l (k + 1) = max (worF l k) ((pop k : Int) - pop (sevL l k))) := fun k => rfl
  have W0 : Hid (worF l 0 = 0) := rfl
  have FLT : Hid (∀ s, sevL l s < 256) := sev_lt (n := 8) hl
  clear h hl
  generalize mostB l = M at *
  generalize worF l = wf at *
  generalize sevL l = f at *
  generalize 2 ^ l.length = P at *
  go_enter Try.func16, Try.ntmps16
  go_wp2_with fail
  go_loopw [3, 4] (fun x i wr => ∃ k : Nat, k ≤ P ∧ i = .int .i64 k ∧ x = .int .i64 ((l.length : Int) - wf k) ∧ Hid (Below w.heap.size w wr)) (fun _ i _ => P - (intOf i).toNat)
  case atStart => exact ⟨0, Nat.zero_le _, rfl, by rw [W0.out]; go_num, Below.refl _ _⟩
  case round =>
    obtain ⟨k, hk2, rfl, rfl, BW⟩ := hrel
    go_wp2_with fail
    refine (AL.out _).mono ?_
    rintro e w' ⟨rfl, hw'⟩
    obtain rfl := hw'.symm
    by_cases hlt : k < P
    · have hki : (k : Int) ≤ ((P - 1 : Nat) : Int) := by omega
      have ST := hid (WST.out k)
      have q1 := WGE.out k
      have q2 := WLE.out k (by omega)
      have q3 := FLT.out k
      have p1 := pop_le_8 k (by omega)
      have p2 := pop_le_8 _ q3
      have S1 := hid (fun w => Size_any k w (by omega))
      have S2 := hid (fun w => Size_any (f k) w q3)
      have IW := hid (HI.out.below BW.out)
      have hmeas : P - (k + 1) < P - k := by omega
      obtain ⟨y, HY⟩ : ∃ y, Hid (f k = y) := ⟨f k, Eq.refl (f k)⟩
      rw [HY.out] at ST q3 p2 S2
      generalize wf k = z at *
      obtain ⟨bst, HBS⟩ : ∃ bst, Hid ((l.length : Int) - z = bst) := ⟨_, Eq.refl _⟩
      have hbs : -8 ≤ bst ∧ bst ≤ 8 := by rw [← HBS.out]; omega
      rw [HBS.out]
      go_wp2_with fail
      refine (S1.out _).mono ?_
      rintro e w3 ⟨rfl, hb3⟩
      have B3 := hid (BW.out.trans (hb3.mono BW.out.size))
      have I3 := hid (IW.out.below hb3)
      clear hb3
      go_wp2_with fail
      refine (SV.out k _ (by omega) I3.out).mono ?_
      rintro e w' ⟨rfl, hw'⟩
      obtain rfl := hw'.symm
      rw [HY.out]
      go_wp2_with fail
      refine (S2.out _).mono ?_
      rintro e w4 ⟨rfl, hb4⟩
      have B4 := hid (B3.out.trans (hb4.mono B3.out.size))
      clear hb4
      go_wp2_with fail
      exact ⟨⟨k + 1, by omega, by go_num, by rw [ST.out, ← HBS.out]; congr 1; split <;> omega, B4⟩, by simpa [intOf] using hmeas⟩
    · obtain rfl : k = P := by omega
      have hki : ¬ (k : Int) ≤ ((k - 1 : Nat) : Int) := by omega
      rw [← HORE.out]
      go_wp2_with fail
      go_ret
      exact ⟨rfl, BW.out⟩
end Go.Proofs.Ytjajloefplbkgaa
