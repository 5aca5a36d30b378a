/- Contracts of rotaref.Shadow and of its closure. -/
import Derived.Test.YtkebhhpfnalbfabThoseQ
import Derived.Test.YtkebhhpfnalbfabPlainAll
namespace Go.Proofs.Ytkebhhpfnalbfab
open Go.RowKit

theorem range_any_step {n k : Nat} {p : Nat → Bool} (h : k < n) : ((List.range n).drop k).any p = (p k || ((List.range n).drop (k + 1)).any p) := by
  rw [any_drop (by simpa using h)]
  simp [List.getD, h]
theorem range_any_done {n k : Nat} {p : Nat → Bool} (h : n ≤ k) : ((List.range n).drop k).any p = false := by
  rw [List.drop_of_length_le (by simpa using h)]; rfl

set_option maxHeartbeats 1600000 in
set_option maxRecDepth 100000 in
theorem Shadow1_any (n s bn bx : Nat) (v : Value) (l : List Nat) (w : World) (hn : n ≤ 8) (hs : s < 256) (hbn : w.cell? ⟨bn, 0, none⟩ = some (.int .i64 n)) (hbx : w.cell? ⟨bx, 0, none⟩ = some v) (h : Ints w v (N l)) :
    Calls Try.prog 74 #[.int .i64 s, .pointer (some ⟨bn, 0, none⟩), .pointer (some ⟨bx, 0, none⟩)] w fun e w' => e = .returned (.bool (shadK n l s)) ∧ Below w.heap.size w w' := by
  obtain ⟨a, cap, hv, -⟩ := h.nats
  have HI := hid h
  clear h
  subst hv
  have qn := World.block_lt_of_cell? w _ hbn
  have qx := World.block_lt_of_cell? w _ hbx
  have Hn := hid hbn
  have Hx := hid hbx
  have Qn := hid qn
  have Qx := hid qx
  clear qn qx
  go_enter Try.func74, Try.ntmps74
  go_wp2_with fail
  clear hbn hbx
  go_loopw [5] (fun i wr => ∃ k : Nat, k ≤ n ∧ i = .int .i64 k ∧ Below w.heap.size w wr ∧ Hid (shadK n l s = ((List.range n).drop k).any fun i => !s.testBit i && memB (s + 2 ^ i) l)) (fun i _ => n - (intOf i).toNat)
  case atStart => exact ⟨0, Nat.zero_le _, rfl, Below.refl _ _, rfl⟩
  case round =>
    obtain ⟨k, hk, rfl, hnx, R⟩ := hrel
    have hbn : wr.cell? ⟨bn, 0, none⟩ = some (.int .i64 n) := (hnx.cell (p := ⟨bn, 0, none⟩) Qn.out).trans Hn.out
    have hbx : wr.cell? ⟨bx, 0, none⟩ = some (.slice a l.length cap) := (hnx.cell (p := ⟨bx, 0, none⟩) Qx.out).trans Hx.out
    by_cases hlt : k < n
    · have D := hid (range_any_step (p := fun i => !s.testBit i && memB (s + 2 ^ i) l) hlt)
      have hk8 : k < 8 := by omega
      rcases hq : s.testBit k with _ | _
      · obtain ⟨T, hT, HT, hT2⟩ : ∃ T : Nat, wrap64 (2 ^ k) = (T : Int) ∧ Hid (T = 2 ^ k) ∧ T ≤ 256 := ⟨2 ^ k, (pow_wrap _ (by omega)).1, rfl, (pow_wrap _ (by omega)).2⟩
        have hadd : IntKind.i64.wrap ((s : Int) + (T : Int)) = ((s + T : Nat) : Int) := wrap_i64_nat (s + T) (by omega)
        have hadd2 : wrap64 ((s : Int) + (T : Int)) = ((s + T : Nat) : Int) := by unfold wrap64; omega
        have hadd3 : (s : Int) + (T : Int) = ((s + T : Nat) : Int) := by omega
        have HIn : Hid (∀ w, Calls Try.prog 31 #[.int .i64 s, .int .i64 k] w fun e w' => e = .returned (.bool false) ∧ w' = w) := fun w => by
          have := In_any s k w hs hk8
          rw [hq] at this; exact this
        have HHas : Hid (∀ j, Calls Try.prog 75 #[.slice a l.length cap, .int .i64 ((s : Int) + (T : Int))] (wr.drewN j) fun e w' => e = .returned (.bool (memB (s + T) l)) ∧ w' = wr.drewN j) := fun j => by
          rw [hadd3]
          exact Has_any _ l (s + T) _ (HI.out.below (below_drewN hnx j))
        rcases hm : memB (s + T) l with _ | _
        · have F : Hid ((!s.testBit k && memB (s + 2 ^ k) l) = false) := by show (!s.testBit k && memB (s + 2 ^ k) l) = false; rw [← HT.out, hm]; simp
          rw [hm] at HHas
          clear hq hm hadd3
          go_wp2_with fail
          go_quiet (first | (go_at_call 31; exact Calls.quiet_of_same (HIn.out _)) | (go_at_call 75; exact Calls.quiet_of_same (HHas.out _)))
          go_wp2_with fail
          go_roundw
          case rel => exact ⟨k + 1, by omega, by go_num, below_drewN hnx _, by show shadK n l s = _; rw [R.out, D.out, F.out]; rfl⟩
          case measure => simp [intOf]; omega
        · have F : Hid ((!s.testBit k && memB (s + 2 ^ k) l) = true) := by show (!s.testBit k && memB (s + 2 ^ k) l) = true; rw [← HT.out, hm, hq]; rfl
          rw [hm] at HHas
          clear hq hm hadd3
          go_wp2_with fail
          go_quiet (first | (go_at_call 31; exact Calls.quiet_of_same (HIn.out _)) | (go_at_call 75; exact Calls.quiet_of_same (HHas.out _)))
          go_wp2_with fail
          go_ret
          exact ⟨ret_bool (by rw [R.out, D.out, F.out]; rfl), below_drewN hnx _⟩
      · have HIn : Hid (∀ w, Calls Try.prog 31 #[.int .i64 s, .int .i64 k] w fun e w' => e = .returned (.bool true) ∧ w' = w) := fun w => by
          have := In_any s k w hs hk8
          rw [hq] at this; exact this
        have F : Hid ((!s.testBit k && memB (s + 2 ^ k) l) = false) := by show (!s.testBit k && memB (s + 2 ^ k) l) = false; rw [hq]; rfl
        clear hq
        go_wp2_with fail
        go_quiet ((go_at_call 31; exact Calls.quiet_of_same (HIn.out _)))
        go_wp2_with fail
        go_roundw
        case rel => exact ⟨k + 1, by omega, by go_num, below_drewN hnx _, by show shadK n l s = _; rw [R.out, D.out, F.out]; rfl⟩
        case measure => simp [intOf]; omega
    · go_wp2_with fail
      go_ret
      exact ⟨ret_bool (by rw [R.out, range_any_done (by omega)]), hnx⟩

theorem Shadow_ref (n : Nat) (v : Value) (l : List Nat) (w : World) (hn : n ≤ 8) (h : Ints w v (N l)) :
    Calls Try.prog 47 #[.int .i64 n, v] w fun e w' => ∃ r, e = .returned r ∧ Own w.heap.size w' r ((List.range (2 ^ n)).filter (shadK n l)) ∧ Below w.heap.size w w' := by
  have hmf : ∀ (fn : Fn) (first cap : Array Value) (w : World), (Instr.makeFunc fn first cap).run Try.prog w = .ok (.func fn first cap) w := fun _ _ _ _ => rfl
  obtain ⟨a, cap, hv, -⟩ := h.nats
  have HI := hid h
  clear h
  subst hv
  have hcn : ((w.alloc (.cells #[.int .i64 n] 3)).alloc (.cells #[.slice a l.length cap] 22)).cell? ⟨w.heap.size, 0, none⟩ = some (.int .i64 n) := by
    rw [World.cell?_alloc_past _ _ _ (by simp), World.cell?_alloc_at _ _ _ _ rfl]; rfl
  have hcx : ((w.alloc (.cells #[.int .i64 n] 3)).alloc (.cells #[.slice a l.length cap] 22)).cell? ⟨w.heap.size + 1, 0, none⟩ = some (.slice a l.length cap) := by
    rw [World.cell?_alloc_at _ _ _ _ (by simp)]; rfl
  have b2 : Below w.heap.size w ((w.alloc (.cells #[.int .i64 n] 3)).alloc (.cells #[.slice a l.length cap] 22)) := ((Below.refl _ _).alloc (Nat.le_refl _) _).alloc (by simp) _
  have C1 := hid hcn
  have C2 := hid hcx
  clear hcn hcx
  go_enter Try.func47, Try.ntmps47
  go_wp2_with fail
  refine (Those_any n 74 #[.pointer (some ⟨w.heap.size, 0, none⟩), .pointer (some ⟨w.heap.size + 1, 0, none⟩)] (shadK n l) ((w.alloc (.cells #[.int .i64 n] 3)).alloc (.cells #[.slice a l.length cap] 22)) hn Try.call74 ?_).mono ?_
  · intro x hx w1 hb1 _
    refine Shadow1_any n x w.heap.size (w.heap.size + 1) _ l w1 hn ?_ ((hb1.cell (p := ⟨w.heap.size, 0, none⟩) (by simp; omega)).trans C1.out) ((hb1.cell (p := ⟨w.heap.size + 1, 0, none⟩) (by simp)).trans C2.out) ((HI.out.below b2).below hb1)
    have := (pow_wrap n hn).2; omega
  · rintro e w2 ⟨r, rfl, ho, hb⟩
    have R1 := hid (ho.mono (B' := w.heap.size) (by simp; omega))
    have R2 := hid (b2.trans (hb.mono (by simp; omega)))
    clear ho hb
    go_wp2_with fail
    go_ret
    exact ⟨_, rfl, R1.out, R2.out⟩

end Go.Proofs.Ytkebhhpfnalbfab
