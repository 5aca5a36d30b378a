/- The walk of the law SetsBack. -/
import Derived.Test.YtgojjmfkominfaaDoorWrite
import Derived.Test.YtgojjmfkominfaaDoorRead
import Derived.Deep.CutRange
namespace Go.Proofs.YtgojjmfkominfaaDoor
open Go.RowKit

theorem text5 : setText 5 = ⟨#[48, 32, 50]⟩ := by decide +kernel
theorem text_size : ∀ s : Nat, s < 256 → (setText s).size ≤ 15 := by decide +kernel

set_option maxHeartbeats 3200000 in
set_option maxRecDepth 100000 in
theorem back_law (s : Int) (t : ByteArray) (ht : t.size ≤ 140737488351232) (w : World) (hw : Tabbed w) :
    Calls Tryd.prog 5 #[.int .i64 s, .string t] w fun e w' => e = .returned (.bool true) ∧ Below w.heap.size w w' := by
  have HW := hid hw
  clear hw
  have W5 : Hid (∀ w, Tabbed w → Calls Tryd.prog 12 #[.int .i64 5] w fun e w' => e = .returned (.tuple #[.string ⟨#[48, 32, 50]⟩, .int .i64 0]) ∧ Below w.heap.size w w') := fun w hw => text5 ▸ Write_good 5 w hw (by omega)
  go_enter Tryd.func5, Tryd.ntmps5
  go_wp2_with fail
  refine (W5.out _ HW.out).mono ?_
  rintro e w1 ⟨rfl, b1⟩
  clear W5
  go_wp2_with fail
  refine (Read_any t _ ht).mono ?_
  rintro e w2 ⟨rfl, hb2⟩
  have b2 := b1.trans (hb2.mono b1.size)
  clear b1 hb2
  go_upto_if 32 with fail
  have b3 : Below w.heap.size w (w2.alloc (.cells #[.int .i64 (rdT t).2.1, .int .i64 (rdT t).2.2] 33)) := b2.alloc b2.size _
  go_cut [7, 9, 10] from 25 to 44 (fun _ _ _ w3 => Below w.heap.size w w3)
  case first =>
    by_cases hc : (rdT t).2.1 = 0
    · obtain ⟨a, h1, h2, h3⟩ := read_back hc
      have hc' : ((rdT t).2.1 == 0) = true := by rw [hc]; rfl
      have WA : Hid (∀ w, Tabbed w → Calls Tryd.prog 12 #[.int .i64 (rdT t).1] w fun e w' => e = .returned (.tuple #[.string t, .int .i64 0]) ∧ Below w.heap.size w w') := fun w hw => by
        have := Write_good a w hw h2
        rw [show setText a = t from h3] at this
        rw [h1]; exact this
      have TB := hid (HW.out.below b3)
      clear hc h1 h2 h3
      go_wp2_with fail
      refine (WA.out _ TB.out).mono ?_
      rintro e w4 ⟨rfl, hb4⟩
      have b4 := b3.trans (hb4.mono b3.size)
      clear hb4
      go_wp2_with fail
      go_meet
      exact b4
    · have hc' : ((rdT t).2.1 == 0) = false := by rw [beq_eq_false_iff_ne]; exact hc
      clear hc
      go_wp2_with fail
      go_meet
      exact b3
  case rest =>
  clear b3 b2
  have b3 := hcut
  clear hcut
  by_cases hs : 0 ≤ s ∧ s ≤ 255
  · obtain ⟨x, rfl⟩ := Int.eq_ofNat_of_zero_le hs.1
    have hx : x < 256 := by omega
    have RB : Hid (∀ w, Calls Tryd.prog 14 #[.string (setText x)] w fun e w' => e = .returned (.tuple #[.int .i64 x, .agg #[.int .i64 0, .int .i64 0]]) ∧ Below w.heap.size w w') := fun w => by
      have := Read_any (setText x) w (by have := text_size x hx; omega)
      rw [show rdT (setText x) = ((x : Int), 0, 0) from write_read x hx] at this
      exact this
    have hxx : ((x : Int) == (x : Int)) = true := by simp
    clear hs
    go_wp2_with fail
    refine (Write_good x _ (HW.out.below b3) hx).mono ?_
    rintro e w4 ⟨rfl, hb4⟩
    have b4 := b3.trans (hb4.mono b3.size)
    clear hb4 b3
    go_wp2_with fail
    refine (RB.out _).mono ?_
    rintro e w5 ⟨rfl, hb5⟩
    have b5 := b4.trans (hb5.mono b4.size)
    clear hb5 b4
    go_wp2_with fail
    go_ret
    exact ⟨rfl, b5.alloc b5.size _⟩
  · go_wp2_with fail
    refine (Write_bad s _ (by omega)).mono ?_
    rintro e w4 ⟨rfl, rfl⟩
    go_wp2_with fail
    go_ret
    exact ⟨rfl, b3⟩
end Go.Proofs.YtgojjmfkominfaaDoor
