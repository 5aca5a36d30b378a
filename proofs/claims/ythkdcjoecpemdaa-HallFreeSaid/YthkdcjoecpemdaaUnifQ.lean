/- kinds.Uniform. -/
import Derived.Test.YthkdcjoecpemdaaBlockQ
import Derived.Test.YthkdcjoecpemdaaWithoutQ
import Derived.Test.YthkdcjoecpemdaaPlainAll
namespace Go.Proofs.Ythkdcjoecpemdaa
open Go.RowKit

theorem Uniform_ok (n k : Nat) (w : World) (hn : n ≤ 8) (hk : k ≤ n) :
    Calls Try.prog 11 #[.int .i64 k, .int .i64 n] w (GivesO w n (uniL n k)) := by
  have HB0 := hid (below_boxR w #[.int .i64 0, .slice none 0 0])
  have HC := hid (Choose_good n k (w.alloc (.cells #[.int .i64 0, .slice none 0 0] 24)) hn hk)
  change Hid (Calls _ _ _ _ fun e w' => ∃ r, e = .returned (.tuple #[r, .int .i64 0]) ∧ Own _ w' r (uniL n k) ∧ _) at HC
  generalize uniL n k = L at *
  go_enter Try.func11, Try.ntmps11
  go_wp2_with fail
  refine HC.out.mono ?_
  rintro e w2 ⟨r, rfl, ho, hb2⟩
  have HX := hid (boxR hb2)
  have HB := hid (HB0.out.trans (hb2.mono HB0.out.size))
  obtain ⟨ra, rc, hr⟩ := ownsRow_form' ho
  subst hr
  have HCC := hid (set_two (x := .int .i64 n) (y := .slice ra L.length rc) HX.out.1)
  have HD := hid (below_two (b := w.heap.size) (x := .int .i64 n) (y := .slice ra L.length rc) HB.out (Nat.le_refl _))
  have HII := hid ((ho.set2 (b := w.heap.size) (x := .int .i64 n) (y := .slice ra L.length rc) (by simp)).mono HB0.out.size)
  obtain ⟨y2, y3, g2, g3⟩ := two_cells HX.out.1
  clear ho hb2
  go_wp2_with fail
  obtain ⟨c0, c1⟩ := HCC.out
  refine bodyPost_ret (v := .tuple #[.agg #[.int .i64 n, .slice ra L.length rc], .int .i64 0]) ?_ rfl ⟨_, rfl, HII.out, HD.out⟩
  simp [results, Try.f11, go_sem, c0, c1]
theorem Uniform_bad (n k : Int) (w : World) (h : ¬ (0 ≤ n ∧ n ≤ 8 ∧ 0 ≤ k ∧ k ≤ n)) :
    Calls Try.prog 11 #[.int .i64 k, .int .i64 n] w (BadM w 1) := by
  have HB0 := hid (below_boxR w #[.int .i64 0, .slice none 0 0])
  have HC := hid (Choose_bad n k (w.alloc (.cells #[.int .i64 0, .slice none 0 0] 24)) h)
  clear h
  go_enter Try.func11, Try.ntmps11
  go_wp2_with fail
  refine HC.out.mono ?_
  rintro e w2 ⟨rfl, hb2⟩
  have HX := hid (boxR hb2)
  have HB := hid (HB0.out.trans (hb2.mono HB0.out.size))
  have HCC := hid (set_two (x := .int .i64 0) (y := .slice none 0 0) HX.out.1)
  have HD := hid (below_two (b := w.heap.size) (x := .int .i64 0) (y := .slice none 0 0) HB.out (Nat.le_refl _))
  obtain ⟨y2, y3, g2, g3⟩ := two_cells HX.out.1
  clear hb2
  go_wp2_with fail
  obtain ⟨c0, c1⟩ := HCC.out
  refine bodyPost_ret (v := .tuple #[.agg #[.int .i64 0, .slice none 0 0], .int .i64 1]) ?_ rfl ⟨rfl, HD.out⟩
  simp [results, Try.f11, go_sem, c0, c1]
end Go.Proofs.Ythkdcjoecpemdaa
