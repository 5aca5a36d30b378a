/- hall.free, hall.ranksOf, hall.Rado, hall.RadoBar, hall.Stand, hall.Bar. -/
import Derived.Test.YtjajloefplbkgaaHaEQ
import Derived.Test.YtjajloefplbkgaaEqQ
namespace Go.Proofs.Ytjajloefplbkgaa
open Go.RowKit

theorem full_bas (n : Nat) (hn : n ≤ 8) : Fam n [2 ^ n - 1] ∧ Bas [2 ^ n - 1] := by
  have h8 := lt256 hn (full_lt n)
  refine ⟨⟨by simp, fun s hs => ?_⟩, ⟨fun b hb => ?_, fun a ha b hb => ?_, fun a ha b hb x h1 h2 => ?_, by simp⟩⟩
  · rw [List.mem_singleton] at hs; subst hs; exact full_lt n
  · rw [List.mem_singleton] at hb; subst hb; exact h8
  · rw [List.mem_singleton] at ha hb; subst ha hb; rfl
  · rw [List.mem_singleton] at ha hb; subst ha hb; rw [h1] at h2; cases h2
theorem full_rk {n s : Nat} (hs : s < 2 ^ n) : rk [2 ^ n - 1] s = pop s := by
  unfold rk
  show max 0 (pop (s &&& (2 ^ n - 1))) = _
  rw [sub_and (full_sub hs)]
  omega
theorem Own.one1 (w : World) (b : Nat) {B : Nat} (h : B ≤ w.heap.size) : Own B (w.alloc (.cells #[.int .i64 b] 3)) (.slice (some ⟨w.heap.size, 0, none⟩) 1 1) [b] :=
  World.ownsRow_lit w #[.int .i64 b] 1 h (by unfold maxLen; omega) rfl
set_option maxRecDepth 20000 in
set_option maxHeartbeats 1600000 in
theorem free_any (n : Nat) (w : World) (hn : n ≤ 8) :
    Calls Try.prog 22 #[.int .i64 n] w fun e w' => ∃ g, e = .returned (.agg #[.int .i64 n, .slice (some ⟨g, 0, none⟩) 1 1]) ∧ Ints w' (.slice (some ⟨g, 0, none⟩) 1 1) (N [2 ^ n - 1]) ∧ Below w.heap.size w w' := by
  have WH := hid (fun w => wholeSet_any n w hn)
  generalize 2 ^ n - 1 = F at *
  have hX : ((w.alloc (.cells #[.int .i64 n, .slice (some ⟨w.heap.size + 1, 0, none⟩) 1 1] 44)).alloc (.cells #[.int .i64 F] 3)).heap[w.heap.size]? = some (.cells #[.int .i64 n, .slice (some ⟨w.heap.size + 1, 0, none⟩) 1 1] 44 (0, 0)) := by
    rw [Below.heap_alloc _ _ _ (by simp)]
    exact World.alloc_heap_new w _
  have hO := Own.one1 (w.alloc (.cells #[.int .i64 n, .slice (some ⟨w.heap.size + 1, 0, none⟩) 1 1] 44)) F (B := w.heap.size + 1) (by simp)
  rw [World.size_alloc] at hO
  have HI := hid (hO.ints (by simp))
  have HB : Hid (Below w.heap.size w ((w.alloc (.cells #[.int .i64 n, .slice (some ⟨w.heap.size + 1, 0, none⟩) 1 1] 44)).alloc (.cells #[.int .i64 F] 3))) := ((Below.refl _ _).alloc (Nat.le_refl _) _).alloc (by simp) _
  have HX := hid hX
  clear hX hO
  go_enter Try.func22, Try.ntmps22
  go_wp2_with fail
  refine (WH.out _).mono ?_
  rintro e w' ⟨rfl, hw'⟩
  obtain rfl := hw'.symm
  go_wp2_with fail
  obtain ⟨c0, c1, _, _⟩ := two_cells HX.out
  refine bodyPost_ret (v := .agg #[.int .i64 n, .slice (some ⟨w.heap.size + 1, 0, none⟩) 1 1]) ?_ rfl ⟨w.heap.size + 1, rfl, HI.out, HB.out⟩
  simp [results, Try.f22, go_sem, c0, c1]
/-- What is wrong with a matroid, or with a list of its sets. -/
def radE (n : Int) (zs ys : List Int) : Int := if chkR n zs = 0 then lisR n ys else chkR n zs
theorem ranksOf_ok (m : Nat) (v u : Value) (l : List Nat) (q : List Int) (w : World) (hm : m ≤ 8) (hf : Fam m l) (hb : Bas l) (hq : lisR m q = 0) (h : Ints w v (N l)) (hu : Ints w u q) :
    Calls Try.prog 32 #[.agg #[.int .i64 m, v], u] w fun e w' => ∃ r, e = .returned (.tuple #[r, .int .i64 0]) ∧ RkAt w' r (2 ^ m) (rk l) ∧ Below w.heap.size w w' := by
  have HB0 := hid (below_box w #[.int .i64 m, v])
  have R1 := hid (Ranks_ok m v l _ hm hf hb (h.below HB0.out))
  have HC := hid (fun w h => hcheck_any m u q w h)
  rw [hq] at HC
  have HU := hid (hu.below HB0.out)
  obtain ⟨a, cap, rfl, -, -⟩ := h.nats
  clear h hu
  go_enter Try.func32, Try.ntmps32
  go_wp2_with fail
  refine R1.out.mono ?_
  rintro e w1 ⟨r1, rfl, hr1, hb1⟩
  obtain ⟨x0, x1⟩ := box_cells hb1
  have HU1 := hid (HU.out.below hb1)
  have HB1 := hid (HB0.out.trans (hb1.mono HB0.out.size))
  have HR := hid hr1
  clear hb1 hr1
  go_wp2_with fail
  refine (HC.out _ HU1.out).mono ?_
  rintro e w' ⟨rfl, hw'⟩
  obtain rfl := hw'.symm
  go_wp2_with fail
  go_ret2
  exact ⟨_, rfl, HR.out, HB1.out⟩
theorem ranksOf_bad (n : Int) (v u : Value) (zs q : List Int) (w : World) (hq : radE n zs q ≠ 0) (h : Ints w v zs) (hu : Ints w u q) :
    Calls Try.prog 32 #[.agg #[.int .i64 n, v], u] w fun e w' => e = .returned (.tuple #[.slice none 0 0, .int .i64 (radE n zs q)]) ∧ Below w.heap.size w w' := by
  have HB0 := hid (below_box w #[.int .i64 n, v])
  have HU := hid (hu.below HB0.out)
  have HV := hid (h.below HB0.out)
  have HC := hid (fun w h => hcheck_any n u q w h)
  by_cases hc : chkR n zs = 0
  · obtain ⟨m, l, rfl, hm, rfl, hf, hb⟩ := chk_of hc
    have R1 := hid (Ranks_ok m v l _ hm hf hb HV.out)
    have E : Hid (radE m (N l) q = lisR m q) := by show _ = _; unfold radE; rw [if_pos hc]
    rw [E.out] at hq ⊢
    obtain ⟨a, cap, rfl, -, -⟩ := h.nats
    generalize lisR m q = Q at *
    clear h hu HV hc
    go_enter Try.func32, Try.ntmps32
    go_wp2_with fail
    refine R1.out.mono ?_
    rintro e w1 ⟨r1, rfl, hr1, hb1⟩
    obtain ⟨x0, x1⟩ := box_cells hb1
    have HU1 := hid (HU.out.below hb1)
    have HB1 := hid (HB0.out.trans (hb1.mono HB0.out.size))
    clear hb1 hr1
    go_wp2_with fail
    refine (HC.out _ HU1.out).mono ?_
    rintro e w' ⟨rfl, hw'⟩
    obtain rfl := hw'.symm
    go_wp2_with fail
    go_ret2
    exact ⟨rfl, HB1.out⟩
  · have R1 := hid (Ranks_bad n v zs _ HV.out hc)
    have E : Hid (radE n zs q = chkR n zs) := by show _ = _; unfold radE; rw [if_neg hc]
    rw [E.out] at hq ⊢
    obtain ⟨a, cap, rfl, -, -⟩ := h
    generalize chkR n zs = Q at *
    clear hu HV hc
    go_enter Try.func32, Try.ntmps32
    go_wp2_with fail
    refine R1.out.mono ?_
    rintro e w1 ⟨rfl, hb1⟩
    have HB1 := hid (HB0.out.trans (hb1.mono HB0.out.size))
    clear hb1
    go_wp2_with fail
    go_ret2
    exact ⟨rfl, HB1.out⟩
theorem rad_good {n : Int} {zs ys : List Int} (h : radE n zs ys = 0) : ∃ (m : Nat) (l q : List Nat), n = m ∧ m ≤ 8 ∧ zs = N l ∧ Fam m l ∧ Bas l ∧ ys = N q ∧ q.length ≤ 8 ∧ ∀ x ∈ q, x < 2 ^ m := by
  unfold radE at h
  by_cases hc : chkR n zs = 0
  · rw [if_pos hc] at h
    obtain ⟨m, l, rfl, hm, rfl, hf, hb⟩ := chk_of hc
    obtain ⟨m', q, e, _, rfl, hk, hl⟩ := lis_good h
    obtain rfl : m = m' := by omega
    exact ⟨m, l, q, rfl, hm, rfl, hf, hb, rfl, hk, hl⟩
  · rw [if_neg hc] at h
    exact absurd h hc
end Go.Proofs.Ytjajloefplbkgaa
