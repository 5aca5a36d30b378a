/- greedy.Ladder and greedy.Fundamental where something is wrong. -/
import Derived.Test.YtimciginbiobmaaGrLQ
import Derived.Test.YtimciginbiobmaaGrSQ
namespace Go.Proofs.Ytimciginbiobmaa
open Go.RowKit

set_option maxRecDepth 20000 in
set_option maxHeartbeats 2000000 in
theorem Ladder_bad (m a b : Int) (v : Value) (zs : List Int) (w : World) (h : Ints w v zs) (hc : cbR m zs [a, b] ≠ 0) :
    Calls Try.prog 40 #[.agg #[.int .i64 m, v], .int .i64 a, .int .i64 b] w fun e w' => e = .returned (.tuple #[.slice none 0 0, .int .i64 (cbR m zs [a, b])]) ∧ Below w.heap.size w w' := by
  obtain ⟨b1, b2, b3, b4, b5⟩ := boxL_is w m a b v
  have HC := hid (checkBases_any m v zs _ [a, b] _ (h.below b1) b5)
  have HB := hid b1
  obtain ⟨sa, scap, rfl, _, _⟩ := h
  have hne : (cbR m zs [a, b] != 0) = true := by simp [hc]
  generalize cbR m zs [a, b] = q at *
  clear b1 b2 b3 b4 b5 hc
  refine (callsIn_wide (n := 6)).1 ?_
  refine callsIn_of_wp_marks Try.func40 rfl trivial ?_ rfl
  simp only [Try.ntmps40, List.size_toArray, List.length_cons, List.length_nil, Nat.reduceAdd, Nat.reduceSub, Array.replicate_succ, Array.replicate_zero, List.push_toArray, List.append_toArray, List.nil_append, List.cons_append]
  gi_wp2
  refine ⟨trivial, (callsIn_wide.2 HC.out).mono ?_⟩
  rintro e w1 ⟨rfl, hb1⟩
  have HB1 := hid (HB.out.trans (hb1.mono HB.out.size))
  clear hb1
  gi_wp2
  exact ⟨_, results_tmp2 rfl _ _ _, rfl, HB1.out⟩
/-- The world when Fundamental's parameters are laid. -/
def boxF (w : World) (m b i : Int) (v : Value) : World := (((w.alloc (.cells #[.int .i64 m, v] 34)).alloc (.cells #[.int .i64 b] 3)).alloc (.cells #[.int .i64 i] 3)).alloc (.cells #[.int .i64 b] 3)
theorem boxF_is (w : World) (m b i : Int) (v : Value) : Below w.heap.size w (boxF w m b i v) ∧ (boxF w m b i v).heap.size = w.heap.size + 4 ∧ (boxF w m b i v).cell? ⟨w.heap.size, 0, none⟩ = some (.int .i64 m) ∧ (boxF w m b i v).cell? ⟨w.heap.size, 1, none⟩ = some v ∧ (boxF w m b i v).cell? ⟨w.heap.size + 1, 0, none⟩ = some (.int .i64 b) ∧ (boxF w m b i v).cell? ⟨w.heap.size + 1 + 1, 0, none⟩ = some (.int .i64 i) ∧ Ints (boxF w m b i v) (.slice (some ⟨w.heap.size + 1 + 1 + 1, 0, none⟩) 1 1) [b] := by
  have c0 := two_cells (World.alloc_heap_new w (.cells #[.int .i64 m, v] 34))
  have c1 := cellN (w.alloc (.cells #[.int .i64 m, v] 34)) (.int .i64 b) 3
  have c2 := cellN ((w.alloc (.cells #[.int .i64 m, v] 34)).alloc (.cells #[.int .i64 b] 3)) (.int .i64 i) 3
  have L := Ints.lit1 (((w.alloc (.cells #[.int .i64 m, v] 34)).alloc (.cells #[.int .i64 b] 3)).alloc (.cells #[.int .i64 i] 3)) b
  simp only [World.size_alloc] at c1 c2 L
  unfold boxF
  exact ⟨((((Below.refl _ w).alloc (Nat.le_refl _) _).alloc (by simp) _).alloc (by simp; omega) _).alloc (by simp; omega) _, by simp, cellA _ (cellA _ (cellA _ c0.1)), cellA _ (cellA _ (cellA _ c0.2.1)), cellA _ (cellA _ c1.1), cellA _ c2.1, L⟩
set_option maxRecDepth 20000 in
set_option maxHeartbeats 2000000 in
theorem Fund_bad (m b i : Int) (v : Value) (zs : List Int) (w : World) (h : Ints w v zs) (hc : cbR m zs [b] ≠ 0) :
    Calls Try.prog 41 #[.agg #[.int .i64 m, v], .int .i64 b, .int .i64 i] w fun e w' => e = .returned (.tuple #[.int .i64 0, .int .i64 (cbR m zs [b])]) ∧ Below w.heap.size w w' := by
  obtain ⟨b1, b2, b3, b3', b4, b5, b6⟩ := boxF_is w m b i v
  have HC := hid (checkBases_any m v zs _ [b] _ (h.below b1) b6)
  have HB := hid b1
  obtain ⟨sa, scap, rfl, _, _⟩ := h
  have hne : (cbR m zs [b] != 0) = true := by simp [hc]
  generalize cbR m zs [b] = q at *
  clear b1 b2 b3 b3' b4 b5 b6 hc
  refine (callsIn_wide (n := 6)).1 ?_
  refine callsIn_of_wp_marks Try.func41 rfl trivial ?_ rfl
  simp only [Try.ntmps41, List.size_toArray, List.length_cons, List.length_nil, Nat.reduceAdd, Nat.reduceSub, Array.replicate_succ, Array.replicate_zero, List.push_toArray, List.append_toArray, List.nil_append, List.cons_append]
  gi_wp2
  refine ⟨trivial, (callsIn_wide.2 HC.out).mono ?_⟩
  rintro e w1 ⟨rfl, hb1⟩
  have HB1 := hid (HB.out.trans (hb1.mono HB.out.size))
  clear hb1
  gi_wp2
  exact ⟨_, results_tmp2 rfl _ _ _, rfl, HB1.out⟩
/-- Is i an element that b has not? -/
def outB (m b : Nat) (i : Int) : Bool := decide (0 ≤ i) && decide (i < (m : Int)) && !b.testBit i.toNat
set_option maxRecDepth 20000 in
set_option maxHeartbeats 2000000 in
theorem Fund_shape (m b : Nat) (i : Int) (v : Value) (zs : List Int) (w : World) (h : Ints w v zs) (hm : m ≤ 8) (hb8 : b < 256) (hc : cbR m zs [(b : Int)] = 0) (ho : outB m b i = false) :
    Calls Try.prog 41 #[.agg #[.int .i64 m, v], .int .i64 b, .int .i64 i] w fun e w' => e = .returned (.tuple #[.int .i64 0, .int .i64 3]) ∧ Below w.heap.size w w' := by
  obtain ⟨b1, b2, b3, b3', b4, b5, b6⟩ := boxF_is w m b i v
  have HC := hid (checkBases_any m v zs _ [(b : Int)] _ (h.below b1) b6)
  rw [hc] at HC
  have HB := hid b1
  obtain ⟨sa, scap, rfl, _, _⟩ := h
  clear hc
  refine (callsIn_wide (n := 6)).1 ?_
  refine callsIn_of_wp_marks Try.func41 rfl trivial ?_ rfl
  simp only [Try.ntmps41, List.size_toArray, List.length_cons, List.length_nil, Nat.reduceAdd, Nat.reduceSub, Array.replicate_succ, Array.replicate_zero, List.push_toArray, List.append_toArray, List.nil_append, List.cons_append]
  gi_wp2
  refine ⟨trivial, (callsIn_wide.2 HC.out).mono ?_⟩
  rintro e w1 ⟨rfl, hb1⟩
  have k0 := (hb1.cell (p := ⟨w.heap.size, 0, none⟩) (by show w.heap.size < _; omega)).trans b3
  have k1 := (hb1.cell (p := ⟨w.heap.size + 1, 0, none⟩) (by show w.heap.size + 1 < _; omega)).trans b4
  have k2 := (hb1.cell (p := ⟨w.heap.size + 1 + 1, 0, none⟩) (by show w.heap.size + 1 + 1 < _; omega)).trans b5
  have HB1 := hid (HB.out.trans (hb1.mono HB.out.size))
  clear hb1 b1 b2 b3 b3' b4 b5 b6
  by_cases hi0 : i < 0
  · have d1 : decide (i < 0) = true := by simp [hi0]
    gi_wp2
    refine wpIn_wide.2 ?_
    go_quiet (fail)
    gi_wp2
    exact ⟨_, results_tmp2 rfl _ _ _, rfl, HB1.out.trans (drewN_below _ _ _)⟩
  · by_cases him : (m : Int) ≤ i
    · have d1 : decide (i < 0) = false := by simp [hi0]
      have d2 : decide ((m : Int) ≤ i) = true := by simp [him]
      gi_wp2
      refine wpIn_wide.2 ?_
      go_quiet (fail)
      gi_wp2
      exact ⟨_, results_tmp2 rfl _ _ _, rfl, HB1.out.trans (drewN_below _ _ _)⟩
    · obtain ⟨j, rfl⟩ : ∃ j : Nat, i = j := ⟨i.toNat, by omega⟩
      have hjm : j < m := by omega
      have hbj : b.testBit j = true := by
        unfold outB at ho
        rw [decide_eq_true (by omega), decide_eq_true (by omega)] at ho
        simpa using ho
      have d1 : decide ((j : Int) < 0) = false := by simp
      have d2 : decide ((m : Int) ≤ (j : Int)) = false := by simp; omega
      have d2' : decide (m ≤ j) = false := by simp; omega
      have hpw2 : IntKind.i64.wrap (2 ^ j) = ((2 ^ j : Nat) : Int) := by rw [show (2 : Int) ^ j = ((2 ^ j : Nat) : Int) by simp]; exact wrap_i64_nat _ (by have := pow_lt256 (i := j) (by omega); omega)
      have hpw : wrap64 (2 ^ j) = ((2 ^ j : Nat) : Int) := (pow_wrap j (by omega)).1
      have WI := hid (fun w => within_any (2 ^ j) b w (pow_lt256 (by omega)) hb8)
      rw [show subB (2 ^ j) b = true from subB_iff.2 fun i hi => by rw [Nat.testBit_two_pow] at hi; simp at hi; exact hi ▸ hbj] at WI
      generalize 2 ^ j = pj at *
      clear ho hi0 him
      gi_wp2
      refine wpIn_wide.2 ?_
      go_quiet ((go_at_call 82; refine (WI.out _).mono ?_; rintro e w' ⟨rfl, rfl⟩; exact ⟨rfl, _, rfl⟩))
      gi_wp2
      exact ⟨_, results_tmp2 rfl _ _ _, rfl, HB1.out.trans (drewN_below _ _ _)⟩
end Go.Proofs.Ytimciginbiobmaa
