/- kinds.Laminar. -/
import Derived.Test.YtihddkdkhdallaaKTransW
import Derived.Test.YtihddkdkhdallaaThoseQ
namespace Go.Proofs.Ytihddkdkhdallaa
open Go.RowKit

theorem lam_step {l : List Nat} {ms : List Int} {k : Nat} (hk : k < l.length) : lamR l ms (l.length - k) = if lamAt l ms k = 0 then lamR l ms (l.length - (k + 1)) else lamAt l ms k := by
  obtain ⟨j, hj⟩ : ∃ j, l.length - k = j + 1 := ⟨l.length - k - 1, by omega⟩
  have e : l.length - (j + 1) = k := by omega
  have e2 : l.length - (k + 1) = j := by omega
  rw [hj, e2]
  show (if lamAt l ms (l.length - (j + 1)) = 0 then lamR l ms j else lamAt l ms (l.length - (j + 1))) = _
  rw [e]
/-- What is wrong with a family and its numbers. -/
def lamE (n : Int) (zs ms : List Int) : Int := if famR n zs = 0 then (if ms.length = zs.length then lamR (zs.map Int.toNat) ms zs.length else 3) else 1
theorem Ints.takeP {w : World} {a : Option Addr} {L cap k : Nat} {l : List Nat} (h : Ints w (.slice a L cap) (N l)) (hk : k ≤ l.length) : Ints w (.slice a k cap) (N (l.take k)) := by
  obtain ⟨a', cap', e, hl, hc⟩ := h
  obtain ⟨⟨rfl, rfl⟩, rfl⟩ : (a = a' ∧ L = (N l).length) ∧ cap = cap' := by simpa [and_assoc] using e
  rw [N_len] at hl hc
  have ht : (l.take k).length = k := by simp; omega
  refine ⟨a, cap, by rw [N_len, ht], by rw [N_len, ht]; omega, fun h0 => ?_⟩
  rw [N_len, ht] at h0
  obtain ⟨b, off, e1, hb, hcell⟩ := hc (by omega)
  refine ⟨b, off, e1, hb, fun i hi => ?_⟩
  rw [N_len, ht] at hi
  rw [hcell i (by omega), N_getD, N_getD]
  simp [List.getD, hi]
theorem slot3 {w : World} {b c : Value} : (((w.alloc (.cells #[b] 32)).alloc (.cells #[c] 32)).alloc (.cells #[.int .i64 0, .slice none 0 0] 34)).heap[w.heap.size]? = some (.cells #[b] 32 (0, 0)) ∧ (((w.alloc (.cells #[b] 32)).alloc (.cells #[c] 32)).alloc (.cells #[.int .i64 0, .slice none 0 0] 34)).heap[w.heap.size + 1]? = some (.cells #[c] 32 (0, 0)) ∧
    (((w.alloc (.cells #[b] 32)).alloc (.cells #[c] 32)).alloc (.cells #[.int .i64 0, .slice none 0 0] 34)).heap[w.heap.size + 1 + 1]? = some (.cells #[.int .i64 0, .slice none 0 0] 34 (0, 0)) := by
  refine ⟨?_, ?_, ?_⟩
  · rw [Below.heap_alloc _ _ _ (by simp; omega), Below.heap_alloc _ _ _ (by simp)]
    exact World.alloc_heap_new w _
  · rw [Below.heap_alloc _ _ _ (by simp)]
    have := World.alloc_heap_new (w.alloc (.cells #[b] 32)) (.cells #[c] 32)
    rwa [World.size_alloc] at this
  · have := World.alloc_heap_new ((w.alloc (.cells #[b] 32)).alloc (.cells #[c] 32)) (.cells #[.int .i64 0, .slice none 0 0] 34)
    rwa [World.size_alloc, World.size_alloc] at this

end Go.Proofs.Ytihddkdkhdallaa

namespace Go.Proofs.Ytihddkdkhdallaa
open Go.RowKit

theorem bad_yes (e : Int) (w : World) : Calls Try.prog 4 #[.bool true, .int .i64 e] w fun r w' => r = .returned (.int .i64 0) ∧ w' = w := by
  go_enter Try.func4, Try.ntmps4
  go_wp2
  go_ret
  exact ⟨rfl, rfl⟩
theorem bad_no (e : Int) (w : World) : Calls Try.prog 4 #[.bool false, .int .i64 e] w fun r w' => r = .returned (.int .i64 e) ∧ w' = w := by
  go_enter Try.func4, Try.ntmps4
  go_wp2
  go_ret
  exact ⟨rfl, rfl⟩

/-- Is s a set of n elements? -/
def setB (n s : Int) : Bool := decide (0 ≤ n ∧ n ≤ 8 ∧ 0 ≤ s ∧ s < 2 ^ n.toNat)
def famB (n : Int) (zs : List Int) : Bool := famR n zs == 0
theorem famB_step {n : Nat} {zs : List Int} {T : Int} (hn : n ≤ 8) (hT : T = 2 ^ n) (k : Nat) (R : risesB T (-1) zs = risesB T (lastB zs k) (zs.drop k)) :
    famB n zs = risesB T (lastB zs k) (zs.drop k) := by
  unfold famB
  rw [famR_step hn hT k R]
  cases risesB T (lastB zs k) (zs.drop k) <;> rfl

end Go.Proofs.Ytihddkdkhdallaa

namespace Go.Proofs.Ytihddkdkhdallaa
open Go.RowKit

theorem told_bad0 (q : Int) (w : World) (hq : q ≠ 0) :
    Calls Try.prog 17 #[.agg #[.int .i64 0, .slice none 0 0], .int .i64 q, .agg #[.int .i64 0, .slice none 0 0], .int .i64 q] w fun e w' => e = .returned (.bool true) ∧ Below w.heap.size w w' := by
  have hq' : (q == 0) = false := by rw [beq_eq_false_iff_ne]; exact hq
  have hqq : (q == q) = true := by simp
  have HB0 : Hid (Below w.heap.size w ((w.alloc (.cells #[.int .i64 0, .slice none 0 0] 34)).alloc (.cells #[.int .i64 0, .slice none 0 0] 34))) := ((Below.refl _ _).alloc (Nat.le_refl _) _).alloc (by simp) _
  go_enter Try.func17, Try.ntmps17
  go_wp2_with fail
  go_ret
  exact ⟨rfl, HB0.out⟩
theorem told_good0 (n : Int) (u v : Value) (zs : List Int) (w : World) (h1 : Ints w u zs) (h2 : Ints w v zs) :
    Calls Try.prog 17 #[.agg #[.int .i64 n, u], .int .i64 0, .agg #[.int .i64 n, v], .int .i64 0] w fun e w' => e = .returned (.bool true) ∧ Below w.heap.size w w' := by
  have hB0 : Below w.heap.size w ((w.alloc (.cells #[.int .i64 n, u] 34)).alloc (.cells #[.int .i64 n, v] 34)) := ((Below.refl _ _).alloc (Nat.le_refl _) _).alloc (by simp) _
  have SM := hid (SameMatroid_any n n u v zs zs _ (h1.below hB0) (h2.below hB0))
  rw [show (decide (n = n) && decide (zs = zs)) = true by simp] at SM
  have HB0 := hid hB0
  obtain ⟨a, cap, rfl, _, _⟩ := h1
  obtain ⟨a2, cap2, rfl, _, _⟩ := h2
  clear hB0
  go_enter Try.func17, Try.ntmps17
  go_wp2_with fail
  refine SM.out.mono ?_
  rintro e w2 ⟨rfl, hb2⟩
  have HB := hid (HB0.out.trans (hb2.mono HB0.out.size))
  clear hb2
  go_wp2_with fail
  go_ret
  exact ⟨rfl, HB.out⟩
theorem setB_R (n s : Int) : setB n s = (setR n s == 0) := by
  unfold setB setR
  by_cases h : 0 ≤ n ∧ n ≤ 8 ∧ 0 ≤ s ∧ s < 2 ^ n.toNat
  · rw [if_pos h, decide_eq_true h]; rfl
  · rw [if_neg h, decide_eq_false h]; rfl

end Go.Proofs.Ytihddkdkhdallaa
