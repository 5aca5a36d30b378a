/- kinds.Uniform. -/
import Derived.Test.YtgdcfogikchjeaaTakeW
import Derived.Test.YtgdcfogikchjeaaWithoutQ
import Derived.Test.YtgdcfogikchjeaaPlainAll
import Derived.Test.YtgdcfogikchjeaaQuietW
import Derived.Deep.QuietTactic
import Derived.BigQuiet
import Derived.Test.YtgdcfogikchjeaaQBelW
import Derived.Test.YtgdcfogikchjeaaEqW
import Derived.Test.YtgdcfogikchjeaaSieveW
namespace Go.Proofs.Ytgdcfogikchjeaa
open Go.RowKit

theorem Uniform_ok (n k : Nat) (w : World) (hn : n ≤ 8) (hk : k ≤ n) :
    Calls Try.prog 36 #[.int .i64 k, .int .i64 n] w (GivesO w n (uniL n k)) := by
  have HB0 := hid (below_boxR w #[.int .i64 0, .slice none 0 0])
  have HC := hid (Choose_good n k (w.alloc (.cells #[.int .i64 0, .slice none 0 0] 33)) hn hk)
  change Hid (Calls _ _ _ _ fun e w' => ∃ r, e = .returned (.tuple #[r, .int .i64 0]) ∧ Own _ w' r (uniL n k) ∧ _) at HC
  generalize uniL n k = L at *
  go_enter Try.func36, Try.ntmps36
  go_wp2_with fail
  refine HC.out.mono ?_
  rintro e w2 ⟨r, rfl, ho, hb2⟩
  have HX := hid (boxR hb2)
  have HB := hid (HB0.out.trans (hb2.mono HB0.out.size))
  obtain ⟨ra, rc, hr⟩ := ownsRow_form' ho
  subst hr
  have HCC := hid (set_two (x := .int .i64 n) (y := .slice ra L.length rc) HX.out.1)
  have HD := hid (below_two (b := w.heap.size) (x := .int .i64 n) (y := .slice ra L.length rc) HB.out (Nat.le_refl _))
  have HII := hid ((ho.set2 (b := w.heap.size) (x := .int .i64 n) (y := .slice ra L.length rc) (by simp)).mono HB0.out.size)
  obtain ⟨y2, y3, g2, g3⟩ := two_cells HX.out.1
  clear ho hb2
  go_wp2_with fail
  obtain ⟨c0, c1⟩ := HCC.out
  refine bodyPost_ret (v := .tuple #[.agg #[.int .i64 n, .slice ra L.length rc], .int .i64 0]) ?_ rfl ⟨_, rfl, HII.out, HD.out⟩
  simp [results, Try.f36, go_sem, c0, c1]
theorem Uniform_bad (n k : Int) (w : World) (h : ¬ (0 ≤ n ∧ n ≤ 8 ∧ 0 ≤ k ∧ k ≤ n)) :
    Calls Try.prog 36 #[.int .i64 k, .int .i64 n] w (BadM w 1) := by
  have HB0 := hid (below_boxR w #[.int .i64 0, .slice none 0 0])
  have HC := hid (Choose_bad n k (w.alloc (.cells #[.int .i64 0, .slice none 0 0] 33)) h)
  clear h
  go_enter Try.func36, Try.ntmps36
  go_wp2_with fail
  refine HC.out.mono ?_
  rintro e w2 ⟨rfl, hb2⟩
  have HX := hid (boxR hb2)
  have HB := hid (HB0.out.trans (hb2.mono HB0.out.size))
  have HCC := hid (set_two (x := .int .i64 0) (y := .slice none 0 0) HX.out.1)
  have HD := hid (below_two (b := w.heap.size) (x := .int .i64 0) (y := .slice none 0 0) HB.out (Nat.le_refl _))
  obtain ⟨y2, y3, g2, g3⟩ := two_cells HX.out.1
  clear hb2
  go_wp2_with fail
  obtain ⟨c0, c1⟩ := HCC.out
  refine bodyPost_ret (v := .tuple #[.agg #[.int .i64 0, .slice none 0 0], .int .i64 1]) ?_ rfl ⟨rfl, HD.out⟩
  simp [results, Try.f36, go_sem, c0, c1]
end Go.Proofs.Ytgdcfogikchjeaa

namespace Go.Proofs.Ytgdcfogikchjeaa
open Go.RowKit

end Go.Proofs.Ytgdcfogikchjeaa

namespace Go.Proofs.Ytgdcfogikchjeaa
open Go.RowKit

theorem keep_drop {l : List Nat} {ms : List Int} {s k : Nat} (hk : k < l.length) : ((List.range l.length).drop k).all (fun i => decide ((pop (s &&& l.getD i 0) : Int) ≤ ms.getD i 0)) = (decide ((pop (s &&& l.getD k 0) : Int) ≤ ms.getD k 0) && ((List.range l.length).drop (k + 1)).all fun i => decide ((pop (s &&& l.getD i 0) : Int) ≤ ms.getD i 0)) := by
  rw [List.drop_eq_getElem_cons (by simpa using hk), List.all_cons, List.getElem_range]

end Go.Proofs.Ytgdcfogikchjeaa

namespace Go.Proofs.Ytgdcfogikchjeaa
open Go.RowKit

/-- The greatest of the sets that p tells, rising. -/
def bigL (n : Nat) (p : Nat → Bool) : List Nat := (List.range (2 ^ n)).filter fun s => pop s == maxI p (2 ^ n) && p s
theorem big_fam (n : Nat) (p : Nat → Bool) : Fam n (bigL n p) := Fam.range n _
/-- What is wrong with a list of sets. -/
def lisR (n : Int) (zs : List Int) : Int := if zs.all (fun s => setR n s == 0) = true ∧ 0 ≤ n ∧ n ≤ 8 then (if 8 < zs.length then 2 else 0) else 1
theorem setR_01 (n s : Int) : setR n s = 0 ∨ setR n s = 1 := by unfold setR; split <;> simp
theorem setR_n {n s : Int} (h : setR n s = 0) : 0 ≤ n ∧ n ≤ 8 ∧ 0 ≤ s ∧ s < 2 ^ n.toNat := by
  unfold setR at h
  split at h
  · assumption
  · cases h
theorem lis_nats {n : Nat} {zs : List Int} (h : zs.all (fun s => setR n s == 0) = true) : ∃ l : List Nat, zs = N l ∧ ∀ s ∈ l, s < 2 ^ n := by
  rw [List.all_eq_true] at h
  refine ⟨zs.map Int.toNat, ?_, ?_⟩
  · unfold N
    rw [List.map_map]
    refine ((List.map_congr_left (g := id) fun z hz => ?_).trans (List.map_id _)).symm
    have := setR_n (beq_iff_eq.1 (h z hz))
    show ((z.toNat : Nat) : Int) = z
    omega
  · intro s hs
    obtain ⟨z, hz, rfl⟩ := List.mem_map.1 hs
    have := setR_n (beq_iff_eq.1 (h z hz))
    rw [Int.toNat_natCast] at this
    have e : ((2 ^ n : Nat) : Int) = (2 : Int) ^ n := by simp
    omega
theorem allI_drop {p : Int → Bool} {zs : List Int} {k : Nat} (hk : k < zs.length) : (zs.drop k).all p = (p (zs.getD k 0) && (zs.drop (k + 1)).all p) := by
  rw [drop_getD hk, List.all_cons]
/-- What a maker hands back: a matroid, or an error. -/
def Makes (w : World) (q : Int) (n : Int) (l : List Nat) (e : Ending) (w' : World) : Prop := (q = 0 → GivesO w n l e w') ∧ (q ≠ 0 → BadM w q e w')
theorem slot_box {w : World} {b : Value} : ((w.alloc (.cells #[b] 31)).alloc (.cells #[.int .i64 0, .slice none 0 0] 33)).heap[w.heap.size]? = some (.cells #[b] 31 (0, 0)) ∧ ((w.alloc (.cells #[b] 31)).alloc (.cells #[.int .i64 0, .slice none 0 0] 33)).heap[w.heap.size + 1]? = some (.cells #[.int .i64 0, .slice none 0 0] 33 (0, 0)) := by
  refine ⟨?_, ?_⟩
  · rw [Below.heap_alloc _ _ _ (by simp)]
    exact World.alloc_heap_new w _
  · have := World.alloc_heap_new (w.alloc (.cells #[b] 31)) (.cells #[.int .i64 0, .slice none 0 0] 33)
    rwa [World.size_alloc] at this

end Go.Proofs.Ytgdcfogikchjeaa

namespace Go.Proofs.Ytgdcfogikchjeaa
open Go.RowKit

theorem pow_less : ∀ n : Nat, n ≤ 8 → wrap64 (wrap64 (2 ^ n) - 1) = ((2 ^ n : Nat) : Int) - 1 := by decide +kernel
theorem pow_less' : ∀ n : Nat, n ≤ 8 → IntKind.i64.wrap (wrap64 (2 ^ n) - 1) = ((2 ^ n : Nat) : Int) - 1 := by decide +kernel
set_option maxRecDepth 20000 in
set_option maxHeartbeats 800000 in
theorem Index_any (v : Value) (l : List Nat) (x : Nat) (w : World) (h : Ints w v (N l)) :
    Calls Try.prog 77 #[v, .int .i64 x] w fun e w' => ∃ r : Int, e = .returned (.int .i64 r) ∧ decide (0 ≤ r) = memB x l ∧ w' = w := by
  obtain ⟨a, cap, rfl, hlen, hc⟩ := h.nats
  clear h
  go_enter Try.func77, Try.ntmps77
  go_wp2_with fail
  go_loop [8] (fun i => ∃ k : Nat, k ≤ l.length ∧ i = .int .i64 k ∧ Hid (x ∈ l ↔ x ∈ l.drop k)) (fun i => l.length - (intOf i).toNat)
  case atStart => exact ⟨0, Nat.zero_le _, rfl, Iff.rfl⟩
  case round =>
    obtain ⟨k, hk, rfl, R⟩ := hrel
    by_cases hlt : k < l.length
    · obtain ⟨b, off, rfl, hb, hcell⟩ := hc (by omega)
      have hck := hcell k hlt
      have D : Hid (l.drop k = l.getD k 0 :: l.drop (k + 1)) := by
        show l.drop k = _
        rw [List.drop_eq_getElem_cons hlt]; simp [List.getD, hlt]
      clear hcell hc
      generalize l.getD k 0 = y at *
      by_cases hxy : x = y
      · have hxy' : ((x : Int) == (y : Int)) = true := by rw [hxy]; simp
        have F : Hid (memB x l = true) := by
          show decide (x ∈ l) = true
          rw [decide_eq_true_iff, R.out, D.out, hxy]; simp
        clear hxy
        go_wp2_with fail
        go_ret
        exact ⟨_, rfl, by rw [F.out]; simp, rfl⟩
      · have hxy' : ((x : Int) == (y : Int)) = false := by rw [beq_eq_false_iff_ne]; omega
        go_wp2_with fail
        go_round
        case rel => exact ⟨k + 1, by omega, by go_num, by show x ∈ l ↔ _; rw [R.out, D.out]; simp [hxy]⟩
        case measure => simp [intOf]; omega
    · have F : Hid (memB x l = false) := by
        show decide (x ∈ l) = false
        rw [decide_eq_false_iff_not, R.out, List.drop_of_length_le (by omega)]; simp
      go_wp2_with fail
      go_ret
      exact ⟨_, rfl, by rw [F.out]; simp, rfl⟩
theorem Contains_any (v : Value) (l : List Nat) (x : Nat) (w : World) (h : Ints w v (N l)) :
    Calls Try.prog 62 #[v, .int .i64 x] w fun e w' => e = .returned (.bool (memB x l)) ∧ w' = w := by
  obtain ⟨a, cap, hv, hlen, hc⟩ := h.nats
  have HI := hid h
  clear h hc
  subst hv
  go_enter Try.func62, Try.ntmps62
  go_wp2_with fail
  refine (Index_any _ l x _ HI.out).mono ?_
  rintro e w1 ⟨r, rfl, hr, rfl⟩
  have HR := hid hr
  clear hr
  go_wp2_with fail
  go_ret
  exact ⟨ret_bool HR.out, rfl⟩
end Go.Proofs.Ytgdcfogikchjeaa
