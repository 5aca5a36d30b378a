/- minors.Sum of what is no matroid. -/
import Derived.Test.YtioaonmlnikbdaaSumSQ
import Derived.Test.YtioaonmlnikbdaaRwLW
import Derived.RangeFuncWrites
import Derived.Test.YtioaonmlnikbdaaQuietQ
namespace Go.Proofs.Ytioaonmlnikbdaa
open Go.RowKit

set_option maxHeartbeats 1600000 in
theorem Sum_bad (n k : Int) (v u : Value) (zs ys : List Int) (w : World) (h : Ints w v zs) (h' : Ints w u ys) (hc : chk2 n zs k ys ≠ 0) :
    Calls Try.prog 20 #[.agg #[.int .i64 n, v], .agg #[.int .i64 k, u]] w (BadU w (chk2 n zs k ys)) := by
  have HI := hid h
  have HI' := hid h'
  obtain ⟨a, cap, rfl, -, -⟩ := h
  obtain ⟨a', cap', rfl, -, -⟩ := h'
  have HB0 := hid (box3_below w n (.slice a zs.length cap) k (.slice a' ys.length cap'))
  have HX : Hid (∀ w2, Below (box3 w n (.slice a zs.length cap) k (.slice a' ys.length cap')).heap.size (box3 w n (.slice a zs.length cap) k (.slice a' ys.length cap')) w2 → _) := fun w2 h => box3_blocks h
  have HSZ := hid (box3_size w n (.slice a zs.length cap) k (.slice a' ys.length cap'))
  have R1 := hid (both_bad n k _ _ zs ys _ (HI.out.below HB0.out) (HI'.out.below HB0.out) hc)
  generalize chk2 n zs k ys = q at *
  have hc' : (q == 0) = false := by rw [beq_eq_false_iff_ne]; exact hc
  go_enter Try.func20, Try.ntmps20
  go_wp2_with fail
  refine R1.out.mono ?_
  rintro e w1 ⟨rfl, hb1⟩
  obtain ⟨hx0, hx1, hx2⟩ := HX.out w1 hb1
  have HB1 := hid (HB0.out.trans (hb1.mono HB0.out.size))
  have hsz1 : w.heap.size + 3 ≤ w1.heap.size := by have := hb1.size; have := HSZ.out; omega
  have hbb := boxes_below w1 (.slice none 0 0) (.slice none 0 0)
  have hxx := (hbb.block (w.heap.size + 1 + 1) (by omega)).trans hx2
  have HW := hid (HB1.out.trans (hbb.mono HB1.out.size))
  obtain ⟨y2, y3, g2, g3⟩ := two_cells hxx
  have HC := hid (set_two (x := .int .i64 0) (y := .slice none 0 0) hxx)
  have HD := hid (below_two (b := w.heap.size + 1 + 1) (x := .int .i64 0) (y := .slice none 0 0) HW.out (by omega))
  clear hb1 HX HSZ R1 hx0 hx1 hbb hxx hx2
  go_wp2_with fail
  obtain ⟨c0, c1⟩ := HC.out
  refine bodyPost_ret (v := .tuple #[.agg #[.int .i64 0, .slice none 0 0], .int .i64 q]) ?_ rfl ⟨rfl, HD.out⟩
  simp [results, Try.f20, go_sem, c0, c1]

end Go.Proofs.Ytioaonmlnikbdaa

namespace Go.Proofs.Ytioaonmlnikbdaa
open Go.RowKit Go.Shelf
attribute [local go_sem] Oper.semAt_some

/-- Can y come for x? -/
def swapB (l : List Nat) (a b x y : Nat) : Bool := subB y (dif b a) && memB (dif a x ||| y) l && memB (dif b y ||| x) l
/-- Is x within c? Of whatever number. -/
def wiB (x : Int) (c : Nat) : Bool := bits .andNot .i64 x (c : Int) == 0
theorem withinZ_any (x : Int) (c : Nat) (w : World) : Calls Try.prog 41 #[.int .i64 x, .int .i64 c] w fun e w' => e = .returned (.bool (wiB x c)) ∧ w' = w := by
  go_enter Try.func41, Try.ntmps41
  go_wp2_with fail
  go_ret
  exact ⟨rfl, rfl⟩
theorem wiB_nat {x c : Nat} (hx : x < 256) (hc : c < 256) : wiB x c = subB x c := by
  unfold wiB
  rw [i64_andNot_nat x c (by omega) (by omega), subB_xor, Bool.eq_iff_iff, beq_iff_eq, beq_iff_eq]
  omega
/-- The world when Swap's parameters are laid. -/
def boxS (w : World) (m a b x : Int) (v : Value) : World := ((((w.alloc (.cells #[.int .i64 m, v] 24)).alloc (.cells #[.int .i64 a] 3)).alloc (.cells #[.int .i64 b] 3)).alloc (.cells #[.int .i64 x] 3)).alloc (.cells #[.int .i64 a, .int .i64 b] 3)
theorem boxS_is (w : World) (m a b x : Int) (v : Value) : Below w.heap.size w (boxS w m a b x v) ∧ (boxS w m a b x v).heap.size = w.heap.size + 5 ∧ (boxS w m a b x v).cell? ⟨w.heap.size, 0, none⟩ = some (.int .i64 m) ∧ (boxS w m a b x v).cell? ⟨w.heap.size, 1, none⟩ = some v ∧ (boxS w m a b x v).cell? ⟨w.heap.size + 1, 0, none⟩ = some (.int .i64 a) ∧ (boxS w m a b x v).cell? ⟨w.heap.size + 1 + 1, 0, none⟩ = some (.int .i64 b) ∧ (boxS w m a b x v).cell? ⟨w.heap.size + 1 + 1 + 1, 0, none⟩ = some (.int .i64 x) ∧ Ints (boxS w m a b x v) (.slice (some ⟨w.heap.size + 1 + 1 + 1 + 1, 0, none⟩) 2 2) [a, b] := by
  have c0 := two_cells (World.alloc_heap_new w (.cells #[.int .i64 m, v] 24))
  have c1 := cellN (w.alloc (.cells #[.int .i64 m, v] 24)) (.int .i64 a) 3
  have c2 := cellN ((w.alloc (.cells #[.int .i64 m, v] 24)).alloc (.cells #[.int .i64 a] 3)) (.int .i64 b) 3
  have c3 := cellN (((w.alloc (.cells #[.int .i64 m, v] 24)).alloc (.cells #[.int .i64 a] 3)).alloc (.cells #[.int .i64 b] 3)) (.int .i64 x) 3
  have L := Ints.lit2 ((((w.alloc (.cells #[.int .i64 m, v] 24)).alloc (.cells #[.int .i64 a] 3)).alloc (.cells #[.int .i64 b] 3)).alloc (.cells #[.int .i64 x] 3)) a b
  simp only [World.size_alloc] at c1 c2 c3 L
  unfold boxS
  exact ⟨(((((Below.refl _ w).alloc (Nat.le_refl _) _).alloc (by simp) _).alloc (by simp; omega) _).alloc (by simp; omega) _).alloc (by simp; omega) _, by simp, cellA _ (cellA _ (cellA _ (cellA _ c0.1))), cellA _ (cellA _ (cellA _ (cellA _ c0.2.1))), cellA _ (cellA _ (cellA _ c1.1)), cellA _ (cellA _ c2.1), cellA _ c3.1, L⟩
end Go.Proofs.Ytioaonmlnikbdaa

namespace Go.Proofs.Ytioaonmlnikbdaa
open Go.RowKit Go.Shelf

def markOf (D : Nat) : Deferred := { target := .collected D, args := #[] }
/-- Blocks of rounds without a deferred call. -/
def Shuts (B : Nat) (w : World) (Ds : List Nat) : Prop := Ds.Pairwise (· ≠ ·) ∧ ∀ D ∈ Ds, B ≤ D ∧ w.heap[D]? = some (.deferred (some []))
theorem Shuts.nil (B : Nat) (w : World) : Shuts B w [] := ⟨List.Pairwise.nil, by simp⟩
theorem leaves_marks {F : Fence} {n : Nat} {P : Program} {fn : Func} {tmps : Array Value} {R : Ending → World → Prop} {B : Nat} (Φ : World → Prop)
    (hΦ : ∀ (W : World) (D : Nat), Φ W → B ≤ D → W.heap[D]? = some (.deferred (some [])) → Φ (W.putObj D (.deferred none)))
    (hend : ∀ W, Φ W → LeavesInM F n P fn tmps R [] .returning W) : ∀ (Ds : List Nat) (W : World), Φ W → Shuts B W Ds → LeavesInM F n P fn tmps R (Ds.map markOf) .returning W
  | [], W, h, _ => hend W h
  | D :: Ds, W, h, hs => by
    obtain ⟨hp, hD⟩ := hs
    rw [List.pairwise_cons] at hp
    obtain ⟨hB, hK⟩ := hD D (by simp)
    refine ⟨by simp, .inl ⟨D, _, rfl, run_takeDeferred hK, ?_⟩⟩
    refine leaves_marks Φ hΦ hend Ds _ (hΦ W D h hB hK) ⟨hp.2, fun E hE => ?_⟩
    obtain ⟨h1, h2⟩ := hD E (by simp [hE])
    exact ⟨h1, (World.putObj_heap_other (fun e => hp.1 E hE (by omega))).trans h2⟩
theorem Shuts.cons {B : Nat} {w w' : World} {Ds : List Nat} (h : Shuts B w Ds) {D : Nat} (hB : B ≤ D) (hK : w'.heap[D]? = some (.deferred (some []))) (hnew : w.heap.size ≤ D) (keep : ∀ E ∈ Ds, w'.heap[E]? = some (.deferred (some []))) : Shuts B w' (D :: Ds) := by
  refine ⟨List.pairwise_cons.2 ⟨fun E hE e => ?_, h.1⟩, fun E hE => ?_⟩
  · have := (Array.getElem?_eq_some_iff.1 (h.2 E hE).2).1
    omega
  · rw [List.mem_cons] at hE
    rcases hE with rfl | hE
    · exact ⟨hB, hK⟩
    · exact ⟨(h.2 E hE).1, keep E hE⟩
end Go.Proofs.Ytioaonmlnikbdaa
