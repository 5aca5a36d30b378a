/- The walk of the law MinorsSwap. -/
import Derived.Test.YthbldeloocmakaaDelConQ
import Derived.Test.YthbldeloocmakaaRefSetQ
import Derived.Test.YthbldeloocmakaaPlainAll
import Derived.Deep.RegionHeld3
import Derived.Deep.CutRange
namespace Go.Proofs.Ythbldeloocmakaa
open Go.RowKit

theorem two_del : pop (dif (2 ^ 4 - 1) 1) = 3 ∧ (minL 4 twoL 1 0).length = 3 := by decide +kernel
theorem box_back {w w1 : World} {B : Nat} {x y : Value} (hx : w.cell? ⟨B, 0, none⟩ = some x ∧ w.cell? ⟨B, 1, none⟩ = some y) (hb : Below w.heap.size w w1) (hB : B < w.heap.size) : w1.cell? ⟨B, 0, none⟩ = some x ∧ w1.cell? ⟨B, 1, none⟩ = some y :=
  ⟨(hb.cell (p := ⟨B, 0, none⟩) hB).trans hx.1, (hb.cell (p := ⟨B, 1, none⟩) hB).trans hx.2⟩

/-- A matroid lies in the variable bx; nothing that lay in W has turned. -/
def HoldsM (W : World) (n : Int) (l : List Nat) (bx : Nat) (ax : Option Addr) (cx : Nat) (W' : World) : Prop :=
  (W'.cell? ⟨bx, 0, none⟩ = some (.int .i64 n) ∧ W'.cell? ⟨bx, 1, none⟩ = some (.slice ax l.length cx)) ∧ Ints W' (.slice ax l.length cx) (N l) ∧ Below W.heap.size W W' ∧ bx < W'.heap.size
theorem keepA {W w7 : World} {n : Int} {l : List Nat} {ax : Option Addr} {cx : Nat} (ho : Own W.drew.heap.size w7 (.slice ax l.length cx) l) (hb : Below W.drew.heap.size W.drew w7) (hl : l.length ≤ 17592186044416) :
    HoldsM W n l w7.heap.size ax cx (w7.alloc (.cells #[.int .i64 n, .slice ax l.length cx] 24)) := by
  have hk := below_box w7 #[.int .i64 n, .slice ax l.length cx]
  have h0 : Below W.heap.size W w7 := (Below.refl W.heap.size W).drew.trans hb
  exact ⟨box_cells (Below.refl _ _), (ho.ints hl).below hk, h0.trans (hk.mono h0.size), by simp⟩
theorem zeroD {W w7 : World} (hb : Below (W.alloc (.cells #[.int .i64 0, .slice none 0 0] 24)).drew.heap.size (W.alloc (.cells #[.int .i64 0, .slice none 0 0] 24)).drew w7) :
    w7.heap[W.heap.size]? = some (.cells #[.int .i64 0, .slice none 0 0] 24 (0, 0)) := (hb.block _ (by show _ < (W.alloc _).heap.size; simp)).trans (World.alloc_heap_new W _)
theorem keepB {W w7 : World} {n : Int} {l : List Nat} {ax : Option Addr} {cx : Nat} (ho : Own (W.alloc (.cells #[.int .i64 0, .slice none 0 0] 24)).drew.heap.size w7 (.slice ax l.length cx) l)
    (hb : Below (W.alloc (.cells #[.int .i64 0, .slice none 0 0] 24)).drew.heap.size (W.alloc (.cells #[.int .i64 0, .slice none 0 0] 24)).drew w7) (hl : l.length ≤ 17592186044416) :
    HoldsM W n l W.heap.size ax cx ((w7.setCell ⟨W.heap.size, 0, none⟩ (.int .i64 n)).setCell ⟨W.heap.size, 1, none⟩ (.slice ax l.length cx)) := by
  have hz := zeroD hb
  have hs : (W.alloc (.cells #[.int .i64 0, .slice none 0 0] 24)).drew.heap.size = W.heap.size + 1 := World.size_alloc W _
  have h0 : Below W.heap.size W w7 := (((Below.refl W.heap.size W).alloc (Nat.le_refl _) _).drew).trans (hb.mono (by omega))
  have h1 : Below W.heap.size W ((w7.setCell ⟨W.heap.size, 0, none⟩ (.int .i64 n)).setCell ⟨W.heap.size, 1, none⟩ (.slice ax l.length cx)) := below_two h0 (Nat.le_refl _)
  refine ⟨set_two hz, (ho.set2 (by omega)).ints hl, h1, ?_⟩
  have h2 := hb.size
  rw [hs] at h2
  have h3 : ((w7.setCell ⟨W.heap.size, 0, none⟩ (.int .i64 n)).setCell ⟨W.heap.size, 1, none⟩ (.slice ax l.length cx)).heap.size = w7.heap.size := by simp [World.setCell]
  omega
theorem laterA {W w7 : World} (hb : Below W.drew.heap.size W.drew w7) : Below W.heap.size W w7 := (Below.refl W.heap.size W).drew.trans hb
theorem laterB {W w7 : World} (hb : Below (W.alloc (.cells #[.int .i64 0, .slice none 0 0] 24)).drew.heap.size (W.alloc (.cells #[.int .i64 0, .slice none 0 0] 24)).drew w7) : Below W.heap.size W w7 := by
  have hs : (W.alloc (.cells #[.int .i64 0, .slice none 0 0] 24)).drew.heap.size = W.heap.size + 1 := World.size_alloc W _
  exact (((Below.refl W.heap.size W).alloc (Nat.le_refl _) _).drew).trans (hb.mono (by omega))
theorem setB_nat {m : Nat} {d : Int} (h : setB m d = true) : ∃ k : Nat, d = k ∧ k < 2 ^ m := by
  unfold setB at h
  rw [decide_eq_true_eq] at h
  obtain ⟨_, _, h1, h2⟩ := h
  obtain ⟨k, rfl⟩ := Int.eq_ofNat_of_zero_le h1
  refine ⟨k, rfl, ?_⟩
  rw [Int.toNat_natCast] at h2
  have e : ((2 ^ m : Nat) : Int) = (2 : Int) ^ m := by simp
  omega
end Go.Proofs.Ythbldeloocmakaa
