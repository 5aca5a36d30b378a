/- rotakeep.TutteGraph: its numbers. -/
import Derived.Test.YtfajbmcdkhgipaaDoorFgDW
import Derived.Test.YtfajbmcdkhgipaaDoorFgEW
import Derived.Test.YtfajbmcdkhgipaaDoorFlEQ
import Derived.Test.YtfajbmcdkhgipaaDoorPickNQ
namespace Go.Proofs.YtfajbmcdkhgipaaDoor
open Go.RowKit

theorem box_keepH {w w' : World} {b : Nat} {o : Obj} (h : w.heap[b]? = some o) (hb : Below w.heap.size w w') : w'.heap[b]? = some o := (hb.block b (Array.getElem?_eq_some_iff.1 h).1).trans h
theorem fh_lit (w : World) (a b c : Int) (t : TypeId) : Ints (w.alloc (.cells #[.int .i64 a, .int .i64 b, .int .i64 c] t)) (.slice (some ⟨w.heap.size, 0, none⟩) 3 3) [a, b, c] :=
  ⟨_, 3, rfl, by simp, fun _ => ⟨w.heap.size, 0, rfl, by simp, fun i hi => by
    rw [World.cell?_alloc_at _ _ _ _ rfl]
    match i, hi with
    | 0, _ => rfl
    | 1, _ => rfl
    | 2, _ => rfl⟩⟩
theorem fh_edge (w : World) : EdgesI (w.alloc (.cells #[.int .i64 0, .int .i64 1] 32)) (.slice (some ⟨w.heap.size, 0, none⟩) 1 1) [(0, 1)] :=
  ⟨_, 1, rfl, by simp, fun _ => ⟨w.heap.size, 0, rfl, by simp, fun i hi => by
    obtain rfl : i = 0 := by simpa using hi
    rw [World.cell?_alloc_at _ _ _ _ rfl, World.cell?_alloc_at _ _ _ _ rfl]
    exact ⟨rfl, rfl⟩⟩⟩
theorem fh_one : graphR 2 [(0, 1)] = 0 := by decide
theorem fh_pol : (List.range ((2 : Int).toNat + 1)).map (chF (2 : Int).toNat [(0, 1)]) = [0, -1, 1] := by decide +kernel
/-- The edges below j have not the same colour at both ends. -/
def prT (E : List (Nat × Nat)) (f : Nat → Nat) (j : Nat) : Bool := (List.range j).all fun i => !(f (ea E i) == f (eb E i))
theorem prT_zero (E : List (Nat × Nat)) (f : Nat → Nat) : prT E f 0 = true := rfl
theorem prT_step (E : List (Nat × Nat)) (f : Nat → Nat) (j : Nat) : prT E f (j + 1) = (prT E f j && !(f (ea E j) == f (eb E j))) := by simp [prT, List.range_succ]
/-- How many codes below c are colours. -/
def fhC (E : List (Nat × Nat)) (n k c : Nat) : Int := tal (fun c => if proB E (digF k n c) = true then 1 else 0) (List.range c)
theorem fhC_step (E : List (Nat × Nat)) (n k c : Nat) : fhC E n k (c + 1) = fhC E n k c + if proB E (digF k n c) = true then 1 else 0 := by
  unfold fhC
  rw [tal_range]
theorem fhC_le (E : List (Nat × Nat)) (n k : Nat) : ∀ c, 0 ≤ fhC E n k c ∧ fhC E n k c ≤ c
  | 0 => by unfold fhC; simp [tal]
  | c + 1 => by
    have := fhC_le E n k c
    rw [fhC_step]
    split <;> omega
theorem ccF_bound {n R : Nat} {c : Nat → Int} (h : ∀ j, -256 ≤ c j ∧ c j ≤ 256) (j : Nat) : -256 ≤ ccF n R c j ∧ ccF n R c j ≤ 256 := by
  unfold ccF
  split
  · omega
  · exact h _
end Go.Proofs.YtfajbmcdkhgipaaDoor
