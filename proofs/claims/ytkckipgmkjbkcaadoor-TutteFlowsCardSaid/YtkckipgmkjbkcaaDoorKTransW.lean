/- minors.without: Delete, Contract. -/
import Derived.Test.YtkckipgmkjbkcaaDoorOldNW
import Derived.Test.YtkckipgmkjbkcaaDoorWithIndQ
import Derived.Test.YtkckipgmkjbkcaaDoorAxQ
namespace Go.Proofs.YtkckipgmkjbkcaaDoor
open Go.RowKit

/-- The blocks of without: the matroid, the base, the result. -/
def boxW (w : World) (n : Int) (v : Value) (b : Int) : World := ((w.alloc (.cells #[.int .i64 n, v] 42)).alloc (.cells #[.int .i64 b] 3)).alloc (.cells #[.int .i64 0, .slice none 0 0] 42)
theorem boxW_below (w : World) (n : Int) (v : Value) (b : Int) : Below w.heap.size w (boxW w n v b) := (((Below.refl _ _).alloc (Nat.le_refl _) _).alloc (by simp) _).alloc (by simp; omega) _
theorem boxW_size (w : World) (n : Int) (v : Value) (b : Int) : (boxW w n v b).heap.size = w.heap.size + 3 := by unfold boxW; simp
theorem boxW_blocks {w w2 : World} {n : Int} {v : Value} {b : Int} (hb2 : Below (boxW w n v b).heap.size (boxW w n v b) w2) :
    w2.heap[w.heap.size]? = some (.cells #[.int .i64 n, v] 42 (0, 0)) ∧ Boxed w2 (w.heap.size + 1) 3 (.int .i64 b) ∧ w2.heap[w.heap.size + 1 + 1]? = some (.cells #[.int .i64 0, .slice none 0 0] 42 (0, 0)) := by
  have hs := boxW_size w n v b
  refine ⟨(hb2.block _ (by omega)).trans ?_, (hb2.block _ (by omega)).trans ?_, (hb2.block _ (by omega)).trans ?_⟩
  · unfold boxW
    rw [Below.heap_alloc _ _ _ (by simp; omega), Below.heap_alloc _ _ _ (by simp)]
    exact World.alloc_heap_new w _
  · unfold boxW
    have := Boxed.new (w.alloc (.cells #[.int .i64 n, v] 42)) 3 (.int .i64 b)
    rw [World.size_alloc] at this
    exact this.alloc _
  · unfold boxW
    have := World.alloc_heap_new ((w.alloc (.cells #[.int .i64 n, v] 42)).alloc (.cells #[.int .i64 b] 3)) (.cells #[.int .i64 0, .slice none 0 0] 42)
    rwa [World.size_alloc, World.size_alloc] at this
theorem setR_ok {m s : Nat} (hm : m ≤ 8) (hs : s < 2 ^ m) : setR m s = 0 := by
  unfold setR
  have e : ((2 ^ m : Nat) : Int) = (2 : Int) ^ m := by simp
  rw [if_pos]
  refine ⟨by omega, by omega, by omega, ?_⟩
  rw [Int.toNat_natCast, ← e]
  omega

/-- What a call with an error hands back. -/
def BadM (w : World) (q : Int) (e : Ending) (w' : World) : Prop := e = .returned (.tuple #[.agg #[.int .i64 0, .slice none 0 0], .int .i64 q]) ∧ Below w.heap.size w w'
end Go.Proofs.YtkckipgmkjbkcaaDoor

namespace Go.Proofs.YtkckipgmkjbkcaaDoor
open Go.RowKit

/-- The greatest of the sets that p tells, rising. -/
def bigL (n : Nat) (p : Nat → Bool) : List Nat := (List.range (2 ^ n)).filter fun s => pop s == maxI p (2 ^ n) && p s
theorem big_fam (n : Nat) (p : Nat → Bool) : Fam n (bigL n p) := Fam.range n _
/-- What is wrong with a list of sets. -/
def lisR (n : Int) (zs : List Int) : Int := if zs.all (fun s => setR n s == 0) = true ∧ 0 ≤ n ∧ n ≤ 8 then (if 8 < zs.length then 2 else 0) else 1
theorem setR_01 (n s : Int) : setR n s = 0 ∨ setR n s = 1 := by unfold setR; split <;> simp
theorem setR_n {n s : Int} (h : setR n s = 0) : 0 ≤ n ∧ n ≤ 8 ∧ 0 ≤ s ∧ s < 2 ^ n.toNat := by
  unfold setR at h
  split at h
  · assumption
  · cases h
theorem lis_nats {n : Nat} {zs : List Int} (h : zs.all (fun s => setR n s == 0) = true) : ∃ l : List Nat, zs = N l ∧ ∀ s ∈ l, s < 2 ^ n := by
  rw [List.all_eq_true] at h
  refine ⟨zs.map Int.toNat, ?_, ?_⟩
  · unfold N
    rw [List.map_map]
    refine ((List.map_congr_left (g := id) fun z hz => ?_).trans (List.map_id _)).symm
    have := setR_n (beq_iff_eq.1 (h z hz))
    show ((z.toNat : Nat) : Int) = z
    omega
  · intro s hs
    obtain ⟨z, hz, rfl⟩ := List.mem_map.1 hs
    have := setR_n (beq_iff_eq.1 (h z hz))
    rw [Int.toNat_natCast] at this
    have e : ((2 ^ n : Nat) : Int) = (2 : Int) ^ n := by simp
    omega
theorem allI_drop {p : Int → Bool} {zs : List Int} {k : Nat} (hk : k < zs.length) : (zs.drop k).all p = (p (zs.getD k 0) && (zs.drop (k + 1)).all p) := by
  rw [drop_getD hk, List.all_cons]
/-- What a maker hands back: a matroid, or an error. -/
def Makes (w : World) (q : Int) (n : Int) (l : List Nat) (e : Ending) (w' : World) : Prop := (q = 0 → GivesO w n l e w') ∧ (q ≠ 0 → BadM w q e w')
theorem slot_box {w : World} {b : Value} : ((w.alloc (.cells #[b] 33)).alloc (.cells #[.int .i64 0, .slice none 0 0] 42)).heap[w.heap.size]? = some (.cells #[b] 33 (0, 0)) ∧ ((w.alloc (.cells #[b] 33)).alloc (.cells #[.int .i64 0, .slice none 0 0] 42)).heap[w.heap.size + 1]? = some (.cells #[.int .i64 0, .slice none 0 0] 42 (0, 0)) := by
  refine ⟨?_, ?_⟩
  · rw [Below.heap_alloc _ _ _ (by simp)]
    exact World.alloc_heap_new w _
  · have := World.alloc_heap_new (w.alloc (.cells #[b] 33)) (.cells #[.int .i64 0, .slice none 0 0] 42)
    rwa [World.size_alloc] at this

end Go.Proofs.YtkckipgmkjbkcaaDoor
