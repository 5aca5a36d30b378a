/- The calls of package axioms that tell families, ranks and closures; rotakeep.two. -/
import Derived.Test.YtlmpeacgjafcjaaFamsW
import Derived.Test.YtlmpeacgjafcjaaWholeQ
import Derived.Test.YtlmpeacgjafcjaaWithIndQ
namespace Go.Proofs.Ytlmpeacgjafcjaa
open Go.RowKit

theorem rk_small {m : Nat} {l : List Nat} (hm : m ≤ 8) (hf : Fam m l) : ∀ i, rk l i ≤ 8 := rk_le8 l (hf.lt256 hm)
theorem below_box (w : World) (cs : Array Value) : Below w.heap.size w (w.alloc (.cells cs 30)) := (Below.refl _ _).alloc (Nat.le_refl _) _
theorem box_cells {w w2 : World} {n : Int} {u : Value} (hb2 : Below (w.alloc (.cells #[.int .i64 n, u] 30)).heap.size (w.alloc (.cells #[.int .i64 n, u] 30)) w2) :
    w2.cell? ⟨w.heap.size, 0, none⟩ = some (.int .i64 n) ∧ w2.cell? ⟨w.heap.size, 1, none⟩ = some u := by
  have hx : w2.heap[w.heap.size]? = some (.cells #[.int .i64 n, u] 30 (0, 0)) := (hb2.block _ (by simp)).trans (World.alloc_heap_new w _)
  exact ⟨by simp [World.cell?, hx], by simp [World.cell?, hx]⟩

/-- A literal slice. -/
theorem litsAt (w : World) (l : List Nat) (h : l.length ≤ 17592186044416 := by decide) : Ints (w.alloc (.cells (V l).toArray 3)) (.slice (some ⟨w.heap.size, 0, none⟩) l.length l.length) (N l) := by
  refine ⟨_, _, by rw [N_len], by rw [N_len]; exact h, fun _ => ⟨w.heap.size, 0, rfl, by simp, fun i hi => ?_⟩⟩
  rw [N_len] at hi
  rw [World.cell?_alloc_at _ _ _ _ rfl, N_getD, Nat.zero_add]
  simp [V, hi, List.getD]







end Go.Proofs.Ytlmpeacgjafcjaa

namespace Go.Proofs.Ytlmpeacgjafcjaa
open Go.RowKit

/-- The blocks of without: the matroid, the base, the result. -/
def boxW (w : World) (n : Int) (v : Value) (b : Int) : World := ((w.alloc (.cells #[.int .i64 n, v] 30)).alloc (.cells #[.int .i64 b] 3)).alloc (.cells #[.int .i64 0, .slice none 0 0] 30)
theorem boxW_below (w : World) (n : Int) (v : Value) (b : Int) : Below w.heap.size w (boxW w n v b) := (((Below.refl _ _).alloc (Nat.le_refl _) _).alloc (by simp) _).alloc (by simp; omega) _
theorem boxW_size (w : World) (n : Int) (v : Value) (b : Int) : (boxW w n v b).heap.size = w.heap.size + 3 := by unfold boxW; simp
theorem boxW_blocks {w w2 : World} {n : Int} {v : Value} {b : Int} (hb2 : Below (boxW w n v b).heap.size (boxW w n v b) w2) :
    w2.heap[w.heap.size]? = some (.cells #[.int .i64 n, v] 30 (0, 0)) ∧ Boxed w2 (w.heap.size + 1) 3 (.int .i64 b) ∧ w2.heap[w.heap.size + 1 + 1]? = some (.cells #[.int .i64 0, .slice none 0 0] 30 (0, 0)) := by
  have hs := boxW_size w n v b
  refine ⟨(hb2.block _ (by omega)).trans ?_, (hb2.block _ (by omega)).trans ?_, (hb2.block _ (by omega)).trans ?_⟩
  · unfold boxW
    rw [Below.heap_alloc _ _ _ (by simp; omega), Below.heap_alloc _ _ _ (by simp)]
    exact World.alloc_heap_new w _
  · unfold boxW
    have := Boxed.new (w.alloc (.cells #[.int .i64 n, v] 30)) 3 (.int .i64 b)
    rw [World.size_alloc] at this
    exact this.alloc _
  · unfold boxW
    have := World.alloc_heap_new ((w.alloc (.cells #[.int .i64 n, v] 30)).alloc (.cells #[.int .i64 b] 3)) (.cells #[.int .i64 0, .slice none 0 0] 30)
    rwa [World.size_alloc, World.size_alloc] at this
theorem setR_ok {m s : Nat} (hm : m ≤ 8) (hs : s < 2 ^ m) : setR m s = 0 := by
  unfold setR
  have e : ((2 ^ m : Nat) : Int) = (2 : Int) ^ m := by simp
  rw [if_pos]
  refine ⟨by omega, by omega, by omega, ?_⟩
  rw [Int.toNat_natCast, ← e]
  omega

/-- What a call with an error hands back. -/
def BadM (w : World) (q : Int) (e : Ending) (w' : World) : Prop := e = .returned (.tuple #[.agg #[.int .i64 0, .slice none 0 0], .int .i64 q]) ∧ Below w.heap.size w w'
end Go.Proofs.Ytlmpeacgjafcjaa
