/- slices.SortStableFunc at few elements; greedy.heaviestFirst. -/
import Derived.Shelf.SlSortCmp.Insertion
import Derived.Lib.SlKeysI
import Derived.Test.YtomajfpincehnaaGrBQ
import Derived.Test.YtomajfpincehnaaCmpIQ
import Derived.Test.YtomajfpincehnaaPlainAll1
import Derived.Deep.OwnRows
namespace Go.Proofs.Ytomajfpincehnaa
open Go.RowKit Go.Shelf

/-- The elements as values. -/
def encF {k : Nat} (x : Fin (k + 1)) : Value := .int .i64 (x.1 : Nat)
def cfW {k : Nat} (ws : List Int) (x y : Fin (k + 1)) : Int := cmpI (ws.getD y.1 0) (ws.getD x.1 0)
theorem cmpI_neg (a b : Int) : cmpI a b < 0 ↔ a < b := by
  unfold cmpI
  by_cases h1 : a < b
  · rw [if_pos h1]; exact ⟨fun _ => h1, fun _ => by decide⟩
  · rw [if_neg h1]
    by_cases h2 : b < a
    · rw [if_pos h2]; exact ⟨fun h => absurd h (by decide), fun h => absurd h h1⟩
    · rw [if_neg h2]; exact ⟨fun h => absurd h (by decide), fun h => absurd h h1⟩
theorem cfW_lt {k : Nat} (ws : List Int) : ltOf (cfW (k := k) ws) = ltW (fun i => ws.getD i 0) := by
  funext x y
  unfold ltOf ltW
  rw [decide_eq_decide]
  exact cmpI_neg _ _
theorem putRow_fin {k : Nat} (w : World) (g : Nat) (D : Array (Fin (k + 1))) : Go.Sort.putRow encF w g 0 D = Go.Sort.putRow encZ w g 0 (D.toList.map fun x => ((x.1 : Nat) : Int)).toArray := by
  unfold Go.Sort.putRow
  congr 1
  funext c
  unfold Go.Sort.putCells
  apply Array.ext (by simp)
  intro i h1 h2
  simp only [Array.getElem_mapIdx, Nat.zero_add, Nat.zero_le, true_and, Nat.sub_zero, List.size_toArray, List.length_map, Array.length_toList]
  by_cases hi : i < D.size
  · rw [if_pos hi, if_pos hi, getElem!_pos D i hi, getElem!_pos _ i (by simpa using hi)]
    simp [encF, encZ]
  · rw [if_neg hi, if_neg hi]
theorem sortW_other {k : Nat} (w : World) (g m : Nat) (D : Array (Fin (k + 1))) (os : Array Obj) {b : Nat} (hb : b < w.heap.size) (hne : b ≠ g) : (sortWorld encF w g 0 m D os).heap[b]? = w.heap[b]? := by
  unfold sortWorld
  rw [Go.Sort.heap_grow_old _ _ (by simpa using hb)]
  simp [Go.Sort.putRow, Go.Sort.mapBlock, Go.Sort.ahead, Array.getElem?_modify, Ne.symm hne]
/-- A row of n numbers, whole. -/
def Row (g : Nat) (w : World) (n : Nat) (f : Nat → Nat) : Prop := ∃ cur : Array Value, w.heap[g]? = some (.cells cur 3 (0, 0)) ∧ cur.size = n ∧ ∀ i, i < n → cur[i]? = some (.int .i64 (f i : Nat))
theorem Row.cell {g : Nat} {w : World} {n : Nat} {f : Nat → Nat} (h : Row g w n f) {i : Nat} (hi : i < n) : w.cell? ⟨g, i, none⟩ = some (.int .i64 (f i : Nat)) := by
  obtain ⟨cur, h1, h2, h3⟩ := h
  simp [World.cell?, h1, h3 i hi]
theorem Row.frozen {g : Nat} {w : World} {n : Nat} {f : Nat → Nat} (h : Row g w n f) (i : Nat) : w.frozen? ⟨g, i, none⟩ = false := by
  obtain ⟨cur, h1, h2, h3⟩ := h
  simp [World.frozen?, h1]
theorem Row.new (w : World) (n : Nat) : Row w.heap.size (w.alloc (.cells (madeCells #[.int .i64 0] n) 3)) n (fun _ => 0) :=
  ⟨_, World.alloc_heap_new w _, by simp [madeCells], fun i hi => by simp [madeCells, hi, Nat.mod_one]⟩
theorem Row.set {g : Nat} {w : World} {n : Nat} {f f' : Nat → Nat} (h : Row g w n f) (j x : Nat) (hj : j < n) (hf : ∀ i, i < n → f' i = if j = i then x else f i) : Row g (w.setCell ⟨g, j, none⟩ (.int .i64 (x : Nat))) n f' := by
  obtain ⟨cur, h1, h2, h3⟩ := h
  refine ⟨cur.setIfInBounds j (.int .i64 (x : Nat)), ?_, by simp [h2], fun i hi => ?_⟩
  · simp [World.setCell, Array.getElem?_modify, h1]
  · rw [hf i hi, Array.getElem?_setIfInBounds]
    by_cases e : j = i
    · subst e; simp [h2, hj]
    · simp [e, h3 i hi]
theorem Row.own {B g : Nat} {w : World} {n : Nat} (h : Row g w n (fun i => i)) (hB : B ≤ g) (hn : n ≤ 256) : Own B w (.slice (some ⟨g, 0, none⟩) n n) (List.range n) := by
  obtain ⟨cur, h1, h2, h3⟩ := h
  have e : (List.range n).length = n := by simp
  refine ⟨by simp [V], .inr ⟨g, n, cur, by rw [e], hB, h1, by rw [e]; exact Nat.le_refl _, by unfold maxLen; omega, by rw [h2, Nat.mul_one], ?_⟩⟩
  rw [e, Nat.mul_one]
  apply List.ext_getElem?
  intro i
  by_cases hi : i < n
  · rw [List.getElem?_take_of_lt hi, Array.getElem?_toList, h3 i hi]
    simp [V, hi]
  · rw [List.getElem?_take_eq_none (by omega), List.getElem?_eq_none (by simp [V]; omega)]

/-- The order by the weights. -/
def hvO (ws : List Int) : List Nat := match ws.length with
  | 0 => []
  | k + 1 => (sortW (k := k) fun i => ws.getD i 0).toList.map (·.1)
theorem hvO_by (ws : List Int) : ByW ws.length (fun i => ws.getD i 0) (hvO ws) := by
  unfold hvO
  split
  · rename_i h
    rw [h]
    exact ⟨⟨by simp, List.nodup_nil⟩, fun i hi => by omega, List.Pairwise.nil⟩
  · rename_i k h
    rw [h]
    exact sortW_by _
end Go.Proofs.Ytomajfpincehnaa

namespace Go.Proofs.Ytomajfpincehnaa
open Go.RowKit

/-- What checkWeights tells. -/
def cwR (n : Int) (ws : List Int) : Int := if (ws.length : Int) ≠ n then 3 else if ws.all fun x => decide (-1000 ≤ x ∧ x ≤ 1000) then 0 else 1
theorem Own.lit0 {B : Nat} (w : World) (h : B ≤ w.heap.size) : Own B (w.alloc (.cells #[.int .i64 0] 3)) (.slice (some ⟨w.heap.size, 0, none⟩) 1 1) [0] :=
  ⟨rfl, .inr ⟨w.heap.size, 1, #[.int .i64 0], rfl, h, World.alloc_heap_new w _, Nat.le_refl _, by unfold maxLen; omega, rfl, rfl⟩⟩
end Go.Proofs.Ytomajfpincehnaa

namespace Go.Proofs.Ytomajfpincehnaa
open Go.RowKit

/-- What Steps and Best tell by their error. -/
def stE (n : Int) (zs ws : List Int) : Int := if chkR n zs ≠ 0 then chkR n zs else cwR n ws
theorem cw_of {m : Nat} {ws : List Int} (h : cwR m ws = 0) : ws.length = m ∧ ∀ i, -1000 ≤ ws.getD i 0 ∧ ws.getD i 0 ≤ 1000 := by
  unfold cwR at h
  split at h
  · cases h
  · rename_i h1
    split at h
    · rename_i h2
      refine ⟨by omega, fun i => ?_⟩
      by_cases hi : i < ws.length
      · have := List.all_eq_true.1 h2 (ws.getD i 0) (by simp only [List.getD, List.getElem?_eq_getElem hi, Option.getD_some]; exact List.getElem_mem _)
        simpa using this
      · simp [List.getD, List.getElem?_eq_none (Nat.le_of_not_lt hi)]
    · cases h
end Go.Proofs.Ytomajfpincehnaa
