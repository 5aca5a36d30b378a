/- greedy.Fundamental. -/
import Derived.Test.YtgfbajkonlaciaaGrBQ
import Derived.Test.YtgfbajkonlaciaaAxQ
import Derived.Test.YtgfbajkonlaciaaPlainAll
import Derived.Test.YtgfbajkonlaciaaCplW
namespace Go.Proofs.Ytgfbajkonlaciaa
open Go.RowKit Go.Shelf
attribute [local go_sem] Oper.semAt_some
theorem newBox (W : World) (x y : Value) (t : TypeId) : Below W.heap.size W ((W.alloc (.cells #[x] t)).setCell ⟨W.heap.size, 0, none⟩ y) ∧ ((W.alloc (.cells #[x] t)).setCell ⟨W.heap.size, 0, none⟩ y).cell? ⟨W.heap.size, 0, none⟩ = some y ∧ ((W.alloc (.cells #[x] t)).setCell ⟨W.heap.size, 0, none⟩ y).frozen? ⟨W.heap.size, 0, none⟩ = false ∧ ((W.alloc (.cells #[x] t)).setCell ⟨W.heap.size, 0, none⟩ y).heap.size = W.heap.size + 1 := by
  have h := cellN W x t
  refine ⟨((Below.refl _ _).alloc (Nat.le_refl _) _).setCell (p := ⟨W.heap.size, 0, none⟩) (Nat.le_refl _) _, World.cell?_setCell_same' _ _ _ (by rw [h.1]; rfl), (World.frozen?_setCell _ _ _ _).trans h.2, by simp⟩
theorem asked_wide (P : Program) (o : Oper) (a : Act) (C : World → Prop) : Oper.askedIn Fence.wide P o a C = True := eq_true fun _ _ _ _ => trivial
attribute [local go_sem] asked_wide
theorem region_quiet_wide {P : Program} {n id : Nat} {Q : Exit → Act → World → Prop} {a : Act} {w : World} {l : List Oper} (hm : P.follows .mixedOrders = true) (hB : Region.lexB .any l.toArray = true)
    (h : wpQuietIn Fence.wide n P l.toArray (fun w' => ∃ n, w' = w.drewN n) (fun a' => ∀ w', (∃ n, w' = w.drewN n) → Q .normal a' w') l a) : (Code.region id l.toArray true).wpIn Fence.wide n P Q a w := by
  simp only [Region.lexB, Bool.and_eq_true] at hB
  refine wpIn_region_any hm (wpAnyIn_of_quiet (C := fun w' => ∃ n, w' = w.drewN n) (Q := fun a' => ∀ w', (∃ n, w' = w.drewN n) → Q .normal a' w') rfl (fun _ w' hw' h => h w' hw') _ _ _ _ ⟨1, rfl⟩ ?_)
  have := wpAnyQIn_lex (F := Fence.wide) (n := n) (C := fun w' => ∃ n, w' = w.drewN n) (md := .any) hB.1 l 0 (Array.replicate l.toArray.size false) a (by simp) (by simpa using hB.2) h
  simpa using this
theorem region_later_round {P : Program} {n l0 id : Nat} {Q : Exit → Act → World → Prop} {a : Act} {w : World} {l : List Oper} (hd : noDefer l = true) (hm : P.follows .mixedOrders = true) (hB : Region.lexB .any l.toArray = true)
    (h : wpQuietIn Fence.wide n P l.toArray (fun w' => ∃ x : Later w, w' = x.now) (fun a' => ∀ w', (∃ x : Later w, w' = x.now) → Q .normal a' w') l a) : (Code.region id l.toArray true).wpIn (Fence.wide.inRound l0) n P Q a w := by
  simp only [Region.lexB, Bool.and_eq_true] at hB
  refine wpIn_region_any hm (any_round hd _ _ _ _ (wpAnyIn_of_quiet (C := fun w' => ∃ x : Later w, w' = x.now) (Q := fun a' => ∀ w', (∃ x : Later w, w' = x.now) → Q .normal a' w') rfl (fun _ w' hw' h => h w' hw') _ _ _ _ ⟨⟨_, (Below.refl _ _).drew⟩, rfl⟩ ?_))
  have := wpAnyQIn_lex (F := Fence.wide) (n := n) (C := fun w' => ∃ x : Later w, w' = x.now) (md := .any) hB.1 l 0 (Array.replicate l.toArray.size false) a (by simp) (by simpa using hB.2) h
  simpa using this
theorem cb_mk {m : Nat} {l ys : List Nat} (hm : m ≤ 8) (hf : Fam m l) (hb : Bas l) (hy : ∀ y ∈ ys, y ∈ l) : cbR m (N l) (N ys) = 0 := by
  unfold cbR
  rw [if_neg (by rw [chk_mk hm hf hb]; simp), if_pos]
  rw [List.all_eq_true]
  intro y h
  unfold N at h
  rw [List.mem_map] at h
  obtain ⟨x, hx, rfl⟩ := h
  rw [memZ_N]
  unfold memB
  simpa using hy x hx
end Go.Proofs.Ytgfbajkonlaciaa

namespace Go.Proofs.Ytgfbajkonlaciaa
open Go.RowKit Go.Shelf
attribute [local go_sem] Oper.semAt_some

def boxT (w : World) (n : Int) (v : Value) : World := ((w.alloc (.cells #[.int .i64 n, v] 24)).alloc (.cells #[.slice none 0 0] 22)).alloc (.cells #[.int .i64 0] 26)
theorem boxT_blocks {w w2 : World} {n : Int} {v : Value} (hb2 : Below (boxT w n v).heap.size (boxT w n v) w2) :
    w2.heap[w.heap.size]? = some (.cells #[.int .i64 n, v] 24 (0, 0)) ∧ w2.heap[w.heap.size + 1]? = some (.cells #[.slice none 0 0] 22 (0, 0)) ∧ w2.heap[w.heap.size + 1 + 1]? = some (.cells #[.int .i64 0] 26 (0, 0)) ∧ w.heap.size + 3 ≤ w2.heap.size := by
  have hs : (boxT w n v).heap.size = w.heap.size + 3 := by unfold boxT; simp
  refine ⟨(hb2.block _ (by omega)).trans ?_, (hb2.block _ (by omega)).trans ?_, (hb2.block _ (by omega)).trans ?_, by have := hb2.size; omega⟩
  · unfold boxT
    rw [Below.heap_alloc _ _ _ (by simp; omega), Below.heap_alloc _ _ _ (by simp)]
    exact World.alloc_heap_new w _
  · unfold boxT
    rw [Below.heap_alloc _ _ _ (by simp)]
    have := World.alloc_heap_new (w.alloc (.cells #[.int .i64 n, v] 24)) (.cells #[.slice none 0 0] 22)
    simpa using this
  · unfold boxT
    have := World.alloc_heap_new ((w.alloc (.cells #[.int .i64 n, v] 24)).alloc (.cells #[.slice none 0 0] 22)) (.cells #[.int .i64 0] 26)
    simpa using this
theorem two_cellsT {w : World} {b : Nat} {x y : Value} {t : TypeId} (h : w.heap[b]? = some (.cells #[x, y] t (0, 0))) : w.cell? ⟨b, 0, none⟩ = some x := by simp [World.cell?, h]
theorem one_cellT {w : World} {b : Nat} {x : Value} {t : TypeId} (h : w.heap[b]? = some (.cells #[x] t (0, 0))) : w.cell? ⟨b, 0, none⟩ = some x ∧ w.frozen? ⟨b, 0, none⟩ = false := by simp [World.cell?, World.frozen?, h]
/-- Is there a loop? -/
def loopB (m : Nat) (r : Nat → Nat) : Bool := (els (2 ^ m - 1)).any fun i => r (bt i) == 0
theorem el_full {m : Nat} (hm : m ≤ 8) (x : El (2 ^ m - 1)) : bt x.1 < 2 ^ m := by
  have := (mem_els (lt256 hm (full_lt m))).1 x.2
  rw [full_bit] at this
  unfold bt
  exact Nat.pow_lt_pow_right (by omega) (by simpa using this)
def RwlEnds (w : World) (m : Nat) (l : List Nat) (e : Ending) (w' : World) : Prop := ((loopB m (rk l) = false ∧ ∃ r, e = .returned (.tuple #[r, .int .i64 0]) ∧ RkAt w' r (2 ^ m) (rk l)) ∨ (loopB m (rk l) = true ∧ e = .returned (.tuple #[.slice none 0 0, .int .i64 5]))) ∧ Below w.heap.size w w'
theorem loop_free {m : Nat} {l : List Nat} (hm : m ≤ 8) (hb : Bas l) : loopB m (rk l) = false → NoLoop m (rk l) := fun h => by
  refine noLoop_of (hb.rkOn m) fun i hi e => ?_
  have hin : i ∈ els (2 ^ m - 1) := (mem_els (lt256 hm (full_lt m))).2 (by rw [full_bit]; simpa using hi)
  have : loopB m (rk l) = true := List.any_eq_true.2 ⟨i, hin, by unfold bt; rw [e]; rfl⟩
  rw [h] at this
  cases this
end Go.Proofs.Ytgfbajkonlaciaa
