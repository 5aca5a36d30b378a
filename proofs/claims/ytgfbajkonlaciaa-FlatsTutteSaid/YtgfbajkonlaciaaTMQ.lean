/- Tables of tables: a slice of rows of numbers, each row in a block of its own. -/
import Derived.Test.YtgfbajkonlaciaaQBelW
import Derived.Test.YtgfbajkonlaciaaFlAQ
namespace Go.Proofs.Ytgfbajkonlaciaa
open Go.RowKit

theorem Try.infoRow64 : (Try.prog.info? 25).map (fun i => (i.zero, i.size, i.bytes)) = some (some (.slice none 0 0), 1, 24) := by kernel_rfl
theorem Try.undRows64 : Try.prog.underlying 47 = some (.slice 25) := by kernel_rfl
/-- N rows of M numbers each, laid one behind the other. -/
structure TblM (g : Nat) (w : World) (N M : Nat) (f : Nat → Nat → Int) : Prop where
  head : ∀ i, i < N → w.cell? ⟨g, i, none⟩ = some (.slice (some ⟨g + 1 + i, 0, none⟩) M M)
  row : ∀ i, i < N → TblZ (g + 1 + i) w M (f i)
  size : g < w.heap.size
theorem TblZ.other {g : Nat} {w : World} {T : Nat} {f : Nat → Int} (h : TblZ g w T f) (p : Addr) (v : Value) (hp : p.block ≠ g) : TblZ g (w.setCell p v) T f :=
  ⟨fun i hi => (World.cell?_setCell_other _ _ _ _ (fun e => hp (by rw [e]))).trans (h.cell i hi), fun i => (World.frozen?_setCell _ _ _ _).trans (h.frozen i), by rw [World.size_setCell]; exact h.size⟩
theorem TblM.below {g : Nat} {w w' : World} {N M : Nat} {f : Nat → Nat → Int} (h : TblM g w N M f) (hb : Below w.heap.size w w') : TblM g w' N M f :=
  ⟨fun i hi => (hb.cell (p := ⟨g, i, none⟩) h.size).trans (h.head i hi), fun i hi => (h.row i hi).below hb, Nat.lt_of_lt_of_le h.size hb.size⟩
theorem TblM.congr {g : Nat} {w : World} {N M : Nat} {f f' : Nat → Nat → Int} (h : TblM g w N M f) (hf : ∀ i, i < N → ∀ j, j < M → f' i j = f i j) : TblM g w N M f' :=
  ⟨h.head, fun i hi => (h.row i hi).congr (hf i hi), h.size⟩
theorem TblM.drewN {g : Nat} {w : World} {N M : Nat} {f : Nat → Nat → Int} (h : TblM g w N M f) (n : Nat) : TblM g (w.drewN n) N M f := ⟨h.head, fun i hi => (h.row i hi).drewN n, h.size⟩
theorem TblM.drew {g : Nat} {w : World} {N M : Nat} {f : Nat → Nat → Int} (h : TblM g w N M f) : TblM g w.drew N M f := ⟨h.head, fun i hi => (h.row i hi).drew, h.size⟩
theorem TblM.set {g : Nat} {w : World} {N M : Nat} {f f' : Nat → Nat → Int} (h : TblM g w N M f) (i j : Nat) (x : Int) (hi : i < N) (hj : j < M) (hf : ∀ a, a < N → ∀ b, b < M → f' a b = if i = a ∧ j = b then x else f a b) : TblM g (w.setCell ⟨g + 1 + i, j, none⟩ (.int .i64 x)) N M f' := by
  refine ⟨fun a ha => (World.cell?_setCell_other _ _ _ _ (fun e => ?_)).trans (h.head a ha), fun a ha => ?_, by rw [World.size_setCell]; exact h.size⟩
  · have := congrArg Addr.block e
    simp at this
    omega
  · by_cases e : i = a
    · subst e
      exact (h.row i hi).set j x hj fun b hb => by rw [hf i hi b hb]; simp
    · refine ((h.row a ha).other _ _ (by show g + 1 + i ≠ g + 1 + a; omega)).congr fun b hb => ?_
      rw [hf a ha b hb]; simp [e]
/-- The rows while they are laid. -/
structure TblH (g : Nat) (w : World) (N M k : Nat) : Prop where
  done : ∀ i, i < k → w.cell? ⟨g, i, none⟩ = some (.slice (some ⟨g + 1 + i, 0, none⟩) M M)
  todo : ∀ i, k ≤ i → i < N → w.cell? ⟨g, i, none⟩ = some (.slice none 0 0)
  frozen : ∀ i, w.frozen? ⟨g, i, none⟩ = false
  row : ∀ i, i < k → TblZ (g + 1 + i) w M fun _ => 0
  size : w.heap.size = g + 1 + k
theorem TblH.new (w : World) (N M : Nat) (t : TypeId) : TblH w.heap.size (w.alloc (.cells (madeCells #[.slice none 0 0] N) t)) N M 0 := by
  refine ⟨fun i hi => by omega, fun i _ hi => ?_, fun i => World.frozen?_alloc_at _ _ _ _ rfl, fun i hi => by omega, by simp⟩
  rw [World.cell?_alloc_at _ _ _ _ rfl]
  simp [madeCells, hi, Nat.mod_one]
theorem TblH.step {g : Nat} {w : World} {N M k : Nat} (h : TblH g w N M k) (hk : k < N) (t : TypeId) : TblH g ((w.alloc (.cells (madeCells #[.int .i64 0] M) t)).setCell ⟨g, k, none⟩ (.slice (some ⟨w.heap.size, 0, none⟩) M M)) N M (k + 1) := by
  have hs := h.size
  have hb : Below w.heap.size w (w.alloc (.cells (madeCells #[.int .i64 0] M) t)) := (Below.refl _ _).alloc (Nat.le_refl _) _
  have hc : ∀ i, (w.alloc (.cells (madeCells #[.int .i64 0] M) t)).cell? ⟨g, i, none⟩ = w.cell? ⟨g, i, none⟩ := fun i => hb.cell (p := ⟨g, i, none⟩) (by show g < _; omega)
  refine ⟨fun i hi => ?_, fun i hi hi2 => ?_, fun i => ?_, fun i hi => ?_, by simp [hs]; omega⟩
  · by_cases e : k = i
    · subst e
      rw [World.cell?_setCell_same' _ _ _ (by rw [hc, h.todo k (Nat.le_refl _) hk]; rfl), hs]
    · rw [World.cell?_setCell_other _ _ _ _ (by simp <;> omega), hc]
      exact h.done i (by omega)
  · rw [World.cell?_setCell_other _ _ _ _ (by simp <;> omega), hc]
    exact h.todo i (by omega) hi2
  · exact (World.frozen?_setCell _ _ _ _).trans ((froz_below hb (b := g) (off := i) (by omega)).trans (h.frozen i))
  · by_cases e : k = i
    · subst e
      have := (TblZ.new w M t).other ⟨g, k, none⟩ (.slice (some ⟨w.heap.size, 0, none⟩) M M) (by show g ≠ w.heap.size; omega)
      rwa [← hs]
    · exact ((h.row i (by omega)).below hb).other _ _ (by show g ≠ g + 1 + i; omega)
theorem TblH.full {g : Nat} {w : World} {N M : Nat} (h : TblH g w N M N) : TblM g w N M fun _ _ => 0 := ⟨h.done, h.row, by have := h.size; omega⟩
end Go.Proofs.Ytgfbajkonlaciaa
