/- Tables of numbers of whatever sign. -/
import Derived.Test.YtcncaaeofcmefaaFamsW
import Derived.Test.YtcncaaeofcmefaaGiveW
namespace Go.Proofs.Ytcncaaeofcmefaa
open Go.RowKit

/-- A block of T numbers, of whatever sign. -/
structure TblZ (g : Nat) (w : World) (T : Nat) (f : Nat → Int) : Prop where
  cell : ∀ i, i < T → w.cell? ⟨g, i, none⟩ = some (.int .i64 (f i))
  frozen : ∀ i, w.frozen? ⟨g, i, none⟩ = false
  size : g < w.heap.size
theorem TblZ.set {g : Nat} {w : World} {T : Nat} {f f' : Nat → Int} (h : TblZ g w T f) (j : Nat) (x : Int) (hj : j < T) (hf : ∀ i, i < T → f' i = if j = i then x else f i) : TblZ g (w.setCell ⟨g, j, none⟩ (.int .i64 x)) T f' := by
  refine ⟨fun i hi => ?_, fun i => (World.frozen?_setCell _ _ _ _).trans (h.frozen i), by simpa using h.size⟩
  rw [hf i hi]
  by_cases e : j = i
  · subst e
    rw [World.cell?_setCell_same _ _ _ (h.cell j hj)]; simp
  · rw [World.cell?_setCell_other _ _ _ _ (by simp), h.cell i hi]
    simp [e]
theorem TblZ.congr {g : Nat} {w : World} {T : Nat} {f f' : Nat → Int} (h : TblZ g w T f) (hf : ∀ i, i < T → f' i = f i) : TblZ g w T f' := ⟨fun i hi => by rw [hf i hi]; exact h.cell i hi, h.frozen, h.size⟩
theorem TblZ.below {g : Nat} {w w' : World} {T : Nat} {f : Nat → Int} (h : TblZ g w T f) (hb : Below w.heap.size w w') : TblZ g w' T f :=
  ⟨fun i hi => (hb.cell (p := ⟨g, i, none⟩) h.size).trans (h.cell i hi), fun i => (froz_below hb h.size).trans (h.frozen i), Nat.lt_of_lt_of_le h.size hb.size⟩
def RkZ (w : World) (v : Value) (T : Nat) (f : Nat → Int) : Prop := ∃ b off cap, v = .slice (some ⟨b, off, none⟩) T cap ∧ b < w.heap.size ∧ ∀ i, i < T → w.cell? ⟨b, off + i, none⟩ = some (.int .i64 (f i))
theorem RkZ.below {w w' : World} {v : Value} {T : Nat} {f : Nat → Int} (h : RkZ w v T f) (hb : Below w.heap.size w w') : RkZ w' v T f := by
  obtain ⟨b, off, cap, rfl, h1, h2⟩ := h
  exact ⟨b, off, cap, rfl, Nat.lt_of_lt_of_le h1 hb.size, fun i hi => (hb.cell (p := ⟨b, off + i, none⟩) h1).trans (h2 i hi)⟩
/-- A row being filled. -/
def ztab (k : Nat) (a : Nat → Int) (b : Int) (i : Nat) : Int := if i < k then a i else if i = k then b else 0
theorem ztab_lt {k i : Nat} {b : Int} {a : Nat → Int} (h : i < k) : ztab k a b i = a i := if_pos h
theorem ztab_at {k : Nat} {b : Int} {a : Nat → Int} : ztab k a b k = b := by unfold ztab; simp
theorem ztab_set {k : Nat} {b b' : Int} {a : Nat → Int} (i : Nat) : ztab k a b' i = if k = i then b' else ztab k a b i := by
  unfold ztab
  by_cases h : k = i
  · subst h
    simp
  · have h2 : ¬ i = k := fun e => h e.symm
    simp [h, h2]
theorem ztab_up {k : Nat} {a : Nat → Int} (i : Nat) : ztab (k + 1) a 0 i = ztab k a (a k) i := by
  unfold ztab
  by_cases h : i < k
  · rw [if_pos h, if_pos (by omega)]
  · by_cases h2 : i = k
    · subst h2
      simp
    · have h3 : ¬ i < k + 1 := by omega
      simp [h, h2, h3]
theorem TblZ.new (w : World) (T : Nat) (t : TypeId) : TblZ w.heap.size (w.alloc (.cells (madeCells #[.int .i64 0] T) t)) T (fun _ => 0) := by
  refine ⟨fun i hi => ?_, fun i => World.frozen?_alloc_at _ _ _ _ rfl, by simp⟩
  rw [World.cell?_alloc_at _ _ _ _ rfl]
  simp [madeCells, hi, Nat.mod_one]
theorem TblZ.drewN {g : Nat} {w : World} {T : Nat} {f : Nat → Int} (h : TblZ g w T f) (n : Nat) : TblZ g (w.drewN n) T f := ⟨h.cell, h.frozen, h.size⟩
theorem TblZ.drew {g : Nat} {w : World} {T : Nat} {f : Nat → Int} (h : TblZ g w T f) : TblZ g w.drew T f := ⟨h.cell, h.frozen, h.size⟩
theorem TblZ.rkZ {g : Nat} {w : World} {T cap : Nat} {f : Nat → Int} (h : TblZ g w T f) : RkZ w (.slice (some ⟨g, 0, none⟩) T cap) T f := ⟨g, 0, cap, rfl, h.size, fun i hi => by rw [Nat.zero_add]; exact h.cell i hi⟩
theorem RkAt.cellAt {w w' : World} {b off cap T : Nat} {r : Nat → Nat} (h : RkAt w (.slice (some ⟨b, off, none⟩) T cap) T r) (hb : Below w.heap.size w w') {i : Nat} (hi : i < T) : w'.cell? ⟨b, off + i, none⟩ = some (.int .i64 (r i : Nat)) := by
  obtain ⟨b', off', cp', e, h1, h2⟩ := h.below hb
  obtain ⟨⟨rfl, rfl⟩, rfl⟩ : (b = b' ∧ off = off') ∧ cap = cp' := by simpa using e
  exact h2 i hi
theorem RkZ.cellAt {w w' : World} {b off cap T : Nat} {r : Nat → Int} (h : RkZ w (.slice (some ⟨b, off, none⟩) T cap) T r) (hb : Below w.heap.size w w') {i : Nat} (hi : i < T) : w'.cell? ⟨b, off + i, none⟩ = some (.int .i64 (r i)) := by
  obtain ⟨b', off', cp', e, h1, h2⟩ := h.below hb
  obtain ⟨⟨rfl, rfl⟩, rfl⟩ : (b = b' ∧ off = off') ∧ cap = cp' := by simpa using e
  exact h2 i hi
end Go.Proofs.Ytcncaaeofcmefaa
