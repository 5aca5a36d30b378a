/- kinds.columns. -/
import Derived.Test.YtcncaaeofcmefaaKLmQ
import Derived.Deep.OwnRows
import Derived.Test.YtcncaaeofcmefaaFdAQ
import Derived.Test.YtcncaaeofcmefaaMkToQ
namespace Go.Proofs.Ytcncaaeofcmefaa
open Go.RowKit

/-- The columns, as they are when k rows and m entries of the next are laid. -/
def mtC (R : List (List Int)) (k m j i : Nat) : Int := if i < k ∨ (i = k ∧ j < m) then (R.getD i []).getD j 0 else 0
/-- The columns of a matrix. -/
def mtF (R : List (List Int)) (j i : Nat) : Int := (R.getD i []).getD j 0
end Go.Proofs.Ytcncaaeofcmefaa

namespace Go.Proofs.Ytcncaaeofcmefaa
open Go.RowKit

theorem Try.infoRowI : (Try.prog.info? 28).map (fun i => (i.zero, i.size, i.bytes)) = some (some (.slice none 0 0), 1, 24) := by kernel_rfl
theorem Try.undRowsI : Try.prog.underlying 22 = some (.slice 28) := by kernel_rfl
theorem run_make_rows (n : Nat) (hn : n ≤ 256) (w : World) : (Instr.makeSlice 22 (.int .i64 (n : Int)) (.int .i64 (n : Int))).run Try.prog w = .ok (.slice (some ⟨w.heap.size, 0, none⟩) n n) (w.alloc (.cells (madeCells #[.slice none 0 0] n) 28)) := by
  obtain ⟨i0, hi, hz0, hz1, hz2⟩ := info_parts Try.infoRowI
  have h := run_make (P := Try.prog) w 22 28 i0 (.slice none 0 0) Try.undRowsI hi hz0 .i64 .i64 n n (by omega) (by omega) (by rw [hz2]; omega) (by omega)
  simp only [Int.toNat_natCast, hz1, Nat.mul_one] at h
  exact h
/-- Block g holds N rows of c numbers; row i lies in block rb i. -/
structure MatB (w : World) (g N c : Nat) (rb cp : Nat → Nat) (f : Nat → Nat → Int) : Prop where
  head : ∀ i, i < N → w.cell? ⟨g, i, none⟩ = some (.slice (some ⟨rb i, 0, none⟩) c (cp i))
  frz : ∀ i, w.frozen? ⟨g, i, none⟩ = false
  row : ∀ i, i < N → TblZ (rb i) w c (f i)
  ne : ∀ i, i < N → rb i ≠ g
  inj : ∀ i j, i < N → j < N → rb i = rb j → i = j
  size : g < w.heap.size
theorem save_cell (w : World) (b o : Nat) (u : Value) : Save (fun k => k = b) w (w.setCell ⟨b, o, none⟩ u) := (Save.refl (fun k => k = b) w).setCell (p := ⟨b, o, none⟩) (Or.inl rfl) u
variable {w w' : World} {g N c : Nat} {rb cp : Nat → Nat} {f f' : Nat → Nat → Int}
theorem MatB.save {X : Nat → Prop} (h : MatB w g N c rb cp f) (hs : Save X w w') (hg : ¬ X g) (hr : ∀ i, i < N → ¬ X (rb i)) : MatB w' g N c rb cp f :=
  ⟨fun i hi => (World.cell?_of_block (hs.block g h.size hg)).trans (h.head i hi), fun i => (World.frozen?_of_block (hs.block g h.size hg)).trans (h.frz i), fun i hi => (h.row i hi).save hs (hr i hi), h.ne, h.inj, Nat.lt_of_lt_of_le h.size hs.size⟩
theorem MatB.below (h : MatB w g N c rb cp f) (hb : Below w.heap.size w w') : MatB w' g N c rb cp f := h.save (X := fun _ => False) (Save.of_below hb) id fun _ _ => id
theorem MatB.congr (h : MatB w g N c rb cp f) (hf : ∀ i, i < N → ∀ r, r < c → f' i r = f i r) : MatB w g N c rb cp f' := ⟨h.head, h.frz, fun i hi => (h.row i hi).congr (hf i hi), h.ne, h.inj, h.size⟩
theorem MatB.drewN (h : MatB w g N c rb cp f) (n : Nat) : MatB (w.drewN n) g N c rb cp f := ⟨h.head, h.frz, fun i hi => (h.row i hi).drewN n, h.ne, h.inj, h.size⟩
theorem MatB.drew (h : MatB w g N c rb cp f) : MatB w.drew g N c rb cp f := ⟨h.head, h.frz, fun i hi => (h.row i hi).drew, h.ne, h.inj, h.size⟩
theorem MatB.put (h : MatB w g N c rb cp f) {i : Nat} (hi : i < N) {q : Nat → Int} (hq : TblZ (rb i) w' c q) (hs : Save (fun b => b = rb i) w w') (hf : ∀ j, j < N → ∀ r, r < c → f' j r = if j = i then q r else f j r) : MatB w' g N c rb cp f' := by
  refine ⟨fun j hj => (World.cell?_of_block (hs.block g h.size fun e => h.ne i hi e.symm)).trans (h.head j hj), fun j => (World.frozen?_of_block (hs.block g h.size fun e => h.ne i hi e.symm)).trans (h.frz j), fun j hj => ?_, h.ne, h.inj, Nat.lt_of_lt_of_le h.size hs.size⟩
  by_cases e : j = i
  · subst e
    exact hq.congr fun r hr => by rw [hf j hj r hr, if_pos rfl]
  · exact ((h.row j hj).save hs fun e2 => e (h.inj j i hj hi e2)).congr fun r hr => by rw [hf j hj r hr, if_neg e]
theorem MatB.set (h : MatB w g N c rb cp f) {i r : Nat} (hi : i < N) (hr : r < c) (x : Int) (hf : ∀ j, j < N → ∀ s, s < c → f' j s = if j = i ∧ s = r then x else f j s) : MatB (w.setCell ⟨rb i, r, none⟩ (.int .i64 x)) g N c rb cp f' := by
  refine h.put hi (q := fun s => if r = s then x else f i s) ((h.row i hi).set r x hr fun s hs => rfl) (save_cell _ _ _ _) fun j hj s hs => ?_
  rw [hf j hj s hs]
  by_cases e : j = i
  · subst e
    by_cases e2 : s = r
    · subst e2; simp
    · have : ¬ r = s := fun e => e2 e.symm
      simp [e2, this]
  · simp [e]
/-- The rows of a matrix as lists. -/
def matL (N c : Nat) (f : Nat → Nat → Int) : List (List Int) := (List.range N).map fun i => (List.range c).map (f i)
theorem matL_len (N c : Nat) (f : Nat → Nat → Int) : (matL N c f).length = N := by simp [matL]
theorem matL_row {i : Nat} (hi : i < N) (f : Nat → Nat → Int) : (matL N c f).getD i [] = (List.range c).map (f i) := by simp [matL, List.getD, hi]
theorem matL_at {i r : Nat} (hi : i < N) (hr : r < c) (f : Nat → Nat → Int) : ((matL N c f).getD i []).getD r 0 = f i r := by rw [matL_row hi]; simp [List.getD, hr]
theorem matL_congr (h : ∀ i, i < N → ∀ r, r < c → f i r = f' i r) : matL N c f = matL N c f' := by
  unfold matL
  refine List.map_congr_left fun i hi => List.map_congr_left fun r hr => h i (List.mem_range.1 hi) r (List.mem_range.1 hr)
theorem TblZ.ints {b T cap : Nat} {q : Nat → Int} (h : TblZ b w T q) (hT : T ≤ 256) : Ints w (.slice (some ⟨b, 0, none⟩) T cap) ((List.range T).map q) := by
  refine ⟨_, cap, by simp, by simp; omega, fun hn => ⟨b, 0, rfl, h.size, fun i hi => ?_⟩⟩
  have hi2 : i < T := by simpa using hi
  rw [Nat.zero_add, h.cell i hi2]
  simp [List.getD, hi2]
theorem MatB.rows (h : MatB w g N c rb cp f) (hN : N ≤ 256) (hc : c ≤ 256) (cap : Nat) {k : Nat} (hk : k ≤ N) : RowsI w (.slice (some ⟨g, 0, none⟩) k cap) (matL k c f) := by
  refine ⟨_, cap, by rw [matL_len], by rw [matL_len]; omega, fun hn => ⟨g, 0, rfl, h.size, fun i hi => ?_⟩⟩
  rw [matL_len] at hi
  refine ⟨_, by rw [Nat.zero_add]; exact h.head i (by omega), ?_⟩
  rw [matL_row hi]
  exact (h.row i (by omega)).ints hc
/-- A slice of rows all of which lie in blocks from B on. -/
def RowsN (B : Nat) (w : World) (v : Value) (R : List (List Int)) : Prop := ∃ a cap, v = .slice a R.length cap ∧ R.length ≤ cap ∧ R.length ≤ 17592186044416 ∧ (0 < R.length → ∃ b off, a = some ⟨b, off, none⟩ ∧ B ≤ b ∧ b < w.heap.size ∧ ∀ i, i < R.length → ∃ a2 cap2, w.cell? ⟨b, off + i, none⟩ = some (.slice a2 (R.getD i []).length cap2) ∧ (R.getD i []).length ≤ 17592186044416 ∧ (0 < (R.getD i []).length → ∃ b2 off2, a2 = some ⟨b2, off2, none⟩ ∧ B ≤ b2 ∧ b2 < w.heap.size ∧ ∀ r, r < (R.getD i []).length → w.cell? ⟨b2, off2 + r, none⟩ = some (.int .i64 ((R.getD i []).getD r 0))))
theorem RowsN.rows {B : Nat} {w : World} {v : Value} {R : List (List Int)} (h : RowsN B w v R) : RowsI w v R := by
  obtain ⟨a, cap, h1, -, h2, h3⟩ := h
  refine ⟨a, cap, h1, h2, fun h0 => ?_⟩
  obtain ⟨b, off, h4, -, h5, h6⟩ := h3 h0
  refine ⟨b, off, h4, h5, fun i hi => ?_⟩
  obtain ⟨a2, cap2, g1, g2, g3⟩ := h6 i hi
  refine ⟨_, g1, a2, cap2, rfl, g2, fun h0 => ?_⟩
  obtain ⟨b2, off2, g4, -, g5, g6⟩ := g3 h0
  exact ⟨b2, off2, g4, g5, g6⟩
theorem RowsN.save {B : Nat} {X : Nat → Prop} {w w' : World} {v : Value} {R : List (List Int)} (h : RowsN B w v R) (hs : Save X w w') (hX : ∀ b, B ≤ b → ¬ X b) : RowsN B w' v R := by
  obtain ⟨a, cap, h1, hcp, h2, h3⟩ := h
  refine ⟨a, cap, h1, hcp, h2, fun h0 => ?_⟩
  obtain ⟨b, off, h4, h5, h6, h7⟩ := h3 h0
  refine ⟨b, off, h4, h5, Nat.lt_of_lt_of_le h6 hs.size, fun i hi => ?_⟩
  obtain ⟨a2, cap2, g1, g2, g3⟩ := h7 i hi
  refine ⟨a2, cap2, (World.cell?_of_block (hs.block b h6 (hX b h5))).trans g1, g2, fun h0 => ?_⟩
  obtain ⟨b2, off2, g4, g5, g6, g7⟩ := g3 h0
  exact ⟨b2, off2, g4, g5, Nat.lt_of_lt_of_le g6 hs.size, fun r hr => (World.cell?_of_block (hs.block b2 g6 (hX b2 g5))).trans (g7 r hr)⟩
theorem RowsN.mono {B B' : Nat} {w : World} {v : Value} {R : List (List Int)} (h : RowsN B w v R) (hB : B' ≤ B) : RowsN B' w v R := by
  obtain ⟨a, cap, h1, hcp, h2, h3⟩ := h
  refine ⟨a, cap, h1, hcp, h2, fun h0 => ?_⟩
  obtain ⟨b, off, h4, h5, h6, h7⟩ := h3 h0
  refine ⟨b, off, h4, by omega, h6, fun i hi => ?_⟩
  obtain ⟨a2, cap2, g1, g2, g3⟩ := h7 i hi
  refine ⟨a2, cap2, g1, g2, fun h0 => ?_⟩
  obtain ⟨b2, off2, g4, g5, g6, g7⟩ := g3 h0
  exact ⟨b2, off2, g4, by omega, g6, g7⟩
theorem RowsN.nil (B : Nat) (w : World) : RowsN B w (.slice none 0 0) [] := ⟨none, 0, rfl, by simp, by simp, fun h => absurd h (Nat.lt_irrefl 0)⟩
theorem RowsN.cap {B : Nat} {w : World} {v : Value} {R : List (List Int)} (h : RowsN B w v R) : ∀ a L c, v = .slice a L c → L ≤ c := fun a L c e => by
  obtain ⟨a', c', h1, h2, -⟩ := h
  rw [h1] at e
  cases e
  exact h2
theorem RowsN.form {B : Nat} {w : World} {v : Value} {R : List (List Int)} (h : RowsN B w v R) : ∃ a cap, v = .slice a R.length cap := by
  obtain ⟨a, cap, h1, -⟩ := h
  exact ⟨a, cap, h1⟩
theorem MatB.rowsN (h : MatB w g N c rb cp f) (hN : N ≤ 256) (hc : c ≤ 256) (cap : Nat) {k B : Nat} (hk : k ≤ N) (hg : B ≤ g) (hr : ∀ i, i < N → B ≤ rb i) (hkc : k ≤ cap) : RowsN B w (.slice (some ⟨g, 0, none⟩) k cap) (matL k c f) := by
  refine ⟨_, cap, by rw [matL_len], by rw [matL_len]; exact hkc, by rw [matL_len]; omega, fun hn => ⟨g, 0, rfl, hg, h.size, fun i hi => ?_⟩⟩
  rw [matL_len] at hi
  rw [matL_row hi]
  refine ⟨_, cp i, by rw [Nat.zero_add, h.head i (by omega)]; simp, by simp; omega, fun h0 => ⟨rb i, 0, rfl, hr i (by omega), (h.row i (by omega)).size, fun r hr2 => ?_⟩⟩
  have hr3 : r < c := by simpa using hr2
  rw [Nat.zero_add, (h.row i (by omega)).cell r hr3]
  simp [List.getD, hr3]
/-- The noughts, while their rows are laid. -/
structure NulH (w : World) (s N c k : Nat) : Prop where
  done : ∀ i, i < k → w.cell? ⟨s + 1, i, none⟩ = some (.slice (some ⟨s + 3 + i, 0, none⟩) c c)
  todo : ∀ i, k ≤ i → i < N → w.cell? ⟨s + 1, i, none⟩ = some (.slice none 0 0)
  frz : ∀ i, w.frozen? ⟨s + 1, i, none⟩ = false
  row : ∀ i, i < k → TblZ (s + 3 + i) w c fun _ => 0
  size : w.heap.size = s + 3 + k
theorem NulH.drewN {s k : Nat} (h : NulH w s N c k) (n : Nat) : NulH (w.drewN n) s N c k := ⟨h.done, h.todo, h.frz, fun i hi => (h.row i hi).drewN n, h.size⟩
theorem NulH.drew {s k : Nat} (h : NulH w s N c k) : NulH w.drew s N c k := ⟨h.done, h.todo, h.frz, fun i hi => (h.row i hi).drew, h.size⟩
theorem NulH.step {s k : Nat} (h : NulH w s N c k) (hk : k < N) (t : TypeId) : NulH ((w.alloc (.cells (madeCells #[.int .i64 0] c) t)).setCell ⟨s + 1, k, none⟩ (.slice (some ⟨w.heap.size, 0, none⟩) c c)) s N c (k + 1) := by
  have hs := h.size
  have hb : Below w.heap.size w (w.alloc (.cells (madeCells #[.int .i64 0] c) t)) := (Below.refl _ _).alloc (Nat.le_refl _) _
  have hc : ∀ i, (w.alloc (.cells (madeCells #[.int .i64 0] c) t)).cell? ⟨s + 1, i, none⟩ = w.cell? ⟨s + 1, i, none⟩ := fun i => hb.cell (p := ⟨s + 1, i, none⟩) (by show s + 1 < _; omega)
  refine ⟨fun i hi => ?_, fun i hi hi2 => ?_, fun i => ?_, fun i hi => ?_, by simp [hs]; omega⟩
  · by_cases e : k = i
    · subst e
      rw [World.cell?_setCell_same' _ _ _ (by rw [hc, h.todo k (Nat.le_refl _) hk]; rfl), hs]
    · rw [World.cell?_setCell_other _ _ _ _ (by simp <;> omega), hc]
      exact h.done i (by omega)
  · rw [World.cell?_setCell_other _ _ _ _ (by simp <;> omega), hc]
    exact h.todo i (by omega) hi2
  · exact (World.frozen?_setCell _ _ _ _).trans ((froz_below hb (b := s + 1) (off := i) (by omega)).trans (h.frz i))
  · by_cases e : k = i
    · subst e
      have := (TblZ.new w c t).save (X := fun b => b = s + 1) (save_cell _ _ k (.slice (some ⟨w.heap.size, 0, none⟩) c c)) (by show ¬ w.heap.size = s + 1; omega)
      rwa [← hs]
    · exact ((h.row i (by omega)).below hb).save (X := fun b => b = s + 1) (save_cell _ _ _ _) (by show ¬ s + 3 + i = s + 1; omega)
theorem NulH.full {s : Nat} (h : NulH w s N c N) : MatB w (s + 1) N c (fun i => s + 3 + i) (fun _ => c) fun _ _ => 0 :=
  ⟨h.done, h.frz, h.row, fun i _ => by omega, fun i j _ _ e => by omega, by have := h.size; omega⟩
end Go.Proofs.Ytcncaaeofcmefaa
