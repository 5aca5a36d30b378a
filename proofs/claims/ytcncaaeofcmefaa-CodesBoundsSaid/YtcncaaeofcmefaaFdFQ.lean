/- field.reduced. -/
import Derived.Test.YtcncaaeofcmefaaFdEQ
namespace Go.Proofs.Ytcncaaeofcmefaa
open Go.RowKit

theorem firstI_from {zs : List Int} : ∀ n k, zs.length - k = n → (firstI zs k = -1 ∧ ∀ j, k ≤ j → j < zs.length → zs.getD j 0 = 0) ∨ ∃ i, k ≤ i ∧ i < zs.length ∧ firstI zs k = (i : Int) ∧ zs.getD i 0 ≠ 0 ∧ ∀ j, k ≤ j → j < i → zs.getD j 0 = 0
  | 0, k, h => .inl ⟨firstI_end (zs := zs) (by omega), fun j h1 h2 => by omega⟩
  | n + 1, k, h => by
    by_cases hz : zs.getD k 0 = 0
    · rw [firstI_miss (zs := zs) (k := k) (by omega) hz]
      rcases firstI_from (zs := zs) n (k + 1) (by omega) with ⟨h1, h2⟩ | ⟨i, h1, h2, h3, h4, h5⟩
      · refine .inl ⟨h1, fun j h3 h4 => ?_⟩
        by_cases e : j = k
        · rw [e]; exact hz
        · exact h2 j (by omega) h4
      · refine .inr ⟨i, by omega, h2, h3, h4, fun j h6 h7 => ?_⟩
        by_cases e : j = k
        · rw [e]; exact hz
        · exact h5 j (by omega) h7
    · exact .inr ⟨k, Nat.le_refl _, by omega, firstI_hit (by omega) hz, hz, fun j h1 h2 => by omega⟩
theorem first_nxt (f : Nat → Nat → Int) (a d N : Nat) : (firstI (colFrom f a d N) 0 = -1 ∧ nxtM f a d N = none) ∨ ∃ i : Nat, firstI (colFrom f a d N) 0 = (i : Int) ∧ nxtM f a d N = some i ∧ d + i < N ∧ f (d + i) a ≠ 0 := by
  have hl : (colFrom f a d N).length = N - d := by simp [colFrom]
  have hg : ∀ k, k < N - d → (colFrom f a d N).getD k 0 = f (d + k) a := fun k hk => by simp [colFrom, List.getD, hk]
  rcases firstI_from (zs := colFrom f a d N) _ 0 rfl with ⟨h1, h2⟩ | ⟨i, -, h2, h3, h4, h5⟩
  · refine .inl ⟨h1, List.find?_eq_none.2 fun k hk => ?_⟩
    have hk := List.mem_range.1 hk
    have := h2 k (Nat.zero_le _) (by omega)
    rw [hg k hk] at this
    simpa using this
  · rw [hl] at h2
    rw [hg i h2] at h4
    refine .inr ⟨i, h3, ?_, by omega, h4⟩
    cases e : nxtM f a d N with
    | none =>
      have := nxt_none e (d + i) (by omega) (by omega)
      exact absurd this h4
    | some k =>
      obtain ⟨h6, h7⟩ := nxt_some e
      rcases Nat.lt_trichotomy k i with hlt | rfl | hlt
      · have := h5 k (Nat.zero_le _) hlt
        rw [hg k (by omega)] at this
        exact absurd this h7
      · rfl
      · unfold nxtM at e
        obtain ⟨-, xs, bs, e2, e3⟩ := List.find?_eq_some_iff_append.1 e
        have hm : i ∈ xs := by
          have h8 : xs = (List.range (N - d)).take xs.length := by rw [e2]; simp
          have h9 : (List.range (N - d))[xs.length]? = some k := by rw [e2]; simp
          have h10 : xs.length = k := by
            have := List.getElem?_eq_some_iff.1 h9
            obtain ⟨hh, h11⟩ := this
            simpa using h11
          rw [h8, h10]
          refine List.mem_take_iff_getElem.2 ⟨i, by simp; omega, by simp⟩
        have := e3 i hm
        simp at this
        exact absurd this h4
/-- The places of two rows. -/
def swpI (d j k : Nat) : Nat := if k = d then j else if k = j then d else k
theorem MatB.swap {w : World} {g N c : Nat} {rb cp : Nat → Nat} {f : Nat → Nat → Int} (h : MatB w g N c rb cp f) {d j : Nat} (hd : d < N) (hj : j < N) : MatB ((w.setCell ⟨g, d, none⟩ (.slice (some ⟨rb j, 0, none⟩) c (cp j))).setCell ⟨g, j, none⟩ (.slice (some ⟨rb d, 0, none⟩) c (cp d))) g N c (fun k => rb (swpI d j k)) (fun k => cp (swpI d j k)) (swpM d j f) := by
  have hs : Save (fun k => k = g) w ((w.setCell ⟨g, d, none⟩ (.slice (some ⟨rb j, 0, none⟩) c (cp j))).setCell ⟨g, j, none⟩ (.slice (some ⟨rb d, 0, none⟩) c (cp d))) := (save_cell w g d _).trans (save_cell _ g j _)
  have hN : ∀ k, k < N → swpI d j k < N := fun k hk => by unfold swpI; split; · exact hj
                                                          split; · exact hd
                                                          exact hk
  refine ⟨fun k hk => ?_, fun k => (World.frozen?_setCell _ _ _ _).trans ((World.frozen?_setCell _ _ _ _).trans (h.frz k)), fun k hk => ?_, fun k hk => h.ne _ (hN k hk), fun a b ha hb e => ?_, Nat.lt_of_lt_of_le h.size hs.size⟩
  · unfold swpI
    by_cases e1 : k = j
    · subst e1
      rw [World.cell?_setCell_same' _ _ _ (by
        by_cases e2 : d = k
        · subst e2; rw [World.cell?_setCell_same' _ _ _ (by rw [h.head d hd]; rfl)]; rfl
        · rw [World.cell?_setCell_other _ _ _ _ (by simp <;> omega), h.head k hk]; rfl)]
      by_cases e2 : k = d
      · subst e2; rw [if_pos rfl]
      · rw [if_neg e2, if_pos rfl]
    · rw [World.cell?_setCell_other _ _ _ _ (by simp <;> omega)]
      by_cases e2 : k = d
      · subst e2
        rw [World.cell?_setCell_same' _ _ _ (by rw [h.head k hk]; rfl), if_pos rfl]
      · rw [World.cell?_setCell_other _ _ _ _ (by simp <;> omega), if_neg e2, if_neg e1]
        exact h.head k hk
  · have hr := (h.row _ (hN k hk)).save hs (h.ne _ (hN k hk))
    have e : swpM d j f k = f (swpI d j k) := by
      unfold swpM swpI
      split; · rfl
      split; · rfl
      rfl
    show TblZ (rb (swpI d j k)) _ c (swpM d j f k)
    rw [e]
    exact hr
  · have := h.inj _ _ (hN a ha) (hN b hb) e
    unfold swpI at this
    split at this <;> split at this <;> (try split at this) <;> (try split at this) <;> omega
/-- The rows while they are cloned. -/
structure ClnH (w : World) (g N c B k : Nat) (rb cp : Nat → Nat) (f : Nat → Nat → Int) : Prop where
  done : ∀ i, i < k → ∃ a, w.cell? ⟨g, i, none⟩ = some (.slice a c (cp i)) ∧ (0 < c → a = some ⟨rb i, 0, none⟩ ∧ TblZ (rb i) w c (f i))
  todo : ∀ i, k ≤ i → i < N → w.cell? ⟨g, i, none⟩ = some (.slice none 0 0)
  frz : ∀ i, w.frozen? ⟨g, i, none⟩ = false
  new : 0 < c → ∀ i, i < k → B ≤ rb i
  inj : 0 < c → ∀ i j, i < k → j < k → rb i = rb j → i = j
  size : g < w.heap.size
theorem ClnH.step {w w' : World} {g N c B k : Nat} {rb cp : Nat → Nat} {f : Nat → Nat → Int} (h : ClnH w g N c B k rb cp f) (hk : k < N) (hB : B ≤ w.heap.size) (hg : g < B) {a : Option Addr} {cap : Nat} (ha : 0 < c → ∃ b, a = some ⟨b, 0, none⟩ ∧ w.heap.size ≤ b ∧ TblZ b w' c (f k)) (hb : Below w.heap.size w w') : ∃ rb', ClnH (w'.setCell ⟨g, k, none⟩ (.slice a c cap)) g N c B (k + 1) rb' (fun i => if i = k then cap else cp i) f := by
  have hc : ∀ i, w'.cell? ⟨g, i, none⟩ = w.cell? ⟨g, i, none⟩ := fun i => hb.cell (p := ⟨g, i, none⟩) h.size
  have hs := save_cell w' g k (.slice a c cap)
  obtain ⟨b0, hb0⟩ : ∃ b0, 0 < c → a = some ⟨b0, 0, none⟩ ∧ w.heap.size ≤ b0 ∧ TblZ b0 w' c (f k) := by
    by_cases h0 : 0 < c
    · obtain ⟨b, e⟩ := ha h0
      exact ⟨b, fun _ => e⟩
    · exact ⟨0, fun h => absurd h h0⟩
  refine ⟨fun i => if i = k then b0 else rb i, fun i hi => ?_, fun i hi hi2 => ?_, fun i => (World.frozen?_setCell _ _ _ _).trans ((froz_below hb h.size).trans (h.frz i)), fun h0 i hi => ?_, fun h0 i j hi hj e => ?_, by rw [World.size_setCell]; exact Nat.lt_of_lt_of_le h.size hb.size⟩
  · by_cases e : i = k
    · subst e
      refine ⟨a, ?_, fun h0 => ?_⟩
      · rw [World.cell?_setCell_same' _ _ _ (by rw [hc, h.todo i (Nat.le_refl _) hk]; rfl), if_pos rfl]
      · obtain ⟨e1, e2, e3⟩ := hb0 h0
        rw [if_pos rfl]
        exact ⟨e1, e3.save hs (by show ¬ b0 = g; omega)⟩
    · obtain ⟨x, x1, x2⟩ := h.done i (by omega)
      refine ⟨x, ?_, fun h0 => ?_⟩
      · rw [World.cell?_setCell_other _ _ _ _ (by simp <;> omega), hc, x1, if_neg e]
      · obtain ⟨y1, y2⟩ := x2 h0
        rw [if_neg e]
        have := h.new h0 i (by omega)
        exact ⟨y1, (y2.below hb).save hs (by show ¬ rb i = g; omega)⟩
  · rw [World.cell?_setCell_other _ _ _ _ (by simp <;> omega), hc]
    exact h.todo i (by omega) hi2
  · show B ≤ if i = k then b0 else rb i
    split
    · have := (hb0 h0).2.1; omega
    · exact h.new h0 i (by omega)
  · have e' : (if i = k then b0 else rb i) = if j = k then b0 else rb j := e
    have hn : ∀ l, l < k → rb l < w.heap.size := fun l hl => by
      obtain ⟨x, x1, x2⟩ := h.done l hl
      exact (x2 h0).2.size
    have hb1 := (hb0 h0).2.1
    by_cases e1 : i = k
    · by_cases e2 : j = k
      · omega
      · rw [if_pos e1, if_neg e2] at e'
        have := hn j (by omega); omega
    · by_cases e2 : j = k
      · rw [if_neg e1, if_pos e2] at e'
        have := hn i (by omega); omega
      · rw [if_neg e1, if_neg e2] at e'
        exact h.inj h0 i j (by omega) (by omega) e'
theorem ClnH.full {w : World} {g N c B : Nat} {rb cp : Nat → Nat} {f : Nat → Nat → Int} (h : ClnH w g N c B N rb cp f) (hg : g < B) (h0 : 0 < c) : MatB w g N c rb cp f :=
  ⟨fun i hi => by
    obtain ⟨x, x1, x2⟩ := h.done i hi
    rw [x1, (x2 h0).1], h.frz, fun i hi => by
    obtain ⟨x, x1, x2⟩ := h.done i hi
    exact (x2 h0).2, fun i hi => by have := h.new h0 i hi; omega, h.inj h0, h.size⟩
end Go.Proofs.Ytcncaaeofcmefaa
