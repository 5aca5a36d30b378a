/- axioms.ranks. -/
import Derived.Deep.QuietTactic
import Derived.BigQuiet
import Derived.Deep.RegionWith
import Derived.Deep.OwnRows
import Derived.Test.YtomajfpincehnaaIndQ
namespace Go.Proofs.Ytomajfpincehnaa
open Go.RowKit

/-- m is a matroid's value: n and a slice that holds bs. -/
def Mat (w : World) (m : Value) (n : Int) (zs : List Int) : Prop := ∃ v, m = .agg #[.int .i64 n, v] ∧ Ints w v zs
theorem Mat.below {w w' : World} {m : Value} {n : Int} {zs : List Int} (h : Mat w m n zs) (hb : Below w.heap.size w w') : Mat w' m n zs := by
  obtain ⟨v, rfl, hv⟩ := h
  exact ⟨v, rfl, hv.below hb⟩

/-- A block of T numbers. -/
structure Tbl (g : Nat) (w : World) (T : Nat) (f : Nat → Nat) : Prop where
  cell : ∀ i, i < T → w.cell? ⟨g, i, none⟩ = some (.int .i64 (f i : Nat))
  frozen : ∀ i, w.frozen? ⟨g, i, none⟩ = false
  size : g < w.heap.size
theorem Tbl.set {g : Nat} {w : World} {T : Nat} {f f' : Nat → Nat} (h : Tbl g w T f) (j x : Nat) (hj : j < T) (hf : ∀ i, i < T → f' i = if j = i then x else f i) : Tbl g (w.setCell ⟨g, j, none⟩ (.int .i64 (x : Nat))) T f' := by
  refine ⟨fun i hi => ?_, fun i => (World.frozen?_setCell _ _ _ _).trans (h.frozen i), by simpa using h.size⟩
  rw [hf i hi]
  by_cases e : j = i
  · subst e
    rw [World.cell?_setCell_same _ _ _ (h.cell j hj)]; simp
  · rw [World.cell?_setCell_other _ _ _ _ (by simp), h.cell i hi]
    simp [e]
theorem Tbl.congr {g : Nat} {w : World} {T : Nat} {f f' : Nat → Nat} (h : Tbl g w T f) (hf : ∀ i, i < T → f' i = f i) : Tbl g w T f' := ⟨fun i hi => by rw [hf i hi]; exact h.cell i hi, h.frozen, h.size⟩
theorem Tbl.drewN {g : Nat} {w : World} {T : Nat} {f : Nat → Nat} (h : Tbl g w T f) (n : Nat) : Tbl g (w.drewN n) T f := ⟨h.cell, h.frozen, h.size⟩
theorem Tbl.drew {g : Nat} {w : World} {T : Nat} {f : Nat → Nat} (h : Tbl g w T f) : Tbl g w.drew T f := ⟨h.cell, h.frozen, h.size⟩
theorem Tbl.new (w : World) (T : Nat) : Tbl w.heap.size (w.alloc (.cells (madeCells #[.int .i64 0] T) 3)) T (fun _ => 0) := by
  refine ⟨fun i hi => ?_, fun i => World.frozen?_alloc_at _ _ _ _ rfl, by simp⟩
  rw [World.cell?_alloc_at _ _ _ _ rfl]
  simp [madeCells, hi, Nat.mod_one]
theorem Tbl.rkAt {g : Nat} {w : World} {T cap : Nat} {f : Nat → Nat} (h : Tbl g w T f) : RkAt w (.slice (some ⟨g, 0, none⟩) T cap) T f := ⟨g, 0, cap, rfl, h.size, fun i hi => by rw [Nat.zero_add]; exact h.cell i hi⟩
/-- The rank by the first k bases. -/
def rkTo (l : List Nat) (k s : Nat) : Nat := rk (l.take k) s
theorem rkTo_succ {l : List Nat} {k : Nat} (h : k < l.length) (s : Nat) : rkTo l (k + 1) s = max (rkTo l k s) (pop (s &&& l.getD k 0)) := by
  unfold rkTo rk
  rw [take_snoc h, List.foldl_append]
  rfl
theorem rk_le8 (l : List Nat) (hl : ∀ s ∈ l, s < 256) (s : Nat) : rk l s ≤ 8 := by
  rcases fold_at (fun b => pop (s &&& b)) l 0 with g | ⟨b, hb, g⟩
  · unfold rk; omega
  · have := pop_le (s &&& b) (by rw [Nat.and_comm]; exact and_lt (hl b hb))
    unfold rk
    omega

set_option maxRecDepth 20000 in
set_option maxHeartbeats 4000000 in
theorem ranks_any (n : Nat) (v : Value) (l : List Nat) (w : World) (hn : n ≤ 8) (hl : ∀ s ∈ l, s < 256) (h : Ints w v (N l)) :
    Calls Try.prog 60 #[.agg #[.int .i64 n, v]] w fun e w' => ∃ r, e = .returned r ∧ RkAt w' r (2 ^ n) (rk l) ∧ Below w.heap.size w w' := by
  obtain ⟨T, HT, hT2, hT1, hTw⟩ : ∃ T : Nat, Hid (T = 2 ^ n) ∧ T ≤ 256 ∧ 1 ≤ T ∧ wrap64 (2 ^ n) = (T : Int) := ⟨2 ^ n, rfl, (pow_wrap _ hn).2, Nat.one_le_two_pow, (pow_wrap _ hn).1⟩
  rw [← HT.out]
  obtain ⟨a, cap, rfl, hlen, hc⟩ := h.nats
  clear h
  have hmk := fun w => run_make_row' (P := Try.prog) 28 3 (.int .i64 0) 8 Try.underlying28 Try.infoInt rfl .i64 .i64 T (by omega) (by omega) w
  go_enter Try.func60, Try.ntmps60
  go_wp2_with fail
  obtain ⟨W1, hW1⟩ : ∃ W1, (w.alloc (.cells #[.int .i64 n, .slice a l.length cap] 30)).alloc (.cells (madeCells #[.int .i64 0] T) 3) = W1 := ⟨_, rfl⟩
  have hx1 : W1.cell? ⟨w.heap.size, 1, none⟩ = some (.slice a l.length cap) := by
    rw [← hW1]
    exact cellA _ (by rw [World.cell?_alloc_at _ _ _ _ rfl]; rfl)
  have tb : Tbl (w.heap.size + 1) W1 T (fun i => if i < 0 then rk l i else 0) := by
    have := Tbl.new (w.alloc (.cells #[.int .i64 n, .slice a l.length cap] 30)) T
    rw [World.size_alloc, hW1] at this
    exact this.congr (by simp)
  have hB0 : Below w.heap.size w W1 := by
    rw [← hW1]
    exact ((Below.refl _ w).alloc (Nat.le_refl _) _).alloc (by simp) _
  have hsz : W1.heap.size = w.heap.size + 1 + 1 := by rw [← hW1]; simp
  rw [hW1]
  clear hW1 hmk
  go_loopw [13] (fun i wr => ∃ k : Nat, k ≤ T ∧ i = .int .i64 k ∧ Tbl (w.heap.size + 1) wr T (fun i => if i < k then rk l i else 0) ∧ Below (w.heap.size + 1) W1 wr) (fun i _ => T - (intOf i).toNat)
  case atStart => exact ⟨0, Nat.zero_le _, rfl, tb, Below.refl _ _⟩
  case round =>
    obtain ⟨k, hk, rfl, htb, hnx⟩ := hrel
    have hx : wr.cell? ⟨w.heap.size, 1, none⟩ = some (.slice a l.length cap) := (hnx.cell (p := ⟨w.heap.size, 1, none⟩) (by show w.heap.size < _; omega)).trans hx1
    by_cases hlt : k < T
    · go_wp2_with fail
      go_loopw [19] (fun i wr => ∃ j : Nat, j ≤ l.length ∧ i = .int .i64 j ∧ Tbl (w.heap.size + 1) wr T (fun i => if i < k then rk l i else if i = k then rkTo l j k else 0) ∧ Below (w.heap.size + 1) W1 wr) (fun i _ => l.length - (intOf i).toNat)
      case atStart => exact ⟨0, Nat.zero_le _, rfl, htb.congr (fun i hi => by
        by_cases h1 : i < k
        · simp [h1]
        · by_cases h2 : i = k <;> simp [h1, h2, rkTo, rk]), hnx⟩
      case round =>
        rename_i wr0 _
        obtain ⟨j, hj, rfl, htb', hnx'⟩ := hrel
        by_cases hlt' : j < l.length
        · obtain ⟨b, off, rfl, hb, hcell⟩ := hc (by omega)
          have hck : wr.cell? ⟨b, off + j, none⟩ = some (.int .i64 (l.getD j 0 : Nat)) := (hnx'.cell (p := ⟨b, off + j, none⟩) (by show b < _; omega)).trans ((hB0.cell (p := ⟨b, off + j, none⟩) hb).trans (hcell j hlt'))
          have hcr := htb'.cell k hlt
          have hfr := htb'.frozen k
          simp only [Nat.lt_irrefl, if_false, if_true] at hcr
          have R := hid (rkTo_succ hlt' k)
          have hx8 := getD_lt hl j
          have h8 : rkTo l j k ≤ 8 := rk_le8 _ (fun s hs => hl s (List.mem_of_mem_take hs)) k
          clear hcell
          generalize l.getD j 0 = x at *
          generalize rkTo l j k = y at *
          have hand : bits .and .i64 (k : Int) (x : Int) = ((k &&& x : Nat) : Int) := i64_and_nat k x (by omega) (by omega)
          have hkx : k &&& x < 256 := and_lt (by omega)
          have hp8 := pop_le _ hkx
          generalize k &&& x = z at *
          have fin : ∀ (u : Nat), max y (pop z) = u → (∃ j_1 : Nat, j_1 ≤ l.length ∧ ((j : Int) + 1) = (j_1 : Int) ∧ (Tbl (w.heap.size + 1) (wr.setCell ⟨w.heap.size + 1, k, none⟩ (Value.int IntKind.i64 (u : Int))).drew T fun i => if i < k then rk l i else if i = k then rkTo l j_1 k else 0) ∧ Below (w.heap.size + 1) W1 (wr.setCell ⟨w.heap.size + 1, k, none⟩ (Value.int IntKind.i64 (u : Int))).drew) ∧ l.length - (intOf (Value.int IntKind.i64 ((j : Int) + 1))).toNat < l.length - (intOf (Value.int IntKind.i64 (j : Int))).toNat := fun u hu => by
            refine ⟨⟨j + 1, by omega, by omega, (htb'.set k u hlt (fun i hi => ?_)).drew, (hnx'.setCell (p := ⟨w.heap.size + 1, k, none⟩) (Nat.le_refl _) _).drew⟩, by simp [intOf]; omega⟩
            by_cases h1 : i < k
            · simp [h1]; omega
            · by_cases h2 : i = k
              · subst h2; simp [R.out, hu]
              · have h3 : ¬ k = i := fun e => h2 e.symm
                simp [h1, h2, h3]
          have FIN := hid fin
          clear fin
          go_wp2_with fail
          go_region_with (go_at_call 26; refine (size_any _ _ (by assumption)).mono ?_; rintro e w' ⟨rfl, rfl⟩)
          all_goals go_wp2_with fail
          all_goals first
            | exact FIN.out _ (Nat.max_eq_right (by omega))
            | exact FIN.out _ (Nat.max_eq_left (by omega))
        · have hj' : j = l.length := by omega
          subst hj'
          have HT' := hid (htb'.congr (f' := fun i => if i < k + 1 then rk l i else 0) (fun i hi => by
            by_cases h1 : i < k
            · have h3 : i < k + 1 := by omega
              simp [h1, h3]
            · by_cases h2 : i = k
              · subst h2; simp [rkTo]
              · have h3 : ¬ i < k + 1 := by omega
                simp [h1, h2, h3]))
          go_wp2_with fail
          go_roundw
          case rel => exact ⟨k + 1, by omega, by go_num, HT'.out, hnx'⟩
          case measure => simp [intOf]; omega
    · have hk' : k = T := by omega
      subst hk'
      have HT' := hid (htb.congr (f' := rk l) (fun i hi => by simp [hi]))
      go_wp2_with fail
      go_ret
      exact ⟨_, rfl, HT'.out.rkAt, hB0.trans (hnx.mono (by omega))⟩
end Go.Proofs.Ytomajfpincehnaa
