/- The document's ranks: rotaref.Ranks. -/
import Derived.Deep.RegionWith
import Derived.Test.YtbfklamboicddaaRefFamQ
import Derived.Test.YtbfklamboicddaaPlainAll
import Derived.Test.YtbfklamboicddaaQBelQ
import Derived.Test.YtbfklamboicddaaAxQ
namespace Go.Proofs.Ytbfklamboicddaa
open Go.RowKit

theorem All_nat (n : Nat) (w : World) (hn : n ≤ 8) :
    Calls Try.prog 12 #[.int .i64 n] w fun e w' => e = .returned (.int .i64 ((2 ^ n - 1 : Nat) : Int)) ∧ w' = w := by
  have h1 := Nat.one_le_two_pow (n := n)
  refine (All_any n w hn).mono ?_
  rintro e w' ⟨rfl, rfl⟩
  exact ⟨ret_int (by omega), rfl⟩
theorem Tbl.below {g : Nat} {w w' : World} {T : Nat} {f : Nat → Nat} (h : Tbl g w T f) (hb : Below w.heap.size w w') : Tbl g w' T f :=
  ⟨fun i hi => (hb.cell (p := ⟨g, i, none⟩) h.size).trans (h.cell i hi), fun i => (froz_below hb h.size).trans (h.frozen i), Nat.lt_of_lt_of_le h.size hb.size⟩

/-- A reading of the ranks in all later worlds. -/
theorem RkAt.later {w : World} {rb roff T rcap : Nat} {r : Nat → Nat} (h : RkAt w (.slice (some ⟨rb, roff, none⟩) T rcap) T r) {i : Nat} (hi : i < T) : ∀ x : Later w, x.now.cell? ⟨rb, roff + i, none⟩ = some (.int .i64 (r i : Nat)) := fun x => by
  obtain ⟨b', off', cap', heq, hbl, hcells⟩ := h.below x.kept
  obtain ⟨⟨rfl, rfl⟩, rfl⟩ : (rb = b' ∧ roff = off') ∧ rcap = cap' := by simpa using heq
  exact hcells i hi
theorem RkAt.at {w : World} {rb roff T rcap : Nat} {r : Nat → Nat} (h : RkAt w (.slice (some ⟨rb, roff, none⟩) T rcap) T r) {i : Nat} (hi : i < T) : w.cell? ⟨rb, roff + i, none⟩ = some (.int .i64 (r i : Nat)) := h.later hi ⟨w, Below.refl _ _⟩
theorem setR_01 (n s : Int) : setR n s = 0 ∨ setR n s = 1 := by unfold setR; split <;> simp
theorem setR_of {m : Nat} {s : Int} (h : setR m s = 0) : ∃ t : Nat, s = t ∧ t < 2 ^ m := by
  unfold setR at h
  split at h
  · rename_i g
    have e : ((2 ^ m : Nat) : Int) = (2 : Int) ^ m := by simp
    refine ⟨s.toNat, by omega, ?_⟩
    have := g.2.2.2
    rw [Int.toNat_natCast, ← e] at this
    omega
  · cases h
theorem box_back {w w2 : World} {n : Int} {u : Value} (h : w2.cell? ⟨w.heap.size, 0, none⟩ = some (.int .i64 n) ∧ w2.cell? ⟨w.heap.size, 1, none⟩ = some u) {w3 : World} (hb : Below w2.heap.size w2 w3) (hs : w.heap.size < w2.heap.size) :
    w3.cell? ⟨w.heap.size, 0, none⟩ = some (.int .i64 n) ∧ w3.cell? ⟨w.heap.size, 1, none⟩ = some u :=
  ⟨(hb.cell (p := ⟨w.heap.size, 0, none⟩) hs).trans h.1, (hb.cell (p := ⟨w.heap.size, 1, none⟩) hs).trans h.2⟩


set_option maxRecDepth 20000 in
set_option maxHeartbeats 4000000 in
theorem Ranks_ref (n : Nat) (v : Value) (l : List Nat) (w : World) (hn : n ≤ 8) (hl : ∀ s ∈ l, s < 256) (h : Ints w v (N l)) :
    Calls Try.prog 8 #[.agg #[.int .i64 n, v]] w fun e w' => ∃ r, e = .returned r ∧ RkAt w' r (2 ^ n) (rk l) ∧ Below w.heap.size w w' := by
  have AL := hid (fun w => All_nat n w hn)
  obtain ⟨T, HT, hT2, hT1, hTw⟩ : ∃ T : Nat, Hid (T = 2 ^ n) ∧ T ≤ 256 ∧ 1 ≤ T ∧ wrap64 (2 ^ n) = (T : Int) := ⟨2 ^ n, rfl, (pow_wrap _ hn).2, Nat.one_le_two_pow, (pow_wrap _ hn).1⟩
  rw [← HT.out] at AL ⊢
  obtain ⟨a, cap, rfl, hlen, hc⟩ := h.nats
  clear h
  have hmk := fun w => run_make_row' (P := Try.prog) 22 3 (.int .i64 0) 8 Try.underlying22 Try.infoInt rfl .i64 .i64 T (by omega) (by omega) w
  go_enter Try.func8, Try.ntmps8
  go_wp2_with fail
  obtain ⟨W1, hW1⟩ : ∃ W1, (w.alloc (.cells #[.int .i64 n, .slice a l.length cap] 24)).alloc (.cells (madeCells #[.int .i64 0] T) 3) = W1 := ⟨_, rfl⟩
  have hx0 : W1.cell? ⟨w.heap.size, 0, none⟩ = some (.int .i64 n) := by
    rw [← hW1]
    exact cellA _ (by rw [World.cell?_alloc_at _ _ _ _ rfl]; rfl)
  have hx1 : W1.cell? ⟨w.heap.size, 1, none⟩ = some (.slice a l.length cap) := by
    rw [← hW1]
    exact cellA _ (by rw [World.cell?_alloc_at _ _ _ _ rfl]; rfl)
  have tb : Tbl (w.heap.size + 1) W1 T (fun i => if i < 0 then rk l i else 0) := by
    have := Tbl.new (w.alloc (.cells #[.int .i64 n, .slice a l.length cap] 24)) T
    rw [World.size_alloc, hW1] at this
    exact this.congr (by simp)
  have hB0 : Below w.heap.size w W1 := by
    rw [← hW1]
    exact ((Below.refl _ w).alloc (Nat.le_refl _) _).alloc (by simp) _
  have hsz : W1.heap.size = w.heap.size + 1 + 1 := by rw [← hW1]; simp
  rw [hW1]
  try rw [hTw]
  clear hW1 hmk
  go_loopw [4] (fun i wr => ∃ k : Nat, k ≤ T ∧ i = .int .i64 k ∧ Tbl (w.heap.size + 1) wr T (fun i => if i < k then rk l i else 0) ∧ Below (w.heap.size + 1) W1 wr) (fun i _ => T - (intOf i).toNat)
  case atStart => exact ⟨0, Nat.zero_le _, rfl, tb, Below.refl _ _⟩
  case round =>
    obtain ⟨k, hk, rfl, htb, hnx⟩ := hrel
    have hx : wr.cell? ⟨w.heap.size, 1, none⟩ = some (.slice a l.length cap) := (hnx.cell (p := ⟨w.heap.size, 1, none⟩) (by show w.heap.size < _; omega)).trans hx1
    have hy : wr.cell? ⟨w.heap.size, 0, none⟩ = some (.int .i64 n) := (hnx.cell (p := ⟨w.heap.size, 0, none⟩) (by show w.heap.size < _; omega)).trans hx0
    go_wp2_with fail
    refine (AL.out _).mono ?_
    rintro e w2 ⟨rfl, rfl⟩
    by_cases hlt : k < T
    · have hle : (k : Int) ≤ ((T - 1 : Nat) : Int) := by omega
      have hle' : k ≤ T - 1 := by omega
      go_wp2_with fail
      go_loopw [5] (fun i wr => ∃ j : Nat, j ≤ l.length ∧ i = .int .i64 j ∧ Tbl (w.heap.size + 1) wr T (fun i => if i < k then rk l i else if i = k then rkTo l j k else 0) ∧ Below (w.heap.size + 1) W1 wr) (fun i _ => l.length - (intOf i).toNat)
      case atStart => exact ⟨0, Nat.zero_le _, rfl, htb.congr (fun i hi => by
        by_cases h1 : i < k
        · simp [h1]
        · by_cases h2 : i = k <;> simp [h1, h2, rkTo, rk]), hnx⟩
      case round =>
        obtain ⟨j, hj, rfl, htb', hnx'⟩ := hrel
        have hxr : wr.cell? ⟨w.heap.size, 1, none⟩ = some (.slice a l.length cap) := (hnx'.cell (p := ⟨w.heap.size, 1, none⟩) (by show w.heap.size < _; omega)).trans hx1
        by_cases hlt' : j < l.length
        · obtain ⟨b, off, rfl, hb, hcell⟩ := hc (by omega)
          have hck : wr.cell? ⟨b, off + j, none⟩ = some (.int .i64 (l.getD j 0 : Nat)) := (hnx'.cell (p := ⟨b, off + j, none⟩) (by show b < _; omega)).trans ((hB0.cell (p := ⟨b, off + j, none⟩) hb).trans (hcell j hlt'))
          have hcr := htb'.cell k hlt
          have hfr := htb'.frozen k
          simp only [Nat.lt_irrefl, if_false, if_true] at hcr
          have R := hid (rkTo_succ hlt' k)
          have hx8 := getD_lt hl j
          have h8 : rkTo l j k ≤ 8 := rk_le8 _ (fun s hs => hl s (List.mem_of_mem_take hs)) k
          clear hcell
          generalize l.getD j 0 = x at *
          have hand : bits .and .i64 (k : Int) (x : Int) = ((k &&& x : Nat) : Int) := i64_and_nat k x (by omega) (by omega)
          have hkx : k &&& x < 256 := and_lt (by omega)
          have hp8 := pop_le _ hkx
          generalize k &&& x = z at *
          have fin : ∀ (u : Nat) (w' : World), max (rkTo l j k) (pop z) = u → Below wr.heap.size wr w' → (Tbl (w.heap.size + 1) (w'.setCell ⟨w.heap.size + 1, k, none⟩ (Value.int IntKind.i64 (u : Int))) T fun i => if i < k then rk l i else if i = k then rkTo l (j + 1) k else 0) ∧ Below (w.heap.size + 1) W1 (w'.setCell ⟨w.heap.size + 1, k, none⟩ (Value.int IntKind.i64 (u : Int))) := fun u w' hu hb' => by
            refine ⟨(htb'.below hb').set k u hlt (fun i hi => ?_), (hnx'.trans (hb'.mono (by have := hnx'.size; omega))).setCell (p := ⟨w.heap.size + 1, k, none⟩) (Nat.le_refl _) _⟩
            by_cases h1 : i < k
            · simp [h1]; omega
            · by_cases h2 : i = k
              · subst h2; simp [R.out, hu]
              · have h3 : ¬ k = i := fun e => h2 e.symm
                simp [h1, h2, h3]
          have FIN := hid fin
          have HTB := hid htb'
          clear fin htb'
          generalize rkTo l j k = y at *
          go_wp2_with fail
          go_region_with (go_at_call 11; refine (Size_any _ _ (by assumption)).mono ?_; rintro e w' ⟨rfl, hb'⟩; have HBW : Hid (Below wr.heap.size wr w') := (Below.refl _ wr).drew.trans hb'; have hcr2 := (HBW.out.cell (p := ⟨w.heap.size + 1, k, none⟩) HTB.out.size).trans hcr; have hfr2 := (froz_below HBW.out (b := w.heap.size + 1) (off := k) HTB.out.size).trans hfr; clear hb')
          all_goals go_wp2_with fail
          all_goals
            by_cases hmx : y < pop z
            · simp only [hmx, if_true]
              exact ⟨⟨j + 1, by omega, by first | omega | go_num, FIN.out _ _ (Nat.max_eq_right (Nat.le_of_lt hmx)) HBW.out⟩, by simp [intOf]; omega⟩
            · simp only [hmx, if_false]
              exact ⟨⟨j + 1, by omega, by first | omega | go_num, FIN.out _ _ (Nat.max_eq_left (by omega)) HBW.out⟩, by simp [intOf]; omega⟩
        · have hj' : j = l.length := by omega
          subst hj'
          have HT' := hid (htb'.congr (f' := fun i => if i < k + 1 then rk l i else 0) (fun i hi => by
            by_cases h1 : i < k
            · have h3 : i < k + 1 := by omega
              simp [h1, h3]
            · by_cases h2 : i = k
              · subst h2; simp [rkTo]
              · have h3 : ¬ i < k + 1 := by omega
                simp [h1, h2, h3]))
          go_wp2_with fail
          go_roundw
          case rel => exact ⟨k + 1, by omega, by go_num, HT'.out, hnx'⟩
          case measure => simp [intOf]; omega
    · have hk' : k = T := by omega
      have hle : ¬ (k : Int) ≤ ((T - 1 : Nat) : Int) := by omega
      have hle' : decide (k ≤ T - 1) = false := by rw [decide_eq_false_iff_not]; omega
      have HT' := hid (htb.congr (f' := rk l) (fun i hi => by rw [hk']; simp [hi]))
      go_wp2_with fail
      go_ret
      exact ⟨_, rfl, HT'.out.rkAt, hB0.trans (hnx.mono (by omega))⟩
end Go.Proofs.Ytbfklamboicddaa
