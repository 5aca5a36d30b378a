/- kinds.hasRing. -/
import Derived.Test.YtjnifcfcigcngaaPlainAll
import Derived.Test.YtjnifcfcigcngaaRanksWQ
import Derived.Test.YtjnifcfcigcngaaQBelQ
import Derived.Test.YtjnifcfcigcngaaEqQ
namespace Go.Proofs.Ytjnifcfcigcngaa
open Go.RowKit

/-- v is a slice that holds the edges E. -/
def EdgesAt (w : World) (v : Value) (E : List (Nat × Nat)) : Prop := ∃ a cap, v = .slice a E.length cap ∧ E.length ≤ 8 ∧ (0 < E.length → ∃ b off, a = some ⟨b, off, none⟩ ∧ b < w.heap.size ∧ ∀ i, i < E.length → w.cell? ⟨b, off + i * 2, none⟩ = some (.int .i64 (ea E i : Nat)) ∧ w.cell? ⟨b, off + i * 2 + 1, none⟩ = some (.int .i64 (eb E i : Nat)))
theorem EdgesAt.below {w w' : World} {v : Value} {E : List (Nat × Nat)} (h : EdgesAt w v E) (hb : Below w.heap.size w w') : EdgesAt w' v E := by
  obtain ⟨a, cap, h1, h2, hc⟩ := h
  refine ⟨a, cap, h1, h2, fun hn => ?_⟩
  obtain ⟨b, off, h3, h4, h5⟩ := hc hn
  exact ⟨b, off, h3, Nat.lt_of_lt_of_le h4 hb.size, fun i hi => ⟨(hb.cell (p := ⟨b, off + i * 2, none⟩) h4).trans (h5 i hi).1, (hb.cell (p := ⟨b, off + i * 2 + 1, none⟩) h4).trans (h5 i hi).2⟩⟩
theorem Tbl.belowK {g : Nat} {w w' : World} {T : Nat} {f : Nat → Nat} (h : Tbl g w T f) (hb : Below w.heap.size w w') : Tbl g w' T f := by
  refine ⟨fun i hi => (hb.cell (p := ⟨g, i, none⟩) h.size).trans (h.cell i hi), fun i => ?_, Nat.lt_of_lt_of_le h.size hb.size⟩
  have h1 := h.frozen i
  have h2 := hb.block g h.size
  simp only [World.frozen?] at h1 ⊢
  rw [h2]
  exact h1
def mrg (f : Nat → Nat) (a b v : Nat) : Nat := if f v = b then a else f v
theorem parts_mrg {E : List (Nat × Nat)} {s k v : Nat} (hb : s.testBit k = true) (hv : v < 7) : (parts E s (k + 1)).getD v 0 = mrg (fun v => (parts E s k).getD v 0) ((parts E s k).getD (ea E k) 0) ((parts E s k).getD (eb E k) 0) v := by
  have e : parts E s (k + 1) = if s.testBit k = true then (parts E s k).map fun x => if x = (parts E s k).getD (eb E k) 0 then (parts E s k).getD (ea E k) 0 else x else parts E s k := rfl
  rw [e, if_pos hb, map_getD _ (by rw [parts_len]; exact hv)]
  rfl
theorem parts_stay {E : List (Nat × Nat)} {s k : Nat} (hb : s.testBit k = false) : parts E s (k + 1) = parts E s k := by
  have e : parts E s (k + 1) = if s.testBit k = true then (parts E s k).map fun x => if x = (parts E s k).getD (eb E k) 0 then (parts E s k).getD (ea E k) 0 else x else parts E s k := rfl
  rw [e, if_neg (by rw [hb]; simp)]
theorem parts_zero (E : List (Nat × Nat)) (s v : Nat) (hv : v < 7) : (parts E s 0).getD v 0 = v := by
  show (List.range 7).getD v 0 = v
  simp [List.getD, hv]
theorem ring_no {E : List (Nat × Nat)} {s : Nat} (h : ∀ i, i < E.length → ringAt E s i = false) : ringB E s = false := by
  unfold ringB
  rw [List.any_eq_false]
  intro i hi
  rw [h i (List.mem_range.1 hi)]
  simp
theorem ring_yes {E : List (Nat × Nat)} {s k : Nat} (hk : k < E.length) (h : ringAt E s k = true) : ringB E s = true := by
  unfold ringB
  exact List.any_eq_true.2 ⟨k, List.mem_range.2 hk, h⟩
theorem shr_fact : ∀ s : Nat, s < 256 → ∀ i : Nat, i < 8 → (bits BinOp.and IntKind.i64 ((s : Int) / 2 ^ i) 1 == 0) = !s.testBit i := by decide +kernel

end Go.Proofs.Ytjnifcfcigcngaa
