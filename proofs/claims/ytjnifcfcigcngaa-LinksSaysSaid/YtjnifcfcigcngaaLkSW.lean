/- links.areLinked, Gammoid's function. -/
import Derived.Test.YtjnifcfcigcngaaLkDQ
import Derived.Test.YtjnifcfcigcngaaOwnQ
namespace Go.Proofs.Ytjnifcfcigcngaa
open Go.RowKit Go.Shelf
attribute [local go_sem] Oper.semAt_some

theorem one_at {w : World} {b : Nat} {x : Value} {t : TypeId} (h : w.heap[b]? = some (.cells #[x] t (0, 0))) : (w.cell? ⟨b, 0, none⟩ = some x ∧ w.frozen? ⟨b, 0, none⟩ = false) ∧ ∀ o, (w.alloc o).cell? ⟨b, 0, none⟩ = some x ∧ (w.alloc o).frozen? ⟨b, 0, none⟩ = false := by
  refine ⟨⟨by simp [World.cell?, h], by simp [World.frozen?, h]⟩, fun o => ?_⟩
  have h2 := (Below.heap_alloc w o b (Array.getElem?_eq_some_iff.1 h).1).trans h
  exact ⟨by simp [World.cell?, h2], by simp [World.frozen?, h2]⟩
theorem RkAt.drewL {w : World} {v : Value} {T : Nat} {f : Nat → Nat} (h : RkAt w v T f) (k : Nat) : RkAt (w.drewN k) v T f := h
theorem linked_any (n L F T : Nat) (f : Nat → Nat) (v : Value) (w : World) (hn : n ≤ 8) (hL : L < 2 ^ n) (hF : F < 2 ^ n) (hT : T < 2 ^ n) (hf : ∀ i, i < n → f i < 256) (h : RkAt w v n f) :
    Calls Try.prog 28 #[v, .int .i64 L, .int .i64 F, .int .i64 T] w fun e w' => e = .returned (.bool (lnkR f n L T F == pop F)) ∧ w' = w := by
  have CU := hid (lcut_any n L F T f v w hn hL hF hT hf h)
  have HC : cutV f n L F T < 256 := lt256 hn (cutV_lt hn hL)
  have S1 := hid (size_any (cutV f n L F T) w HC)
  have S2 := hid (size_any F w (lt256 hn hF))
  have HR : lnkR f n L T F = pop (cutV f n L F T) := rfl
  rw [HR]
  have p1 := pop_le _ HC
  have p2 := pop_le F (lt256 hn hF)
  obtain ⟨b, off, cap, rfl, -, -⟩ := h
  generalize cutV f n L F T = c at *
  generalize pop c = pc at *
  generalize pop F = pf at *
  clear HR
  go_enter Try.func28, Try.ntmps28
  go_wp2_with fail
  refine CU.out.mono ?_
  rintro e w2 ⟨rfl, rfl⟩
  go_wp2_with fail
  refine S1.out.mono ?_
  rintro e w2 ⟨rfl, rfl⟩
  go_wp2_with fail
  refine S2.out.mono ?_
  rintro e w2 ⟨rfl, rfl⟩
  go_wp2_with fail
  go_ret
  exact ⟨ret_bool (by rw [Bool.eq_iff_iff, beq_iff_eq, beq_iff_eq]; omega), rfl⟩
end Go.Proofs.Ytjnifcfcigcngaa

namespace Go.Proofs.Ytjnifcfcigcngaa
open Go.RowKit

/-- Of each of the first k vertices that T has not, it and where edges lead from it. -/
def setsF (f : Nat → Nat) (T k : Nat) : List Nat := ((List.range k).filter fun v => !T.testBit v).map fun v => f v ||| 2 ^ v
theorem setsF_hit {f : Nat → Nat} {T k : Nat} (h : T.testBit k = false) : setsF f T (k + 1) = setsF f T k ++ [f k ||| 2 ^ k] := by
  unfold setsF
  rw [List.range_succ, List.filter_append]
  simp [h]
theorem setsF_miss {f : Nat → Nat} {T k : Nat} (h : T.testBit k = true) : setsF f T (k + 1) = setsF f T k := by
  unfold setsF
  rw [List.range_succ, List.filter_append]
  simp [h]
theorem setsF_le (f : Nat → Nat) (T k : Nat) : (setsF f T k).length ≤ k := by
  unfold setsF
  rw [List.length_map]
  have := List.length_filter_le (fun v => !T.testBit v) (List.range k)
  rwa [List.length_range] at this
theorem RkAt.cellS {w w' : World} {g c T : Nat} {r : Nat → Nat} (h : RkAt w (.slice (some ⟨g, 0, none⟩) T c) T r) (hb : Below w.heap.size w w') {i : Nat} (hi : i < T) : w'.cell? ⟨g, i, none⟩ = some (.int .i64 (r i : Nat)) := by
  obtain ⟨b, off, c', e, h1, h2⟩ := h.below hb
  obtain ⟨⟨rfl, rfl⟩, rfl⟩ : (g = b ∧ 0 = off) ∧ c = c' := by simpa using e
  have := h2 i hi
  rwa [Nat.zero_add] at this
end Go.Proofs.Ytjnifcfcigcngaa
