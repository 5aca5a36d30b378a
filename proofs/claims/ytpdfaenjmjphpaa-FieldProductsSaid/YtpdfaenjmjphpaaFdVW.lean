/- rotaref.IsReduced, rotaref.Nought. -/
import Derived.Test.YtpdfaenjmjphpaaFdSQ
import Derived.Test.YtpdfaenjmjphpaaFdRQ
import Derived.Test.YtpdfaenjmjphpaaFdOQ
import Derived.Test.YtpdfaenjmjphpaaPlainAll
import Derived.Test.YtpdfaenjmjphpaaOldNW
namespace Go.Proofs.Ytpdfaenjmjphpaa
open Go.RowKit

theorem RowsI.reads {w : World} {v : Value} {Q : List (List Int)} {c : Nat} (h : RowsI w v Q) (hl : ∀ k, k < Q.length → (Q.getD k []).length = c) : ∃ a cap, v = .slice a Q.length cap ∧ ∀ k, k < Q.length → ∃ b off, a = some ⟨b, off, none⟩ ∧ ∃ ra rc, ∀ wr, Below w.heap.size w wr → wr.cell? ⟨b, off + k, none⟩ = some (.slice ra c rc) ∧ Ints wr (.slice ra c rc) ((List.range c).map (rowF Q k)) ∧ ∀ m, m < c → ∃ rb ro, ra = some ⟨rb, ro, none⟩ ∧ wr.cell? ⟨rb, ro + m, none⟩ = some (.int .i64 (rowF Q k m)) := by
  obtain ⟨a, cap, rfl, -, hcc⟩ := h
  refine ⟨a, cap, rfl, fun k hk => ?_⟩
  obtain ⟨b, off, h1, h2, h3⟩ := hcc (by omega)
  obtain ⟨u, h4, h5⟩ := h3 k hk
  have hl2 := hl k hk
  have e : (List.range c).map (rowF Q k) = Q.getD k [] := by
    refine List.ext_getElem (by rw [List.length_map, List.length_range, hl2]) fun r g1 g2 => ?_
    rw [List.getElem_map, List.getElem_range]
    show (Q.getD k []).getD r 0 = _
    generalize Q.getD k [] = l at *
    simp [List.getD, g2]
  have h5' := h5
  obtain ⟨ra, rc, rfl, -, -⟩ := h5
  rw [hl2] at h4 h5'
  refine ⟨b, off, h1, ra, rc, fun wr hbw => ⟨?_, by rw [e]; exact h5'.below hbw, fun m hmc => ?_⟩⟩
  · rw [hbw.cell (p := ⟨b, off + k, none⟩) h2, h4]
  · obtain ⟨ra2, rc2, e1, -, e3⟩ := h5'.below hbw
    have e1' := e1
    cases e1'
    obtain ⟨rb, ro, e4, -, e6⟩ := e3 (by omega)
    exact ⟨rb, ro, e4, e6 m (by omega)⟩
theorem MatOK.lens {p : Int} {c : Nat} {Q : List (List Int)} (hm : MatOK p c Q) : ∀ k, k < Q.length → (Q.getD k []).length = c := fun k hk => by have := hm.len k hk; omega
/-- Where the row ahead begins. -/
def lastI (b : Nat → Nat) : Nat → Int
  | 0 => -1
  | i + 1 => b i
theorem sm_le {n : Nat} {f : Nat → Int} {m : Int} (h : ∀ i, i < n → 0 ≤ f i ∧ f i ≤ m) : ∀ j, j ≤ n → 0 ≤ sm j f ∧ sm j f ≤ j * m
  | 0, _ => ⟨Int.le_refl 0, by show (0 : Int) ≤ 0 * m; rw [Int.zero_mul]; exact Int.le_refl 0⟩
  | j + 1, hj => by
    have ih := sm_le h j (by omega)
    have h1 := h j (by omega)
    have e : ((j + 1 : Nat) : Int) * m = j * m + m := by rw [Int.natCast_add, Int.add_mul]; simp
    show 0 ≤ sm j f + f j ∧ sm j f + f j ≤ _
    rw [e]
    omega
end Go.Proofs.Ytpdfaenjmjphpaa

namespace Go.Proofs.Ytpdfaenjmjphpaa
open Go.RowKit

theorem bit_fact : ∀ s : Nat, s < 256 → ∀ j : Nat, j < 8 → (bits BinOp.and IntKind.i64 ((s : Int) / 2 ^ j) 1 == 0) = !s.testBit j := by decide +kernel
theorem pow_wV : ∀ j : Nat, j < 8 → IntKind.i64.wrap (2 ^ j) = ((2 ^ j : Nat) : Int) := by decide +kernel
theorem rm_fact : ∀ s : Nat, s < 256 → ∀ j : Nat, j < 8 → rm s j < 256 := by decide +kernel
theorem RowsI.tail {w : World} {b off n cap : Nat} {r : List Int} {R : List (List Int)} (h : RowsI w (.slice (some ⟨b, off, none⟩) (n + 1) cap) (r :: R)) (hn : R.length = n) (cap' : Nat) : RowsI w (.slice (some ⟨b, off + 1, none⟩) n cap') R := by
  obtain ⟨a, c, e, h1, h2⟩ := h
  cases e
  obtain ⟨b', off', e2, h3, h4⟩ := h2 (by simp)
  cases e2
  refine ⟨_, cap', by rw [hn], by simp at h1; omega, fun h0 => ⟨b, off + 1, rfl, h3, fun i hi => ?_⟩⟩
  obtain ⟨u, h5, h6⟩ := h4 (i + 1) (by simp; omega)
  exact ⟨u, by rw [← h5]; congr 2; omega, by simpa using h6⟩
theorem RowsI.empty (w : World) (a : Option Addr) (cap : Nat) : RowsI w (.slice a 0 cap) [] := ⟨a, cap, rfl, by simp, fun h => absurd h (Nat.lt_irrefl 0)⟩
end Go.Proofs.Ytpdfaenjmjphpaa
