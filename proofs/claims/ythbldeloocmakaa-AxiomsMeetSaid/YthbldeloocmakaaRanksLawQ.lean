/- The walk of the law AxiomsRanks. -/
import Derived.Test.YthbldeloocmakaaAxQ
import Derived.Test.YthbldeloocmakaaRefQ
namespace Go.Proofs.Ythbldeloocmakaa
open Go.RowKit

theorem two_top : rk twoL 15 = 2 := by decide +kernel
/-- A reading of the ranks in all later worlds. -/
theorem RkAt.later {w : World} {rb roff T rcap : Nat} {r : Nat → Nat} (h : RkAt w (.slice (some ⟨rb, roff, none⟩) T rcap) T r) {i : Nat} (hi : i < T) : ∀ x : Later w, x.now.cell? ⟨rb, roff + i, none⟩ = some (.int .i64 (r i : Nat)) := fun x => by
  obtain ⟨b', off', cap', heq, hbl, hcells⟩ := h.below x.kept
  obtain ⟨⟨rfl, rfl⟩, rfl⟩ : (rb = b' ∧ roff = off') ∧ rcap = cap' := by simpa using heq
  exact hcells i hi
theorem RkAt.at {w : World} {rb roff T rcap : Nat} {r : Nat → Nat} (h : RkAt w (.slice (some ⟨rb, roff, none⟩) T rcap) T r) {i : Nat} (hi : i < T) : w.cell? ⟨rb, roff + i, none⟩ = some (.int .i64 (r i : Nat)) := h.later hi ⟨w, Below.refl _ _⟩
theorem setR_01 (n s : Int) : setR n s = 0 ∨ setR n s = 1 := by unfold setR; split <;> simp
theorem setR_of {m : Nat} {s : Int} (h : setR m s = 0) : ∃ t : Nat, s = t ∧ t < 2 ^ m := by
  unfold setR at h
  split at h
  · rename_i g
    have e : ((2 ^ m : Nat) : Int) = (2 : Int) ^ m := by simp
    refine ⟨s.toNat, by omega, ?_⟩
    have := g.2.2.2
    rw [Int.toNat_natCast, ← e] at this
    omega
  · cases h
theorem box_back {w w2 : World} {n : Int} {u : Value} (h : w2.cell? ⟨w.heap.size, 0, none⟩ = some (.int .i64 n) ∧ w2.cell? ⟨w.heap.size, 1, none⟩ = some u) {w3 : World} (hb : Below w2.heap.size w2 w3) (hs : w.heap.size < w2.heap.size) :
    w3.cell? ⟨w.heap.size, 0, none⟩ = some (.int .i64 n) ∧ w3.cell? ⟨w.heap.size, 1, none⟩ = some u :=
  ⟨(hb.cell (p := ⟨w.heap.size, 0, none⟩) hs).trans h.1, (hb.cell (p := ⟨w.heap.size, 1, none⟩) hs).trans h.2⟩

end Go.Proofs.Ythbldeloocmakaa
