/- The document's ranks: rotaref.Ranks. -/
import Derived.Deep.RegionWith
import Derived.Test.YtjajloefplbkgaaRefFamQ
import Derived.Test.YtjajloefplbkgaaPlainAll
import Derived.Test.YtjajloefplbkgaaQBelQ
import Derived.Test.YtjajloefplbkgaaAxQ
namespace Go.Proofs.Ytjajloefplbkgaa
open Go.RowKit

theorem All_nat (n : Nat) (w : World) (hn : n ≤ 8) :
    Calls Try.prog 13 #[.int .i64 n] w fun e w' => e = .returned (.int .i64 ((2 ^ n - 1 : Nat) : Int)) ∧ w' = w := by
  have h1 := Nat.one_le_two_pow (n := n)
  refine (All_any n w hn).mono ?_
  rintro e w' ⟨rfl, rfl⟩
  exact ⟨ret_int (by omega), rfl⟩
theorem Tbl.below {g : Nat} {w w' : World} {T : Nat} {f : Nat → Nat} (h : Tbl g w T f) (hb : Below w.heap.size w w') : Tbl g w' T f :=
  ⟨fun i hi => (hb.cell (p := ⟨g, i, none⟩) h.size).trans (h.cell i hi), fun i => (froz_below hb h.size).trans (h.frozen i), Nat.lt_of_lt_of_le h.size hb.size⟩

/-- A reading of the ranks in all later worlds. -/
theorem RkAt.later {w : World} {rb roff T rcap : Nat} {r : Nat → Nat} (h : RkAt w (.slice (some ⟨rb, roff, none⟩) T rcap) T r) {i : Nat} (hi : i < T) : ∀ x : Later w, x.now.cell? ⟨rb, roff + i, none⟩ = some (.int .i64 (r i : Nat)) := fun x => by
  obtain ⟨b', off', cap', heq, hbl, hcells⟩ := h.below x.kept
  obtain ⟨⟨rfl, rfl⟩, rfl⟩ : (rb = b' ∧ roff = off') ∧ rcap = cap' := by simpa using heq
  exact hcells i hi
theorem RkAt.at {w : World} {rb roff T rcap : Nat} {r : Nat → Nat} (h : RkAt w (.slice (some ⟨rb, roff, none⟩) T rcap) T r) {i : Nat} (hi : i < T) : w.cell? ⟨rb, roff + i, none⟩ = some (.int .i64 (r i : Nat)) := h.later hi ⟨w, Below.refl _ _⟩
theorem setR_01 (n s : Int) : setR n s = 0 ∨ setR n s = 1 := by unfold setR; split <;> simp
theorem setR_of {m : Nat} {s : Int} (h : setR m s = 0) : ∃ t : Nat, s = t ∧ t < 2 ^ m := by
  unfold setR at h
  split at h
  · rename_i g
    have e : ((2 ^ m : Nat) : Int) = (2 : Int) ^ m := by simp
    refine ⟨s.toNat, by omega, ?_⟩
    have := g.2.2.2
    rw [Int.toNat_natCast, ← e] at this
    omega
  · cases h
theorem box_back {w w2 : World} {n : Int} {u : Value} (h : w2.cell? ⟨w.heap.size, 0, none⟩ = some (.int .i64 n) ∧ w2.cell? ⟨w.heap.size, 1, none⟩ = some u) {w3 : World} (hb : Below w2.heap.size w2 w3) (hs : w.heap.size < w2.heap.size) :
    w3.cell? ⟨w.heap.size, 0, none⟩ = some (.int .i64 n) ∧ w3.cell? ⟨w.heap.size, 1, none⟩ = some u :=
  ⟨(hb.cell (p := ⟨w.heap.size, 0, none⟩) hs).trans h.1, (hb.cell (p := ⟨w.heap.size, 1, none⟩) hs).trans h.2⟩


end Go.Proofs.Ytjajloefplbkgaa
