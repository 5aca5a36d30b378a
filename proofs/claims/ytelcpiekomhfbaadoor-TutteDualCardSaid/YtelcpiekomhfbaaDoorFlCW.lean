/- flats.countByRank, flats.mobius. -/
import Derived.Test.YtelcpiekomhfbaaDoorFlAW
namespace Go.Proofs.YtelcpiekomhfbaaDoor
open Go.RowKit

theorem below_drewF {B : Nat} {w w' : World} (h : Below B w w') (k : Nat) : Below B w (w'.drewN k) := h.trans (drewN_below _ _ _)

theorem flats_ints_cell {w w' : World} {b off cap : Nat} {l : List Nat} (h : Ints w (.slice (some ⟨b, off, none⟩) l.length cap) (N l)) (hb : Below w.heap.size w w') {i : Nat} (hi : i < l.length) : w'.cell? ⟨b, off + i, none⟩ = some (.int .i64 (l.getD i 0 : Nat)) := by
  obtain ⟨a, c, e, _, hc⟩ := (h.below hb).nats
  obtain ⟨b', off', rfl, hb', hcell⟩ := hc (by omega)
  obtain ⟨⟨rfl, rfl⟩, rfl⟩ : (b = b' ∧ off = off') ∧ cap = c := by simpa using e
  exact hcell i hi
end Go.Proofs.YtelcpiekomhfbaaDoor

namespace Go.Proofs.YtelcpiekomhfbaaDoor
open Go.RowKit

theorem rk_top {m : Nat} {l : List Nat} (hb : Bas l) : ∀ s, s < 2 ^ m → rk l s ≤ rk l (2 ^ m - 1) := fun s hs => hb.rk.mono s _ (subB_iff.2 fun j hj => by rw [full_bit]; simp; exact bit_n hs hj)
theorem Tbl.belowF {g : Nat} {w w' : World} {T : Nat} {f : Nat → Nat} (h : Tbl g w T f) (hb : Below w.heap.size w w') : Tbl g w' T f :=
  ⟨fun i hi => (hb.cell (p := ⟨g, i, none⟩) h.size).trans (h.cell i hi), fun i => (froz_below hb h.size).trans (h.frozen i), Nat.lt_of_lt_of_le h.size hb.size⟩
end Go.Proofs.YtelcpiekomhfbaaDoor
