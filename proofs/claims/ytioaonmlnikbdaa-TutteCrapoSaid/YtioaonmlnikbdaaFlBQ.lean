/- flats.countByRank, flats.mobius. -/
import Derived.Test.YtioaonmlnikbdaaFlAQ
namespace Go.Proofs.Ytioaonmlnikbdaa
open Go.RowKit

theorem below_drewF {B : Nat} {w w' : World} (h : Below B w w') (k : Nat) : Below B w (w'.drewN k) := h.trans (drewN_below _ _ _)

theorem flats_ints_cell {w w' : World} {b off cap : Nat} {l : List Nat} (h : Ints w (.slice (some ⟨b, off, none⟩) l.length cap) (N l)) (hb : Below w.heap.size w w') {i : Nat} (hi : i < l.length) : w'.cell? ⟨b, off + i, none⟩ = some (.int .i64 (l.getD i 0 : Nat)) := by
  obtain ⟨a, c, e, _, hc⟩ := (h.below hb).nats
  obtain ⟨b', off', rfl, hb', hcell⟩ := hc (by omega)
  obtain ⟨⟨rfl, rfl⟩, rfl⟩ : (b = b' ∧ off = off') ∧ cap = c := by simpa using e
  exact hcell i hi
end Go.Proofs.Ytioaonmlnikbdaa
