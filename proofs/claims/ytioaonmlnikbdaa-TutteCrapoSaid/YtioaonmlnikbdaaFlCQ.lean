/- flats.Mobius, Characteristic, Levels, Independent. -/
import Derived.Test.YtioaonmlnikbdaaFlBQ
namespace Go.Proofs.Ytioaonmlnikbdaa
open Go.RowKit

theorem rk_top {m : Nat} {l : List Nat} (hb : Bas l) : ∀ s, s < 2 ^ m → rk l s ≤ rk l (2 ^ m - 1) := fun s hs => hb.rk.mono s _ (subB_iff.2 fun j hj => by rw [full_bit]; simp; exact bit_n hs hj)
theorem Tbl.belowF {g : Nat} {w w' : World} {T : Nat} {f : Nat → Nat} (h : Tbl g w T f) (hb : Below w.heap.size w w') : Tbl g w' T f :=
  ⟨fun i hi => (hb.cell (p := ⟨g, i, none⟩) h.size).trans (h.cell i hi), fun i => (froz_below hb h.size).trans (h.frozen i), Nat.lt_of_lt_of_le h.size hb.size⟩
end Go.Proofs.Ytioaonmlnikbdaa
