/- field.across. -/
import Derived.Test.YtcncaaeofcmefaaFdMQ
import Derived.Test.YtcncaaeofcmefaaPlainAll2
namespace Go.Proofs.Ytcncaaeofcmefaa
open Go.RowKit

/-- The lists across a reduced matrix. -/
def acL (p : Int) (c : Nat) (Q : List (List Int)) : List (List Int) := matL (nbL c Q.length fun i => bgN c (rowF Q i)).length c (acG p c Q.length (rowF Q) fun i => bgN c (rowF Q i))
theorem idx_beg {p : Int} {c k : Nat} {F : Nat → Nat → Int} {b : Nat → Nat} (h : Rref p c k F b) {i : Nat} (hi : i < k) {zs : List Int} (hz : zs.length = c) (hzs : ∀ r, r < c → zs.getD r 0 = F i r) {r : Int} (hr : IdxAt zs 1 r) : r = b i := by
  have hb := h.lt i hi
  rcases hr with ⟨-, h1⟩ | ⟨j, rfl, h1, h2, h3⟩
  · exact absurd ((hzs _ hb).trans (h.one i hi)) (h1 (b i) (by omega))
  · rw [hzs j (by omega)] at h2
    rcases Nat.lt_trichotomy j (b i) with hl | hl | hl
    · rw [h.fst i hi j hl] at h2; omega
    · omega
    · exact absurd ((hzs _ hb).trans (h.one i hi)) (h3 (b i) hl)
theorem has_nb {k : Nat} {b : Nat → Nat} (t : Nat) : hasI ((List.range k).map fun i => (b i : Int)) (t : Int) = !nbB k b t := by
  rw [Bool.eq_iff_iff]
  simp [hasI, nbB]
  exact ⟨fun ⟨x, h1, h2⟩ => ⟨x, h1, by omega⟩, fun ⟨x, h1, h2⟩ => ⟨x, h1, by omega⟩⟩
theorem TblZ.low {g D : Nat} {w w' : World} {T : Nat} {f : Nat → Int} (h : TblZ g w T f) (hb : Below D w w') (hg : g < D) : TblZ g w' T f :=
  ⟨fun i hi => (hb.cell (p := ⟨g, i, none⟩) hg).trans (h.cell i hi), fun i => (froz_below hb hg).trans (h.frozen i), Nat.lt_of_lt_of_le h.size hb.size⟩
theorem RowB.drew {W : World} {b n : Nat} {f : Nat → Int} (h : RowB W b n f) : RowB W.drew b n f := ⟨h.tbl.drew, h.ty⟩
theorem TotS.save {W W' : World} {B z : Nat} {v : Value} {n k : Nat} {f : Nat → Nat → Int} (h : TotS W B v n k f) (hs : Save (fun j => j = z) W W') (hz : z < B) (hty : ∀ c, W.heap[z]? ≠ some (.cells c 3 (0, 0))) : TotS W' B v n k f := by
  obtain ⟨us, h1, ⟨h2, h3⟩, h4⟩ := h
  refine ⟨us, h1, ⟨h2, h3.imp_right ?_⟩, fun i hi => ?_⟩
  · rintro ⟨g, cap, cur, hv, hg, hheap, hr⟩
    exact ⟨g, cap, cur, hv, hg, (hs.block g (Array.getElem?_eq_some_iff.1 hheap).1 (by omega)).trans hheap, hr⟩
  · obtain ⟨b, h5, h6⟩ := h4 i hi
    exact ⟨b, h5, h6.same (hs.block b h6.tbl.size fun e => by
      obtain ⟨c, hc⟩ := h6.ty
      rw [e] at hc
      exact hty c hc) hs.size⟩
end Go.Proofs.Ytcncaaeofcmefaa
