/- kinds.CheckGraph, Graphic. -/
import Derived.Test.YtpdfaenjmjphpaaKRingW
import Derived.Test.YtpdfaenjmjphpaaKTransQ
namespace Go.Proofs.Ytpdfaenjmjphpaa
open Go.RowKit

/-- v is a slice that holds these edges, whatever their ends. -/
def EdgesI (w : World) (v : Value) (F : List (Int × Int)) : Prop := ∃ a cap, v = .slice a F.length cap ∧ F.length ≤ 17592186044416 ∧ (0 < F.length → ∃ b off, a = some ⟨b, off, none⟩ ∧ b < w.heap.size ∧ ∀ i, i < F.length → w.cell? ⟨b, off + i * 2, none⟩ = some (.int .i64 (F.getD i (0, 0)).1) ∧ w.cell? ⟨b, off + i * 2 + 1, none⟩ = some (.int .i64 (F.getD i (0, 0)).2))
theorem EdgesI.below {w w' : World} {v : Value} {F : List (Int × Int)} (h : EdgesI w v F) (hb : Below w.heap.size w w') : EdgesI w' v F := by
  obtain ⟨a, cap, h1, h2, hc⟩ := h
  refine ⟨a, cap, h1, h2, fun hn => ?_⟩
  obtain ⟨b, off, h3, h4, h5⟩ := hc hn
  exact ⟨b, off, h3, Nat.lt_of_lt_of_le h4 hb.size, fun i hi => ⟨(hb.cell (p := ⟨b, off + i * 2, none⟩) h4).trans (h5 i hi).1, (hb.cell (p := ⟨b, off + i * 2 + 1, none⟩) h4).trans (h5 i hi).2⟩⟩
def inB (v n : Int) : Bool := decide (0 ≤ v) && decide (v < n)
def edgeB (n : Int) (e : Int × Int) : Bool := inB e.1 n && inB e.2 n
/-- What is wrong with a graph. -/
def graphR (n : Int) (F : List (Int × Int)) : Int := if 1 ≤ n ∧ n ≤ 7 ∧ F.length ≤ 8 ∧ F.all (edgeB n) = true then 0 else 1
def natE (F : List (Int × Int)) : List (Nat × Nat) := F.map fun e => (e.1.toNat, e.2.toNat)
theorem natE_len (F : List (Int × Int)) : (natE F).length = F.length := by unfold natE; simp
theorem natE_at {F : List (Int × Int)} {i : Nat} (hi : i < F.length) : (natE F).getD i (0, 0) = ((F.getD i (0, 0)).1.toNat, (F.getD i (0, 0)).2.toNat) := by
  unfold natE
  simp [List.getD, hi]
theorem edge_in {n : Int} {F : List (Int × Int)} (h : F.all (edgeB n) = true) {i : Nat} (hi : i < F.length) : 0 ≤ (F.getD i (0, 0)).1 ∧ (F.getD i (0, 0)).1 < n ∧ 0 ≤ (F.getD i (0, 0)).2 ∧ (F.getD i (0, 0)).2 < n := by
  have := List.all_eq_true.1 h (F.getD i (0, 0)) (by simp only [List.getD, List.getElem?_eq_getElem hi, Option.getD_some]; exact List.getElem_mem _)
  unfold edgeB inB at this
  simp at this
  exact ⟨this.1.1, this.1.2, this.2.1, this.2.2⟩
theorem EdgesI.nat {w : World} {v : Value} {n : Int} {F : List (Int × Int)} (h : EdgesI w v F) (hl : F.length ≤ 8) (hF : F.all (edgeB n) = true) : EdgesAt w v (natE F) := by
  obtain ⟨a, cap, h1, h2, hc⟩ := h
  refine ⟨a, cap, by rw [natE_len]; exact h1, by rw [natE_len]; exact hl, fun hn => ?_⟩
  rw [natE_len] at hn
  obtain ⟨b, off, h3, h4, h5⟩ := hc hn
  refine ⟨b, off, h3, h4, fun i hi => ?_⟩
  rw [natE_len] at hi
  have hb := edge_in hF hi
  unfold ea eb
  rw [natE_at hi, (h5 i hi).1, (h5 i hi).2, Int.toNat_of_nonneg hb.1, Int.toNat_of_nonneg hb.2.2.1]
  exact ⟨rfl, rfl⟩
theorem natE_lt {n : Int} {F : List (Int × Int)} (hn : n ≤ 7) (hF : F.all (edgeB n) = true) : ∀ j, j < (natE F).length → ea (natE F) j < 7 ∧ eb (natE F) j < 7 := fun j hj => by
  rw [natE_len] at hj
  have hb := edge_in hF hj
  unfold ea eb
  rw [natE_at hj]
  show (F.getD j (0, 0)).1.toNat < 7 ∧ (F.getD j (0, 0)).2.toNat < 7
  omega
theorem allE_drop {p : Int × Int → Bool} {F : List (Int × Int)} {k : Nat} (hk : k < F.length) : (F.drop k).all p = (p (F.getD k (0, 0)) && (F.drop (k + 1)).all p) := by
  rw [List.drop_eq_getElem_cons hk, List.all_cons]
  simp [List.getD, hk]
theorem isBelow_any (v n : Int) (w : World) : Calls Try.prog 28 #[.int .i64 v, .int .i64 n] w fun e w' => e = .returned (.bool (inB v n)) ∧ w' = w := by
  unfold inB
  by_cases h : 0 ≤ v
  · have h1 : decide (0 ≤ v) = true := by simpa using h
    go_enter Try.func28, Try.ntmps28
    go_wp2_with fail
    go_ret
    exact ⟨by rw [h1]; rfl, rfl⟩
  · have h1 : decide (0 ≤ v) = false := by simpa using h
    go_enter Try.func28, Try.ntmps28
    go_wp2_with fail
    go_ret
    exact ⟨rfl, rfl⟩
end Go.Proofs.Ytpdfaenjmjphpaa
