/- axioms.WithIndependents, for whatever function answers as p does. -/
import Derived.Test.YtcncaaeofcmefaaEqQ
import Derived.Test.YtcncaaeofcmefaaOldNW
import Derived.Test.YtcncaaeofcmefaaQBelQ
import Derived.Test.YtcncaaeofcmefaaFamsW
import Derived.Test.YtcncaaeofcmefaaKLamW
import Derived.Test.YtcncaaeofcmefaaKRingQ
namespace Go.Proofs.Ytcncaaeofcmefaa
open Go.RowKit

def mxTo (l : List Nat) (k : Nat) : Nat := (l.take k).foldl (fun m s => max m (pop s)) 0
theorem mxTo_succ {l : List Nat} {k : Nat} (h : k < l.length) : mxTo l (k + 1) = max (mxTo l k) (pop (l.getD k 0)) := by
  unfold mxTo
  rw [take_snoc h, List.foldl_append]
  rfl
theorem mxTo_le {l : List Nat} (hl : ∀ s ∈ l, s < 256) : ∀ k, mxTo l k ≤ 8 := by
  intro k
  unfold mxTo
  rcases fold_at pop (l.take k) 0 with h | ⟨b, hb, h⟩
  · omega
  · rw [h]; exact pop_le b (hl b (List.mem_of_mem_take hb))
theorem mxTo_all {p : Nat → Bool} {T : Nat} : mxTo ((List.range T).filter p) ((List.range T).filter p).length = maxI p T := by
  unfold mxTo maxI
  rw [List.take_length, List.foldl_filter]
theorem filt_two (p : Nat → Bool) (T m : Nat) : ((List.range T).filter p).filter (fun s => pop s == m) = (List.range T).filter fun s => pop s == m && p s := by
  rw [List.filter_filter]
theorem AnswersTo.mono {w w0 : World} {g : Nat} {cs : Array Value} {T : Nat} {p : Nat → Bool} (h : AnswersTo w.heap.size w g cs T p) (hb : Below w.heap.size w w0) : AnswersTo w0.heap.size w0 g cs T p :=
  fun x hx w1 hb1 hs1 => h x hx w1 (hb.trans (hb1.mono hb.size)) (Nat.le_trans hb.size hs1)

end Go.Proofs.Ytcncaaeofcmefaa

namespace Go.Proofs.Ytcncaaeofcmefaa
open Go.RowKit

theorem rk_small {m : Nat} {l : List Nat} (hm : m ≤ 8) (hf : Fam m l) : ∀ i, rk l i ≤ 8 := rk_le8 l (hf.lt256 hm)
/-- A literal slice. -/
theorem litsAt (w : World) (l : List Nat) (h : l.length ≤ 17592186044416 := by decide) : Ints (w.alloc (.cells (V l).toArray 3)) (.slice (some ⟨w.heap.size, 0, none⟩) l.length l.length) (N l) := by
  refine ⟨_, _, by rw [N_len], by rw [N_len]; exact h, fun _ => ⟨w.heap.size, 0, rfl, by simp, fun i hi => ?_⟩⟩
  rw [N_len] at hi
  rw [World.cell?_alloc_at _ _ _ _ rfl, N_getD, Nat.zero_add]
  simp [V, hi, List.getD]







end Go.Proofs.Ytcncaaeofcmefaa

namespace Go.Proofs.Ytcncaaeofcmefaa
open Go.RowKit

theorem setR_ok {m s : Nat} (hm : m ≤ 8) (hs : s < 2 ^ m) : setR m s = 0 := by
  unfold setR
  have e : ((2 ^ m : Nat) : Int) = (2 : Int) ^ m := by simp
  rw [if_pos]
  refine ⟨by omega, by omega, by omega, ?_⟩
  rw [Int.toNat_natCast, ← e]
  omega

/-- What a call with an error hands back. -/
def BadM (w : World) (q : Int) (e : Ending) (w' : World) : Prop := e = .returned (.tuple #[.agg #[.int .i64 0, .slice none 0 0], .int .i64 q]) ∧ Below w.heap.size w w'
end Go.Proofs.Ytcncaaeofcmefaa

namespace Go.Proofs.Ytcncaaeofcmefaa
open Go.RowKit

/-- The greatest of the sets that p tells, rising. -/
def bigL (n : Nat) (p : Nat → Bool) : List Nat := (List.range (2 ^ n)).filter fun s => pop s == maxI p (2 ^ n) && p s
theorem big_fam (n : Nat) (p : Nat → Bool) : Fam n (bigL n p) := Fam.range n _
/-- What is wrong with a list of sets. -/
def lisR (n : Int) (zs : List Int) : Int := if zs.all (fun s => setR n s == 0) = true ∧ 0 ≤ n ∧ n ≤ 8 then (if 8 < zs.length then 2 else 0) else 1
theorem setR_01 (n s : Int) : setR n s = 0 ∨ setR n s = 1 := by unfold setR; split <;> simp
theorem setR_n {n s : Int} (h : setR n s = 0) : 0 ≤ n ∧ n ≤ 8 ∧ 0 ≤ s ∧ s < 2 ^ n.toNat := by
  unfold setR at h
  split at h
  · assumption
  · cases h
theorem lis_nats {n : Nat} {zs : List Int} (h : zs.all (fun s => setR n s == 0) = true) : ∃ l : List Nat, zs = N l ∧ ∀ s ∈ l, s < 2 ^ n := by
  rw [List.all_eq_true] at h
  refine ⟨zs.map Int.toNat, ?_, ?_⟩
  · unfold N
    rw [List.map_map]
    refine ((List.map_congr_left (g := id) fun z hz => ?_).trans (List.map_id _)).symm
    have := setR_n (beq_iff_eq.1 (h z hz))
    show ((z.toNat : Nat) : Int) = z
    omega
  · intro s hs
    obtain ⟨z, hz, rfl⟩ := List.mem_map.1 hs
    have := setR_n (beq_iff_eq.1 (h z hz))
    rw [Int.toNat_natCast] at this
    have e : ((2 ^ n : Nat) : Int) = (2 : Int) ^ n := by simp
    omega
theorem allI_drop {p : Int → Bool} {zs : List Int} {k : Nat} (hk : k < zs.length) : (zs.drop k).all p = (p (zs.getD k 0) && (zs.drop (k + 1)).all p) := by
  rw [drop_getD hk, List.all_cons]
/-- What a maker hands back: a matroid, or an error. -/
def Makes (w : World) (q : Int) (n : Int) (l : List Nat) (e : Ending) (w' : World) : Prop := (q = 0 → GivesO w n l e w') ∧ (q ≠ 0 → BadM w q e w')
end Go.Proofs.Ytcncaaeofcmefaa

namespace Go.Proofs.Ytcncaaeofcmefaa
open Go.RowKit

/-- v is a slice that holds these edges, whatever their ends. -/
def EdgesI (w : World) (v : Value) (F : List (Int × Int)) : Prop := ∃ a cap, v = .slice a F.length cap ∧ F.length ≤ 17592186044416 ∧ (0 < F.length → ∃ b off, a = some ⟨b, off, none⟩ ∧ b < w.heap.size ∧ ∀ i, i < F.length → w.cell? ⟨b, off + i * 2, none⟩ = some (.int .i64 (F.getD i (0, 0)).1) ∧ w.cell? ⟨b, off + i * 2 + 1, none⟩ = some (.int .i64 (F.getD i (0, 0)).2))
theorem EdgesI.below {w w' : World} {v : Value} {F : List (Int × Int)} (h : EdgesI w v F) (hb : Below w.heap.size w w') : EdgesI w' v F := by
  obtain ⟨a, cap, h1, h2, hc⟩ := h
  refine ⟨a, cap, h1, h2, fun hn => ?_⟩
  obtain ⟨b, off, h3, h4, h5⟩ := hc hn
  exact ⟨b, off, h3, Nat.lt_of_lt_of_le h4 hb.size, fun i hi => ⟨(hb.cell (p := ⟨b, off + i * 2, none⟩) h4).trans (h5 i hi).1, (hb.cell (p := ⟨b, off + i * 2 + 1, none⟩) h4).trans (h5 i hi).2⟩⟩
def inB (v n : Int) : Bool := decide (0 ≤ v) && decide (v < n)
def edgeB (n : Int) (e : Int × Int) : Bool := inB e.1 n && inB e.2 n
/-- What is wrong with a graph. -/
def graphR (n : Int) (F : List (Int × Int)) : Int := if 1 ≤ n ∧ n ≤ 7 ∧ F.length ≤ 8 ∧ F.all (edgeB n) = true then 0 else 1
def natE (F : List (Int × Int)) : List (Nat × Nat) := F.map fun e => (e.1.toNat, e.2.toNat)
theorem natE_len (F : List (Int × Int)) : (natE F).length = F.length := by unfold natE; simp
theorem natE_at {F : List (Int × Int)} {i : Nat} (hi : i < F.length) : (natE F).getD i (0, 0) = ((F.getD i (0, 0)).1.toNat, (F.getD i (0, 0)).2.toNat) := by
  unfold natE
  simp [List.getD, hi]
theorem edge_in {n : Int} {F : List (Int × Int)} (h : F.all (edgeB n) = true) {i : Nat} (hi : i < F.length) : 0 ≤ (F.getD i (0, 0)).1 ∧ (F.getD i (0, 0)).1 < n ∧ 0 ≤ (F.getD i (0, 0)).2 ∧ (F.getD i (0, 0)).2 < n := by
  have := List.all_eq_true.1 h (F.getD i (0, 0)) (by simp only [List.getD, List.getElem?_eq_getElem hi, Option.getD_some]; exact List.getElem_mem _)
  unfold edgeB inB at this
  simp at this
  exact ⟨this.1.1, this.1.2, this.2.1, this.2.2⟩
theorem EdgesI.nat {w : World} {v : Value} {n : Int} {F : List (Int × Int)} (h : EdgesI w v F) (hl : F.length ≤ 8) (hF : F.all (edgeB n) = true) : EdgesAt w v (natE F) := by
  obtain ⟨a, cap, h1, h2, hc⟩ := h
  refine ⟨a, cap, by rw [natE_len]; exact h1, by rw [natE_len]; exact hl, fun hn => ?_⟩
  rw [natE_len] at hn
  obtain ⟨b, off, h3, h4, h5⟩ := hc hn
  refine ⟨b, off, h3, h4, fun i hi => ?_⟩
  rw [natE_len] at hi
  have hb := edge_in hF hi
  unfold ea eb
  rw [natE_at hi, (h5 i hi).1, (h5 i hi).2, Int.toNat_of_nonneg hb.1, Int.toNat_of_nonneg hb.2.2.1]
  exact ⟨rfl, rfl⟩
theorem natE_lt {n : Int} {F : List (Int × Int)} (hn : n ≤ 7) (hF : F.all (edgeB n) = true) : ∀ j, j < (natE F).length → ea (natE F) j < 7 ∧ eb (natE F) j < 7 := fun j hj => by
  rw [natE_len] at hj
  have hb := edge_in hF hj
  unfold ea eb
  rw [natE_at hj]
  show (F.getD j (0, 0)).1.toNat < 7 ∧ (F.getD j (0, 0)).2.toNat < 7
  omega
theorem allE_drop {p : Int × Int → Bool} {F : List (Int × Int)} {k : Nat} (hk : k < F.length) : (F.drop k).all p = (p (F.getD k (0, 0)) && (F.drop (k + 1)).all p) := by
  rw [List.drop_eq_getElem_cons hk, List.all_cons]
  simp [List.getD, hk]
theorem isBelow_any (v n : Int) (w : World) : Calls Try.prog 23 #[.int .i64 v, .int .i64 n] w fun e w' => e = .returned (.bool (inB v n)) ∧ w' = w := by
  unfold inB
  by_cases h : 0 ≤ v
  · have h1 : decide (0 ≤ v) = true := by simpa using h
    go_enter Try.func23, Try.ntmps23
    go_wp2_with fail
    go_ret
    exact ⟨by rw [h1]; rfl, rfl⟩
  · have h1 : decide (0 ≤ v) = false := by simpa using h
    go_enter Try.func23, Try.ntmps23
    go_wp2_with fail
    go_ret
    exact ⟨rfl, rfl⟩
end Go.Proofs.Ytcncaaeofcmefaa
