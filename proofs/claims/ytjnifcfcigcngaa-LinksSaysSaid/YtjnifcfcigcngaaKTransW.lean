/- axioms.WithIndependents, for whatever function answers as p does. -/
import Derived.Test.YtjnifcfcigcngaaEqQ
import Derived.Test.YtjnifcfcigcngaaOldNQ
import Derived.Test.YtjnifcfcigcngaaQBelQ
import Derived.Test.YtjnifcfcigcngaaWholeQ
import Derived.Test.YtjnifcfcigcngaaAxW
import Derived.Test.YtjnifcfcigcngaaKLamW
namespace Go.Proofs.Ytjnifcfcigcngaa
open Go.RowKit

def mxTo (l : List Nat) (k : Nat) : Nat := (l.take k).foldl (fun m s => max m (pop s)) 0
theorem mxTo_succ {l : List Nat} {k : Nat} (h : k < l.length) : mxTo l (k + 1) = max (mxTo l k) (pop (l.getD k 0)) := by
  unfold mxTo
  rw [take_snoc h, List.foldl_append]
  rfl
theorem mxTo_le {l : List Nat} (hl : ∀ s ∈ l, s < 256) : ∀ k, mxTo l k ≤ 8 := by
  intro k
  unfold mxTo
  rcases fold_at pop (l.take k) 0 with h | ⟨b, hb, h⟩
  · omega
  · rw [h]; exact pop_le b (hl b (List.mem_of_mem_take hb))
theorem mxTo_all {p : Nat → Bool} {T : Nat} : mxTo ((List.range T).filter p) ((List.range T).filter p).length = maxI p T := by
  unfold mxTo maxI
  rw [List.take_length, List.foldl_filter]
theorem filt_two (p : Nat → Bool) (T m : Nat) : ((List.range T).filter p).filter (fun s => pop s == m) = (List.range T).filter fun s => pop s == m && p s := by
  rw [List.filter_filter]
theorem AnswersTo.mono {w w0 : World} {g : Nat} {cs : Array Value} {T : Nat} {p : Nat → Bool} (h : AnswersTo w.heap.size w g cs T p) (hb : Below w.heap.size w w0) : AnswersTo w0.heap.size w0 g cs T p :=
  fun x hx w1 hb1 hs1 => h x hx w1 (hb.trans (hb1.mono hb.size)) (Nat.le_trans hb.size hs1)

end Go.Proofs.Ytjnifcfcigcngaa

namespace Go.Proofs.Ytjnifcfcigcngaa
open Go.RowKit

theorem setR_ok {m s : Nat} (hm : m ≤ 8) (hs : s < 2 ^ m) : setR m s = 0 := by
  unfold setR
  have e : ((2 ^ m : Nat) : Int) = (2 : Int) ^ m := by simp
  rw [if_pos]
  refine ⟨by omega, by omega, by omega, ?_⟩
  rw [Int.toNat_natCast, ← e]
  omega

/-- What a call with an error hands back. -/
def BadM (w : World) (q : Int) (e : Ending) (w' : World) : Prop := e = .returned (.tuple #[.agg #[.int .i64 0, .slice none 0 0], .int .i64 q]) ∧ Below w.heap.size w w'
end Go.Proofs.Ytjnifcfcigcngaa

namespace Go.Proofs.Ytjnifcfcigcngaa
open Go.RowKit

/-- What is wrong with a list of sets. -/
def lisR (n : Int) (zs : List Int) : Int := if zs.all (fun s => setR n s == 0) = true ∧ 0 ≤ n ∧ n ≤ 8 then (if 8 < zs.length then 2 else 0) else 1
theorem setR_01 (n s : Int) : setR n s = 0 ∨ setR n s = 1 := by unfold setR; split <;> simp
theorem setR_n {n s : Int} (h : setR n s = 0) : 0 ≤ n ∧ n ≤ 8 ∧ 0 ≤ s ∧ s < 2 ^ n.toNat := by
  unfold setR at h
  split at h
  · assumption
  · cases h
theorem lis_nats {n : Nat} {zs : List Int} (h : zs.all (fun s => setR n s == 0) = true) : ∃ l : List Nat, zs = N l ∧ ∀ s ∈ l, s < 2 ^ n := by
  rw [List.all_eq_true] at h
  refine ⟨zs.map Int.toNat, ?_, ?_⟩
  · unfold N
    rw [List.map_map]
    refine ((List.map_congr_left (g := id) fun z hz => ?_).trans (List.map_id _)).symm
    have := setR_n (beq_iff_eq.1 (h z hz))
    show ((z.toNat : Nat) : Int) = z
    omega
  · intro s hs
    obtain ⟨z, hz, rfl⟩ := List.mem_map.1 hs
    have := setR_n (beq_iff_eq.1 (h z hz))
    rw [Int.toNat_natCast] at this
    have e : ((2 ^ n : Nat) : Int) = (2 : Int) ^ n := by simp
    omega
theorem allI_drop {p : Int → Bool} {zs : List Int} {k : Nat} (hk : k < zs.length) : (zs.drop k).all p = (p (zs.getD k 0) && (zs.drop (k + 1)).all p) := by
  rw [drop_getD hk, List.all_cons]

end Go.Proofs.Ytjnifcfcigcngaa

namespace Go.Proofs.Ytjnifcfcigcngaa
open Go.RowKit

/-- The greatest of the sets that p tells, rising. -/
def bigL (n : Nat) (p : Nat → Bool) : List Nat := (List.range (2 ^ n)).filter fun s => pop s == maxI p (2 ^ n) && p s
theorem big_fam (n : Nat) (p : Nat → Bool) : Fam n (bigL n p) := Fam.range n _
/-- What a maker hands back: a matroid, or an error. -/
def Makes (w : World) (q : Int) (n : Int) (l : List Nat) (e : Ending) (w' : World) : Prop := (q = 0 → GivesO w n l e w') ∧ (q ≠ 0 → BadM w q e w')
end Go.Proofs.Ytjnifcfcigcngaa
