/- rotaref.Swapped. -/
import Derived.Test.YthbcnolpjcppoabGsRefQ
import Derived.RangeFuncWrites
import Derived.Test.YthbcnolpjcppoabQuietQ
namespace Go.Proofs.Ythbcnolpjcppoab
open Go.RowKit

theorem add_disj (a : Nat) (ha : a < 256) (b : Nat) (hb : b < 256) (h : a &&& b = 0) : a + b = a ||| b := by
  have hA : (BitVec.ofNat 16 a).toNat = a := by rw [BitVec.toNat_ofNat]; exact Nat.mod_eq_of_lt (by omega)
  have hB : (BitVec.ofNat 16 b).toNat = b := by rw [BitVec.toNat_ofNat]; exact Nat.mod_eq_of_lt (by omega)
  have h1 := BitVec.add_eq_or_of_and_eq_zero (BitVec.ofNat 16 a) (BitVec.ofNat 16 b) (BitVec.eq_of_toNat_eq (by rw [BitVec.toNat_and, hA, hB, h]; rfl))
  have h2 := congrArg BitVec.toNat h1
  rw [BitVec.toNat_add, BitVec.toNat_or, hA, hB] at h2
  rw [← h2]
  exact (Nat.mod_eq_of_lt (by omega)).symm
theorem swap_size {l : List Nat} (hb : Bas l) {a b x y : Nat} (ha : a ∈ l) (hx : subB x (dif a b) = true) (hy : subB y (dif b a) = true) (hm : (dif a x ||| y) ∈ l) : pop y = pop x := by
  have h1 := hb.size _ hm a ha
  have d : dif a x &&& y = 0 := Nat.eq_of_testBit_eq fun i => by
    rw [Nat.testBit_and, dif_bit]
    have := subB_iff.1 hy i
    rw [dif_bit] at this
    cases e1 : a.testBit i <;> cases e2 : y.testBit i <;> simp_all
  have p1 := pop_disj d
  have p2 := pop_dif a x
  have e : a &&& x = x := by
    rw [Nat.and_comm]
    exact sub_and (sub_trans hx (dif_subl a b))
  rw [e] at p2
  omega
theorem swap_disj1 {a b x y : Nat} (hy : subB y (dif b a) = true) : dif a x &&& y = 0 := Nat.eq_of_testBit_eq fun i => by
  rw [Nat.testBit_and, dif_bit]
  have := subB_iff.1 hy i
  rw [dif_bit] at this
  cases e1 : a.testBit i <;> cases e2 : y.testBit i <;> simp_all
theorem swap_disj2 {a b x y : Nat} (hx : subB x (dif a b) = true) : dif b y &&& x = 0 := Nat.eq_of_testBit_eq fun i => by
  rw [Nat.testBit_and, dif_bit]
  have := subB_iff.1 hx i
  rw [dif_bit] at this
  cases e1 : b.testBit i <;> cases e2 : x.testBit i <;> simp_all
end Go.Proofs.Ythbcnolpjcppoab

namespace Go.Proofs.Ythbcnolpjcppoab
open Go.RowKit Go.Shelf

def markOf (D : Nat) : Deferred := { target := .collected D, args := #[] }
/-- Blocks of rounds without a deferred call. -/
def Shuts (B : Nat) (w : World) (Ds : List Nat) : Prop := Ds.Pairwise (· ≠ ·) ∧ ∀ D ∈ Ds, B ≤ D ∧ w.heap[D]? = some (.deferred (some []))
theorem Shuts.nil (B : Nat) (w : World) : Shuts B w [] := ⟨List.Pairwise.nil, by simp⟩
theorem leaves_marks {F : Fence} {n : Nat} {P : Program} {fn : Func} {tmps : Array Value} {R : Ending → World → Prop} {B : Nat} (Φ : World → Prop)
    (hΦ : ∀ (W : World) (D : Nat), Φ W → B ≤ D → W.heap[D]? = some (.deferred (some [])) → Φ (W.putObj D (.deferred none)))
    (hend : ∀ W, Φ W → LeavesInM F n P fn tmps R [] .returning W) : ∀ (Ds : List Nat) (W : World), Φ W → Shuts B W Ds → LeavesInM F n P fn tmps R (Ds.map markOf) .returning W
  | [], W, h, _ => hend W h
  | D :: Ds, W, h, hs => by
    obtain ⟨hp, hD⟩ := hs
    rw [List.pairwise_cons] at hp
    obtain ⟨hB, hK⟩ := hD D (by simp)
    refine ⟨by simp, .inl ⟨D, _, rfl, run_takeDeferred hK, ?_⟩⟩
    refine leaves_marks Φ hΦ hend Ds _ (hΦ W D h hB hK) ⟨hp.2, fun E hE => ?_⟩
    obtain ⟨h1, h2⟩ := hD E (by simp [hE])
    exact ⟨h1, (World.putObj_heap_other (fun e => hp.1 E hE (by omega))).trans h2⟩
theorem Shuts.cons {B : Nat} {w w' : World} {Ds : List Nat} (h : Shuts B w Ds) {D : Nat} (hB : B ≤ D) (hK : w'.heap[D]? = some (.deferred (some []))) (hnew : w.heap.size ≤ D) (keep : ∀ E ∈ Ds, w'.heap[E]? = some (.deferred (some []))) : Shuts B w' (D :: Ds) := by
  refine ⟨List.pairwise_cons.2 ⟨fun E hE e => ?_, h.1⟩, fun E hE => ?_⟩
  · have := (Array.getElem?_eq_some_iff.1 (h.2 E hE).2).1
    omega
  · rw [List.mem_cons] at hE
    rcases hE with rfl | hE
    · exact ⟨hB, hK⟩
    · exact ⟨(h.2 E hE).1, keep E hE⟩
end Go.Proofs.Ythbcnolpjcppoab
