/- A loop over a function within an ordinary loop: the marks among the deferred calls. -/
import Derived.RangeFuncWrites
import Derived.Test.YtlmpeacgjafcjaaQuietQ
namespace Go.Proofs.Ytlmpeacgjafcjaa
open Go.RowKit Go.Shelf

def markOf (D : Nat) : Deferred := { target := .collected D, args := #[] }
/-- Blocks of rounds without a deferred call. -/
def Shuts (B : Nat) (w : World) (Ds : List Nat) : Prop := Ds.Pairwise (· ≠ ·) ∧ ∀ D ∈ Ds, B ≤ D ∧ w.heap[D]? = some (.deferred (some []))
theorem Shuts.nil (B : Nat) (w : World) : Shuts B w [] := ⟨List.Pairwise.nil, by simp⟩
theorem leaves_marks {F : Fence} {n : Nat} {P : Program} {fn : Func} {tmps : Array Value} {R : Ending → World → Prop} {B : Nat} (Φ : World → Prop)
    (hΦ : ∀ (W : World) (D : Nat), Φ W → B ≤ D → W.heap[D]? = some (.deferred (some [])) → Φ (W.putObj D (.deferred none)))
    (hend : ∀ W, Φ W → LeavesInM F n P fn tmps R [] .returning W) : ∀ (Ds : List Nat) (W : World), Φ W → Shuts B W Ds → LeavesInM F n P fn tmps R (Ds.map markOf) .returning W
  | [], W, h, _ => hend W h
  | D :: Ds, W, h, hs => by
    obtain ⟨hp, hD⟩ := hs
    rw [List.pairwise_cons] at hp
    obtain ⟨hB, hK⟩ := hD D (by simp)
    refine ⟨by simp, .inl ⟨D, _, rfl, run_takeDeferred hK, ?_⟩⟩
    refine leaves_marks Φ hΦ hend Ds _ (hΦ W D h hB hK) ⟨hp.2, fun E hE => ?_⟩
    obtain ⟨h1, h2⟩ := hD E (by simp [hE])
    exact ⟨h1, (World.putObj_heap_other (fun e => hp.1 E hE (by omega))).trans h2⟩
theorem Shuts.cons {B : Nat} {w w' : World} {Ds : List Nat} (h : Shuts B w Ds) {D : Nat} (hB : B ≤ D) (hK : w'.heap[D]? = some (.deferred (some []))) (hnew : w.heap.size ≤ D) (keep : ∀ E ∈ Ds, w'.heap[E]? = some (.deferred (some []))) : Shuts B w' (D :: Ds) := by
  refine ⟨List.pairwise_cons.2 ⟨fun E hE e => ?_, h.1⟩, fun E hE => ?_⟩
  · have := (Array.getElem?_eq_some_iff.1 (h.2 E hE).2).1
    omega
  · rw [List.mem_cons] at hE
    rcases hE with rfl | hE
    · exact ⟨hB, hK⟩
    · exact ⟨(h.2 E hE).1, keep E hE⟩
end Go.Proofs.Ytlmpeacgjafcjaa
