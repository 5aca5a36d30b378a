/- greedy.isBasis, greedy.checkBases; slices.Index and slices.Contains of whatever number. -/
import Derived.Test.YtlmpeacgjafcjaaBasQ
import Derived.Test.YtlmpeacgjafcjaaWithoutW
import Derived.Test.YtlmpeacgjafcjaaQBelW
import Derived.Test.YtlmpeacgjafcjaaEqQ
import Derived.Test.YtlmpeacgjafcjaaPlainAll
namespace Go.Proofs.Ytlmpeacgjafcjaa
open Go.RowKit

/-- Is x one of zs? -/
def memZ (x : Int) (zs : List Int) : Bool := decide (x ∈ zs)
theorem memZ_N (x : Nat) (l : List Nat) : memZ x (N l) = memB x l := by
  unfold memZ memB N
  rw [Bool.eq_iff_iff, decide_eq_true_eq, decide_eq_true_eq, List.mem_map]
  constructor
  · rintro ⟨y, h1, h2⟩
    have : y = x := Int.ofNat.inj h2
    exact this ▸ h1
  · exact fun h => ⟨x, h, rfl⟩
end Go.Proofs.Ytlmpeacgjafcjaa

namespace Go.Proofs.Ytlmpeacgjafcjaa
open Go.RowKit Go.Shelf
attribute [local go_sem] Oper.semAt_some
theorem newBox (W : World) (x y : Value) (t : TypeId) : Below W.heap.size W ((W.alloc (.cells #[x] t)).setCell ⟨W.heap.size, 0, none⟩ y) ∧ ((W.alloc (.cells #[x] t)).setCell ⟨W.heap.size, 0, none⟩ y).cell? ⟨W.heap.size, 0, none⟩ = some y ∧ ((W.alloc (.cells #[x] t)).setCell ⟨W.heap.size, 0, none⟩ y).frozen? ⟨W.heap.size, 0, none⟩ = false ∧ ((W.alloc (.cells #[x] t)).setCell ⟨W.heap.size, 0, none⟩ y).heap.size = W.heap.size + 1 := by
  have h := cellN W x t
  refine ⟨((Below.refl _ _).alloc (Nat.le_refl _) _).setCell (p := ⟨W.heap.size, 0, none⟩) (Nat.le_refl _) _, World.cell?_setCell_same' _ _ _ (by rw [h.1]; rfl), (World.frozen?_setCell _ _ _ _).trans h.2, by simp⟩
theorem asked_wide (P : Program) (o : Oper) (a : Act) (C : World → Prop) : Oper.askedIn Fence.wide P o a C = True := eq_true fun _ _ _ _ => trivial
attribute [local go_sem] asked_wide
theorem region_quiet_wide {P : Program} {n id : Nat} {Q : Exit → Act → World → Prop} {a : Act} {w : World} {l : List Oper} (hm : P.follows .mixedOrders = true) (hB : Region.lexB .any l.toArray = true)
    (h : wpQuietIn Fence.wide n P l.toArray (fun w' => ∃ n, w' = w.drewN n) (fun a' => ∀ w', (∃ n, w' = w.drewN n) → Q .normal a' w') l a) : (Code.region id l.toArray true).wpIn Fence.wide n P Q a w := by
  simp only [Region.lexB, Bool.and_eq_true] at hB
  refine wpIn_region_any hm (wpAnyIn_of_quiet (C := fun w' => ∃ n, w' = w.drewN n) (Q := fun a' => ∀ w', (∃ n, w' = w.drewN n) → Q .normal a' w') rfl (fun _ w' hw' h => h w' hw') _ _ _ _ ⟨1, rfl⟩ ?_)
  have := wpAnyQIn_lex (F := Fence.wide) (n := n) (C := fun w' => ∃ n, w' = w.drewN n) (md := .any) hB.1 l 0 (Array.replicate l.toArray.size false) a (by simp) (by simpa using hB.2) h
  simpa using this
theorem region_later_round {P : Program} {n l0 id : Nat} {Q : Exit → Act → World → Prop} {a : Act} {w : World} {l : List Oper} (hd : noDefer l = true) (hm : P.follows .mixedOrders = true) (hB : Region.lexB .any l.toArray = true)
    (h : wpQuietIn Fence.wide n P l.toArray (fun w' => ∃ x : Later w, w' = x.now) (fun a' => ∀ w', (∃ x : Later w, w' = x.now) → Q .normal a' w') l a) : (Code.region id l.toArray true).wpIn (Fence.wide.inRound l0) n P Q a w := by
  simp only [Region.lexB, Bool.and_eq_true] at hB
  refine wpIn_region_any hm (any_round hd _ _ _ _ (wpAnyIn_of_quiet (C := fun w' => ∃ x : Later w, w' = x.now) (Q := fun a' => ∀ w', (∃ x : Later w, w' = x.now) → Q .normal a' w') rfl (fun _ w' hw' h => h w' hw') _ _ _ _ ⟨⟨_, (Below.refl _ _).drew⟩, rfl⟩ ?_))
  have := wpAnyQIn_lex (F := Fence.wide) (n := n) (C := fun w' => ∃ x : Later w, w' = x.now) (md := .any) hB.1 l 0 (Array.replicate l.toArray.size false) a (by simp) (by simpa using hB.2) h
  simpa using this
end Go.Proofs.Ytlmpeacgjafcjaa
