/- What the document's search for orders holds, whatever function it asks. -/
import Derived.Test.YthlmnhcnpffjdaaGreatDorXQ
namespace Go.Proofs.YthlmnhcnpffjdaaGreat
open Go.RowKit

/-- A function that is asked about each order: its number, what it has caught, what it answers and leaves; which blocks it changes; what holds of its own variables, of which no block is in X. -/
structure DoS (σ : Type) where
  gf : Nat
  cs : Array Value
  fnd : σ → List Nat → Bool × σ
  Z : Nat → Prop
  J : σ → (Nat → Prop) → World → Prop
structure DoKp {σ : Type} (D : DoS σ) (bP : Nat) : Prop where
  keep : ∀ s X W W', D.J s X W → Save (fun k => k = bP ∨ X k) W W' → D.J s X W'
  more : ∀ s X Y W, D.J s X W → (∀ k, Y k → X k ∨ W.heap.size ≤ k) → D.J s Y W
structure DoOk {σ : Type} (D : DoS σ) (W0 : World) (bP m : Nat) : Prop extends DoKp D bP where
  ent : Enters D.gf
  old : ∀ k, D.Z k → k < W0.heap.size
  off : ¬ D.Z bP
  ask : ∀ s p W vP, Save (fun k => k = bP ∨ D.Z k) W0 W → Own W0.heap.size W vP p → D.J s (fun k => vP.ownBlock = some k) W → Beg m p → p.length = m →
    Calls Tryz.prog D.gf (#[vP] ++ D.cs) W fun e W' => e = .returned (.bool (D.fnd s p).1) ∧ D.J (D.fnd s p).2 (fun k => vP.ownBlock = some k) W' ∧ Save D.Z W W'
structure OrG {σ : Type} (D : DoS σ) (W0 : World) (bP : Nat) (W : World) (vP : Value) (p : List Nat) (s : σ) : Prop where
  sv : Save (fun k => k = bP ∨ D.Z k) W0 W
  bp : Boxed W bP 22 vP
  op : Own W0.heap.size W vP p
  st : D.J s (fun k => vP.ownBlock = some k) W
variable {σ : Type} {D : DoS σ} {W0 W W' : World} {bP m : Nat} {vP vP' : Value} {p p' : List Nat} {s : σ}
theorem OrG.below (h : OrG D W0 bP W vP p s) (K : DoKp D bP) (hb : Below W.heap.size W W') : OrG D W0 bP W' vP p s :=
  ⟨h.sv.trans (Save.of_below hb), (hb.block _ h.bp.lt).trans h.bp, h.op.below hb, K.keep _ _ _ _ h.st (Save.of_below hb)⟩
/-- p is another slice now. -/
theorem OrG.turn (h : OrG D W0 bP W vP p s) (K : DoKp D bP) (hP : bP < W0.heap.size) (hs : Save (fun g => vP.ownBlock = some g) W W') (ho : Own W0.heap.size W' vP' p') (hb : vP'.ownBlock = vP.ownBlock ∨ ∃ g, vP'.ownBlock = some g ∧ W.heap.size ≤ g) : OrG D W0 bP (W'.setCell ⟨bP, 0, none⟩ vP') vP' p' s := by
  have hge : ∀ g, vP.ownBlock = some g → W0.heap.size ≤ g := fun g hg => (World.ownsRow.lt h.op g hg).1
  have hs2 := save_one W' bP vP'
  have hk : ∀ k, k < W0.heap.size → W'.heap[k]? = W.heap[k]? := fun k hk => hs.block k (Nat.lt_of_lt_of_le hk h.sv.size) (fun e => by have := hge k e; omega)
  have j1 := K.more _ _ (fun k => vP.ownBlock = some k ∨ vP'.ownBlock = some k) _ h.st (fun k e => by
    rcases e with e | e
    · exact .inl e
    · rcases hb with hb | ⟨g, hb, hg⟩
      · exact .inl (by rw [← hb]; exact e)
      · rw [hb] at e
        cases e
        exact .inr hg)
  have j2 := K.keep _ _ _ _ j1 (hs.mono (fun k e => .inr (.inl e)))
  have j3 := K.keep _ _ _ _ j2 (hs2.mono (fun k e => .inl e))
  exact ⟨(h.sv.andThen hs (fun i hi e => by have := hge i e; omega)).andThen hs2 (fun i hi e => .inl e), Boxed.set vP' ((hk _ hP).trans h.bp), ho.saveV2 hs2 (fun g hg e => by have := (World.ownsRow.lt ho g hg).1; omega), K.more _ _ _ _ j3 (fun k e => .inl (.inr e))⟩
/-- The function is asked. -/
theorem OrG.asked (h : OrG D W0 bP W vP p s) (K : DoOk D W0 bP m) (hbg : Beg m p) (hl : p.length = m) :
    Calls Tryz.prog D.gf (#[vP] ++ D.cs) W fun e W' => e = .returned (.bool (D.fnd s p).1) ∧ OrG D W0 bP W' vP p (D.fnd s p).2 := by
  refine (K.ask s p W vP h.sv h.op h.st hbg hl).mono ?_
  rintro e W' ⟨rfl, h1, h2⟩
  refine ⟨rfl, h.sv.trans (h2.mono (fun _ e => .inr e)), (h2.block _ h.bp.lt K.off).trans h.bp, h.op.saveV2 h2 (fun g hg e => ?_), h1⟩
  have h3 := (World.ownsRow.lt h.op g hg).1
  have h4 := K.old g e
  omega
end Go.Proofs.YthlmnhcnpffjdaaGreat
