/- A region that only reads, in a round of a loop over a function: one walk of the text's order serves every order. -/
import Derived.Sort.QuietIn
import Derived.Test.YtjnifcfcigcngaaSingQ
namespace Go.Proofs.Ytjnifcfcigcngaa
open Go.RowKit Go.Shelf

def noDefer (l : List Oper) : Bool := l.all fun o => match o.op with | .defer _ => false | _ => true
theorem noDefer_at {l : List Oper} (h : noDefer l = true) {i : Nat} {o : Oper} (hi : l.toArray[i]? = some o) (c : _) : o.op ≠ .defer c := fun e => by
  have hm : o ∈ l := by
    rw [List.getElem?_toArray] at hi
    exact List.mem_of_getElem? hi
  have := List.all_eq_true.1 h o hm
  rw [e] at this
  cases this
theorem upon_round {P : Program} {n l0 : Nat} {o : Oper} {a : Act} {K : Act → World → Prop} {Q : Exit → Act → World → Prop} {r : Result Next} (h : o.uponIn Fence.wide n P a K Q r) : o.uponIn (Fence.wide.inRound l0) n P a K Q r := by
  cases r with
  | ok x w' => cases x <;> exact h
  | halt x w' => exact h
theorem any_round {P : Program} {n l0 : Nat} {l : List Oper} {Q : Exit → Act → World → Prop} (hd : noDefer l = true) : ∀ (fuel : Nat) (listed : Array Bool) (a : Act) (w : World),
    wpAnyIn Fence.wide n P .any l.toArray Q fuel listed a w → wpAnyIn (Fence.wide.inRound l0) n P .any l.toArray Q fuel listed a w
  | 0, _, _, _, h => h
  | fuel + 1, listed, a, w, h => by
    refine ⟨h.1, fun i hi => ?_⟩
    have h1 := wpOpIn_mono (fun a w => any_round (l0 := l0) hd fuel (listed.setIfInBounds i true) a w) (h.2 i hi)
    unfold wpOpIn at h1 ⊢
    cases ho : l.toArray[i]? with
    | none => rw [ho] at h1; exact h1
    | some o =>
      rw [ho] at h1
      dsimp only at h1 ⊢
      split
      · rename_i hw
        rw [if_pos hw] at h1
        refine ⟨h1.1, upon_round ?_⟩
        have h2 := h1.2
        rw [Oper.semAt_eq _ _ _ (noDefer_at hd ho)] at h2 ⊢
        exact h2
      · rename_i hw
        rw [if_neg hw] at h1
        exact h1
theorem region_quiet_round {P : Program} {n l0 id : Nat} {Q : Exit → Act → World → Prop} {a : Act} {w : World} {l : List Oper} (hd : noDefer l = true) (hm : P.follows .mixedOrders = true) (hB : Region.lexB .any l.toArray = true)
    (h : wpQuietIn Fence.wide n P l.toArray (fun w' => ∃ n, w' = w.drewN n) (fun a' => ∀ w', (∃ n, w' = w.drewN n) → Q .normal a' w') l a) : (Code.region id l.toArray true).wpIn (Fence.wide.inRound l0) n P Q a w := by
  simp only [Region.lexB, Bool.and_eq_true] at hB
  refine wpIn_region_any hm (any_round hd _ _ _ _ (wpAnyIn_of_quiet (C := fun w' => ∃ n, w' = w.drewN n) (Q := fun a' => ∀ w', (∃ n, w' = w.drewN n) → Q .normal a' w') rfl (fun _ w' hw' h => h w' hw') _ _ _ _ ⟨1, rfl⟩ ?_))
  have := wpAnyQIn_lex (F := Fence.wide) (n := n) (C := fun w' => ∃ n, w' = w.drewN n) (md := .any) hB.1 l 0 (Array.replicate l.toArray.size false) a (by simp) (by simpa using hB.2) h
  simpa using this
theorem keeps_drewN (W : World) (n : Nat) : KeepsOthers W (W.drewN n) := ⟨Nat.le_refl _, fun _ _ h _ => h⟩
theorem froz_drewN (W : World) (n : Nat) (a : Addr) : (W.drewN n).frozen? a = W.frozen? a := rfl
theorem drewN_below (B : Nat) (W : World) (n : Nat) : Below B W (W.drewN n) := ⟨rfl, rfl, rfl, Nat.le_refl _, fun _ _ => rfl⟩
theorem dif_le (a b : Nat) : dif a b ≤ a := by
  have h : subB (dif a b) a = true := subB_iff.2 fun i hi => by rw [dif_bit] at hi; simp at hi; exact hi.1
  unfold subB at h
  rw [beq_iff_eq] at h
  rw [← h]
  exact Nat.and_le_right
theorem keeps_below {W W' : World} (h : Below W.heap.size W W') : KeepsOthers W W' := ⟨h.size, fun b _ hb _ => (h.block b (Array.getElem?_eq_some_iff.1 hb).1).trans hb⟩
theorem froz_below {B : Nat} {W W' : World} (h : Below B W W') {b off : Nat} (hb : b < B) : W'.frozen? ⟨b, off, none⟩ = W.frozen? ⟨b, off, none⟩ := by
  simp only [World.frozen?, h.block b hb]
theorem bt_lt {i : Nat} (h : i < 8) : bt i < 256 := pow_lt256 h
theorem el_lt {c : Nat} (x : El c) : x.1 < 8 := by
  have := x.2
  unfold els at this
  rw [List.mem_filter, List.mem_range] at this
  exact this.1
end Go.Proofs.Ytjnifcfcigcngaa

namespace Go.Proofs.Ytjnifcfcigcngaa
open Go.RowKit Go.Shelf
attribute [local go_sem] Oper.semAt_some

/-- A block of 256 bools. -/
def Marks (w : World) (b : Nat) (p : Nat → Bool) : Prop := ∀ i, i < 256 → w.cell? ⟨b, i, none⟩ = some (.bool (p i))
theorem Marks.lt {w : World} {b : Nat} {p : Nat → Bool} (h : Marks w b p) : b < w.heap.size := World.block_lt_of_cell? w _ (h 0 (by omega))
theorem Marks.below {w w' : World} {b B : Nat} {p : Nat → Bool} (h : Marks w b p) (hb : Below B w w') (hB : b < B) : Marks w' b p := fun i hi => (hb.cell (p := ⟨b, i, none⟩) hB).trans (h i hi)
/-- Can s take one of those that are offered? -/
def takeB (p : Nat → Bool) (s o : Nat) : Bool := (els o).any fun i => p (s ||| bt i)

end Go.Proofs.Ytjnifcfcigcngaa

namespace Go.Proofs.Ytjnifcfcigcngaa
open Go.RowKit Go.Shelf
attribute [local go_sem] Oper.semAt_some

def giveB (p : Nat → Bool) (a b : Nat) : Bool := (els (dif a b)).all fun x => takeB p (dif a (bt x)) (dif b a)

end Go.Proofs.Ytjnifcfcigcngaa
