/- Variables of a law that hold a matroid. -/
import Derived.Test.YthbldeloocmakabGreatQBelW
namespace Go.Proofs.YthbldeloocmakabGreat
open Go.RowKit

/-- The law's own variable that holds a matroid. -/
def VarJ (B : Nat) (W : World) (b : Nat) (q n : Int) (l : List Nat) : Prop := ∃ nn a L c, W.heap[b]? = some (.cells #[.int .i64 nn, .slice a L c] 24 (0, 0)) ∧ GoodJ B W q n l nn (.slice a L c)
theorem VarJ.below {B : Nat} {W W' : World} {b : Nat} {q n : Int} {l : List Nat} (h : VarJ B W b q n l) (hb : Below W.heap.size W W') : VarJ B W' b q n l := by
  obtain ⟨nn, a, L, c, h1, h2⟩ := h
  exact ⟨nn, a, L, c, (hb.block b (Array.getElem?_eq_some_iff.1 h1).1).trans h1, h2.below hb⟩
theorem setJ_blk {W : World} {b : Nat} {p q x y : Value} {t : TypeId} (h : W.heap[b]? = some (.cells #[p, q] t (0, 0))) : ((W.setCell ⟨b, 0, none⟩ x).setCell ⟨b, 1, none⟩ y).heap[b]? = some (.cells #[x, y] t (0, 0)) := by
  obtain ⟨hlt, hk⟩ := Array.getElem?_eq_some_iff.1 h
  simp only [World.setCell, Array.getElem?_modify, ↓reduceIte, h, Option.map_some]
  rfl
theorem VarJ.set2 {B : Nat} {W : World} {b b' : Nat} {q n : Int} {l : List Nat} {x y : Value} (h : VarJ B W b q n l) (hne : b ≠ b') (hB : b' < B) : VarJ B ((W.setCell ⟨b', 0, none⟩ x).setCell ⟨b', 1, none⟩ y) b q n l := by
  obtain ⟨nn, a, L, c, h1, h2⟩ := h
  refine ⟨nn, a, L, c, (Below.heap_setCell _ _ _ _ hne).trans ((Below.heap_setCell _ _ _ _ hne).trans h1), h2.imp (fun ⟨e1, e2, e3⟩ => ⟨e1, e2, e3.set2 hB⟩) id⟩
theorem ToldJ.set2 {B : Nat} {W : World} {b' : Nat} {q : Int} {r : Value} {l : List Nat} {x y : Value} (h : ToldJ B W q r l) (hB : b' < B) : ToldJ B ((W.setCell ⟨b', 0, none⟩ x).setCell ⟨b', 1, none⟩ y) q r l := h.imp id (fun ⟨e1, e2⟩ => ⟨e1, e2.set2 hB⟩)
/-- A variable that nothing has been put into. -/
def ZeroJ (W : World) (b : Nat) : Prop := W.heap[b]? = some (.cells #[.int .i64 0, .slice none 0 0] 24 (0, 0))
theorem ZeroJ.set2 {W : World} {b b' : Nat} {x y : Value} (h : ZeroJ W b) (hne : b ≠ b') : ZeroJ ((W.setCell ⟨b', 0, none⟩ x).setCell ⟨b', 1, none⟩ y) b := (Below.heap_setCell _ _ _ _ hne).trans ((Below.heap_setCell _ _ _ _ hne).trans h)
theorem ZeroJ.below {W W' : World} {b : Nat} (h : ZeroJ W b) (hb : Below W.heap.size W W') : ZeroJ W' b := (hb.block b (Array.getElem?_eq_some_iff.1 h).1).trans h
theorem ZeroJ.var {B : Nat} {W : World} {b : Nat} {q n : Int} {l : List Nat} (h : ZeroJ W b) (hq : q ≠ 0) : VarJ B W b q n l := ⟨0, none, 0, 0, h, .inr ⟨hq, rfl, rfl⟩⟩
end Go.Proofs.YthbldeloocmakabGreat
