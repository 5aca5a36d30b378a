/- Answers with and without an error, in one form. -/
import Derived.Test.YtokdldnbanpgbaaRefBigQ
namespace Go.Proofs.Ytokdldnbanpgbaa
open Go.RowKit

/-- A matroid, or nothing where there is an error. -/
def GoodM (B : Nat) (W : World) (q n : Int) (l : List Nat) (nn : Int) (vv : Value) : Prop := (q = 0 ∧ nn = n ∧ l.length ≤ 17592186044416 ∧ Own B W vv l) ∨ (q ≠ 0 ∧ nn = 0 ∧ vv = .slice none 0 0)
theorem GoodM.below {B : Nat} {W W' : World} {q n : Int} {l : List Nat} {nn : Int} {vv : Value} (h : GoodM B W q n l nn vv) (hb : Below W.heap.size W W') : GoodM B W' q n l nn vv :=
  h.imp (fun ⟨h1, h2, h3, h4⟩ => ⟨h1, h2, h3, h4.below hb⟩) id
theorem GoodM.set2 {B : Nat} {W : World} {q n : Int} {l : List Nat} {nn : Int} {vv : Value} (h : GoodM B W q n l nn vv) {b : Nat} {x y : Value} (hb : b < B) : GoodM B ((W.setCell ⟨b, 0, none⟩ x).setCell ⟨b, 1, none⟩ y) q n l nn vv :=
  h.imp (fun ⟨h1, h2, h3, h4⟩ => ⟨h1, h2, h3, h4.set2 hb⟩) id
theorem GoodM.mono {B B' : Nat} {W : World} {q n : Int} {l : List Nat} {nn : Int} {vv : Value} (h : GoodM B W q n l nn vv) (hb : B' ≤ B) : GoodM B' W q n l nn vv :=
  h.imp (fun ⟨h1, h2, h3, h4⟩ => ⟨h1, h2, h3, h4.mono hb⟩) id
theorem GoodM.form {B : Nat} {W : World} {q n : Int} {l : List Nat} {nn : Int} {vv : Value} (h : GoodM B W q n l nn vv) : ∃ a L c, vv = .slice a L c := by
  rcases h with ⟨_, _, _, h4⟩ | ⟨_, _, rfl⟩
  · obtain ⟨a, c, e⟩ := ownsRow_form' h4
    exact ⟨a, _, c, e⟩
  · exact ⟨_, _, _, rfl⟩
/-- What a call hands back. -/
def ResM (w : World) (q n : Int) (l : List Nat) (e : Ending) (w' : World) : Prop := ∃ nn a L c, e = .returned (.tuple #[.agg #[.int .i64 nn, .slice a L c], .int .i64 q]) ∧ GoodM w.heap.size w' q n l nn (.slice a L c) ∧ Below w.heap.size w w'
theorem Makes.res {w w' : World} {q n : Int} {l : List Nat} {e : Ending} (h : Makes w q n l e w') (hl : q = 0 → l.length ≤ 17592186044416) : ResM w q n l e w' := by
  by_cases hq : q = 0
  · obtain ⟨r, h1, h2, h3⟩ := h.1 hq
    obtain ⟨a, c, rfl⟩ := ownsRow_form' h2
    exact ⟨n, a, l.length, c, by rw [h1, hq], .inl ⟨hq, rfl, hl hq, h2⟩, h3⟩
  · obtain ⟨h1, h2⟩ := h.2 hq
    exact ⟨0, none, 0, 0, h1, .inr ⟨hq, rfl, rfl⟩, h2⟩
theorem told_any {B B' : Nat} {q n : Int} {l : List Nat} {n1 n2 : Int} {v1 v2 : Value} {w : World} (h1 : GoodM B w q n l n1 v1) (h2 : GoodM B' w q n l n2 v2) :
    Calls Try.prog 11 #[.agg #[.int .i64 n1, v1], .int .i64 q, .agg #[.int .i64 n2, v2], .int .i64 q] w fun e w' => e = .returned (.bool true) ∧ Below w.heap.size w w' := by
  rcases h1 with ⟨rfl, rfl, hl, ho⟩ | ⟨hq, rfl, rfl⟩
  · rcases h2 with ⟨_, rfl, _, ho2⟩ | ⟨hq, _, _⟩
    · exact told_good0 _ _ _ _ w (ho.ints hl) (ho2.ints hl)
    · exact absurd rfl hq
  · rcases h2 with ⟨rfl, _, _, _⟩ | ⟨_, rfl, rfl⟩
    · exact absurd rfl hq
    · exact told_bad0 q w hq
theorem len_of {n : Nat} {l : List Nat} (hn : n ≤ 8) (hf : Fam n l) : l.length ≤ 17592186044416 := Nat.le_trans (fam_len hn hf) (by decide)
theorem cells_back {w w1 : World} {B : Nat} {x y : Value} (hx : w.cell? ⟨B, 0, none⟩ = some x ∧ w.cell? ⟨B, 1, none⟩ = some y) (hb : Below w.heap.size w w1) (hB : B < w.heap.size) : w1.cell? ⟨B, 0, none⟩ = some x ∧ w1.cell? ⟨B, 1, none⟩ = some y :=
  ⟨(hb.cell (p := ⟨B, 0, none⟩) hB).trans hx.1, (hb.cell (p := ⟨B, 1, none⟩) hB).trans hx.2⟩
theorem set_blk {W : World} {b : Nat} {p q x y : Value} {t : TypeId} (h : W.heap[b]? = some (.cells #[p, q] t (0, 0))) : ((W.setCell ⟨b, 0, none⟩ x).setCell ⟨b, 1, none⟩ y).heap[b]? = some (.cells #[x, y] t (0, 0)) := by
  obtain ⟨hlt, hk⟩ := Array.getElem?_eq_some_iff.1 h
  simp only [World.setCell, Array.getElem?_modify, ↓reduceIte, h, Option.map_some]
  rfl
end Go.Proofs.Ytokdldnbanpgbaa
