/- kinds.Laminar. -/
import Derived.Test.YtjnifcfcigcngaaKTransW
import Derived.Test.YtjnifcfcigcngaaRefFamW
namespace Go.Proofs.Ytjnifcfcigcngaa
open Go.RowKit

theorem lam_step {l : List Nat} {ms : List Int} {k : Nat} (hk : k < l.length) : lamR l ms (l.length - k) = if lamAt l ms k = 0 then lamR l ms (l.length - (k + 1)) else lamAt l ms k := by
  obtain ⟨j, hj⟩ : ∃ j, l.length - k = j + 1 := ⟨l.length - k - 1, by omega⟩
  have e : l.length - (j + 1) = k := by omega
  have e2 : l.length - (k + 1) = j := by omega
  rw [hj, e2]
  show (if lamAt l ms (l.length - (j + 1)) = 0 then lamR l ms j else lamAt l ms (l.length - (j + 1))) = _
  rw [e]
/-- What is wrong with a family and its numbers. -/
def lamE (n : Int) (zs ms : List Int) : Int := if famR n zs = 0 then (if ms.length = zs.length then lamR (zs.map Int.toNat) ms zs.length else 3) else 1
theorem Ints.takeP {w : World} {a : Option Addr} {L cap k : Nat} {l : List Nat} (h : Ints w (.slice a L cap) (N l)) (hk : k ≤ l.length) : Ints w (.slice a k cap) (N (l.take k)) := by
  obtain ⟨a', cap', e, hl, hc⟩ := h
  obtain ⟨⟨rfl, rfl⟩, rfl⟩ : (a = a' ∧ L = (N l).length) ∧ cap = cap' := by simpa [and_assoc] using e
  rw [N_len] at hl hc
  have ht : (l.take k).length = k := by simp; omega
  refine ⟨a, cap, by rw [N_len, ht], by rw [N_len, ht]; omega, fun h0 => ?_⟩
  rw [N_len, ht] at h0
  obtain ⟨b, off, e1, hb, hcell⟩ := hc (by omega)
  refine ⟨b, off, e1, hb, fun i hi => ?_⟩
  rw [N_len, ht] at hi
  rw [hcell i (by omega), N_getD, N_getD]
  simp [List.getD, hi]
end Go.Proofs.Ytjnifcfcigcngaa

namespace Go.Proofs.Ytjnifcfcigcngaa
open Go.RowKit

theorem setB_R (n s : Int) : setB n s = (setR n s == 0) := by
  unfold setB setR
  by_cases h : 0 ≤ n ∧ n ≤ 8 ∧ 0 ≤ s ∧ s < 2 ^ n.toNat
  · rw [if_pos h, decide_eq_true h]; rfl
  · rw [if_neg h, decide_eq_false h]; rfl

end Go.Proofs.Ytjnifcfcigcngaa

namespace Go.Proofs.Ytjnifcfcigcngaa
open Go.RowKit

/-- A matroid, or nothing where there is an error. -/
def GoodM (B : Nat) (W : World) (q n : Int) (l : List Nat) (nn : Int) (vv : Value) : Prop := (q = 0 ∧ nn = n ∧ l.length ≤ 17592186044416 ∧ Own B W vv l) ∨ (q ≠ 0 ∧ nn = 0 ∧ vv = .slice none 0 0)
theorem GoodM.below {B : Nat} {W W' : World} {q n : Int} {l : List Nat} {nn : Int} {vv : Value} (h : GoodM B W q n l nn vv) (hb : Below W.heap.size W W') : GoodM B W' q n l nn vv :=
  h.imp (fun ⟨h1, h2, h3, h4⟩ => ⟨h1, h2, h3, h4.below hb⟩) id
theorem GoodM.set2 {B : Nat} {W : World} {q n : Int} {l : List Nat} {nn : Int} {vv : Value} (h : GoodM B W q n l nn vv) {b : Nat} {x y : Value} (hb : b < B) : GoodM B ((W.setCell ⟨b, 0, none⟩ x).setCell ⟨b, 1, none⟩ y) q n l nn vv :=
  h.imp (fun ⟨h1, h2, h3, h4⟩ => ⟨h1, h2, h3, h4.set2 hb⟩) id
theorem GoodM.mono {B B' : Nat} {W : World} {q n : Int} {l : List Nat} {nn : Int} {vv : Value} (h : GoodM B W q n l nn vv) (hb : B' ≤ B) : GoodM B' W q n l nn vv :=
  h.imp (fun ⟨h1, h2, h3, h4⟩ => ⟨h1, h2, h3, h4.mono hb⟩) id
theorem GoodM.form {B : Nat} {W : World} {q n : Int} {l : List Nat} {nn : Int} {vv : Value} (h : GoodM B W q n l nn vv) : ∃ a L c, vv = .slice a L c := by
  rcases h with ⟨_, _, _, h4⟩ | ⟨_, _, rfl⟩
  · obtain ⟨a, c, e⟩ := ownsRow_form' h4
    exact ⟨a, _, c, e⟩
  · exact ⟨_, _, _, rfl⟩
/-- What a call hands back. -/
def ResM (w : World) (q n : Int) (l : List Nat) (e : Ending) (w' : World) : Prop := ∃ nn a L c, e = .returned (.tuple #[.agg #[.int .i64 nn, .slice a L c], .int .i64 q]) ∧ GoodM w.heap.size w' q n l nn (.slice a L c) ∧ Below w.heap.size w w'
theorem Makes.res {w w' : World} {q n : Int} {l : List Nat} {e : Ending} (h : Makes w q n l e w') (hl : q = 0 → l.length ≤ 17592186044416) : ResM w q n l e w' := by
  by_cases hq : q = 0
  · obtain ⟨r, h1, h2, h3⟩ := h.1 hq
    obtain ⟨a, c, rfl⟩ := ownsRow_form' h2
    exact ⟨n, a, l.length, c, by rw [h1, hq], .inl ⟨hq, rfl, hl hq, h2⟩, h3⟩
  · obtain ⟨h1, h2⟩ := h.2 hq
    exact ⟨0, none, 0, 0, h1, .inr ⟨hq, rfl, rfl⟩, h2⟩
theorem len_of {n : Nat} {l : List Nat} (hn : n ≤ 8) (hf : Fam n l) : l.length ≤ 17592186044416 := Nat.le_trans (fam_len hn hf) (by decide)
theorem cells_back {w w1 : World} {B : Nat} {x y : Value} (hx : w.cell? ⟨B, 0, none⟩ = some x ∧ w.cell? ⟨B, 1, none⟩ = some y) (hb : Below w.heap.size w w1) (hB : B < w.heap.size) : w1.cell? ⟨B, 0, none⟩ = some x ∧ w1.cell? ⟨B, 1, none⟩ = some y :=
  ⟨(hb.cell (p := ⟨B, 0, none⟩) hB).trans hx.1, (hb.cell (p := ⟨B, 1, none⟩) hB).trans hx.2⟩
theorem set_blk {W : World} {b : Nat} {p q x y : Value} {t : TypeId} (h : W.heap[b]? = some (.cells #[p, q] t (0, 0))) : ((W.setCell ⟨b, 0, none⟩ x).setCell ⟨b, 1, none⟩ y).heap[b]? = some (.cells #[x, y] t (0, 0)) := by
  obtain ⟨hlt, hk⟩ := Array.getElem?_eq_some_iff.1 h
  simp only [World.setCell, Array.getElem?_modify, ↓reduceIte, h, Option.map_some]
  rfl
end Go.Proofs.Ytjnifcfcigcngaa
