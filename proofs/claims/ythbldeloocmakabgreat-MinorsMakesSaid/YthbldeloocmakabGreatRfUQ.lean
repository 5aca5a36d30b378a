/- rotaref.United. -/
import Derived.Test.YthbldeloocmakabGreatRefAxCQ
import Derived.Test.YthbldeloocmakabGreatRefMinQ
import Derived.Test.YthbldeloocmakabGreatPlainAll
import Derived.Test.YthbldeloocmakabGreatIsIndW
namespace Go.Proofs.YthbldeloocmakabGreat
open Go.RowKit

/-- A store into a cell that holds no number leaves ranks as they were. -/
theorem RkAt.setS {w : World} {v : Value} {T : Nat} {r : Nat → Nat} (h : RkAt w v T r) {p : Addr} {a : Option Addr} {n c : Nat} (hp : w.cell? p = some (.slice a n c)) (x : Value) : RkAt (w.setCell p x) v T r := by
  obtain ⟨b, off, cap, rfl, h1, h2⟩ := h
  refine ⟨b, off, cap, rfl, by simpa using h1, fun i hi => ?_⟩
  have hne : p ≠ ⟨b, off + i, none⟩ := fun e => by
    have := h2 i hi
    rw [← e, hp] at this
    cases this
  exact (World.cell?_setCell_other _ _ _ _ hne).trans (h2 i hi)
theorem RkAt.alloc {w : World} {v : Value} {T : Nat} {r : Nat → Nat} (h : RkAt w v T r) (o : Obj) : RkAt (w.alloc o) v T r := h.below ((Below.refl _ _).alloc (Nat.le_refl _) _)
/-- A box that holds nil. -/
def NilAt (W : World) (b : Nat) : Prop := W.cell? ⟨b, 0, none⟩ = some (.slice none 0 0) ∧ W.frozen? ⟨b, 0, none⟩ = false
theorem NilAt.new (W : World) (b : Nat) (hb : W.heap.size = b) : NilAt (W.alloc (.cells #[.slice none 0 0] 22)) b := by
  subst hb
  exact cellN W (.slice none 0 0) 22
theorem NilAt.kept {W W' : World} {b : Nat} (h : NilAt W b) (hb : Below W.heap.size W W') : NilAt W' b := by
  have hlt := World.block_lt_of_cell? W _ h.1
  exact ⟨(hb.cell (p := ⟨b, 0, none⟩) hlt).trans h.1, (froz_below hb hlt).trans h.2⟩
theorem NilAt.alloc {W : World} {b : Nat} (h : NilAt W b) (o : Obj) : NilAt (W.alloc o) b := h.kept ((Below.refl _ _).alloc (Nat.le_refl _) _)
theorem Below.up {w W : World} (h : Below w.heap.size w W) (o : Obj) : Below w.heap.size w (W.alloc o) := h.alloc h.size o
theorem addr_ne {b b' : Nat} (h : b ≠ b') : (⟨b, 0, none⟩ : Addr) ≠ ⟨b', 0, none⟩ := fun e => h (congrArg Addr.block e)
theorem new_cell (W : World) (b : Nat) (x : Value) (hb : W.heap.size = b) : (W.alloc (.cells #[x] 22)).cell? ⟨b, 0, none⟩ = some x := by
  subst hb
  exact (cellN W x 22).1
theorem NilAt.lt {W : World} {b : Nat} (h : NilAt W b) : b < W.heap.size := World.block_lt_of_cell? W _ h.1
theorem NilAt.apart {W : World} {b b' : Nat} (h : NilAt W b) (hne : b' ≠ b) (v : Value) : (W.setCell ⟨b', 0, none⟩ v).cell? ⟨b, 0, none⟩ = some (.slice none 0 0) ∧ (W.setCell ⟨b', 0, none⟩ v).frozen? ⟨b, 0, none⟩ = false :=
  ⟨(World.cell?_setCell_other _ _ _ _ (fun e => hne (congrArg Addr.block e))).trans h.1, (World.frozen?_setCell _ _ _ _).trans h.2⟩
/-- What the first statement of United leaves. -/
def UPost (w W0 : World) (m T : Nat) (va vb : Value) (r q : Nat → Nat) : Exit → Act → World → Prop
  | .normal, act, w' => ∃ (px py : Nat) (p8 o8 d8 p9 o9 d9 : Nat), act = { tmps := #[.agg #[.int .i64 m, va], .agg #[.int .i64 m, vb], .pointer (some ⟨w.heap.size, 0, none⟩), .pointer (some ⟨w.heap.size + 1, 0, none⟩), .pointer (some ⟨w.heap.size + 1 + 1, 0, none⟩), .pointer (some ⟨px, 0, none⟩), .pointer (some ⟨py, 0, none⟩), .agg #[.int .i64 m, va], .slice (some ⟨p8, o8, none⟩) T d8, .agg #[.int .i64 m, vb], .slice (some ⟨p9, o9, none⟩) T d9, undef, undef, undef, undef], defers := [] } ∧ w'.cell? ⟨px, 0, none⟩ = some (.slice (some ⟨p8, o8, none⟩) T d8) ∧ w'.cell? ⟨py, 0, none⟩ = some (.slice (some ⟨p9, o9, none⟩) T d9) ∧ RkAt w' (.slice (some ⟨p8, o8, none⟩) T d8) T r ∧ RkAt w' (.slice (some ⟨p9, o9, none⟩) T d9) T q ∧ Below W0.heap.size W0 w'
  | _, _, _ => False
end Go.Proofs.YthbldeloocmakabGreat
