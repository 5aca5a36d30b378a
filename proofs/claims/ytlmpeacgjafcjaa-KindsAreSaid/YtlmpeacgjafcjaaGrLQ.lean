/- greedy.Ladder. -/
import Derived.Test.YtlmpeacgjafcjaaGrSQ
import Derived.Test.YtlmpeacgjafcjaaMarksQ
import Derived.OwnWalkIn
import Derived.Deep.RegionHeld3
namespace Go.Proofs.Ytlmpeacgjafcjaa
open Go.RowKit Go.Shelf
attribute [local go_sem] Oper.semAt_some

theorem boxedF {β : Type} (B : Nat) (t : TypeId) (f : β → Value) : Go.Own (fun (s : β) W => Boxed W B t (f s)) := by
  rintro s X Y row hv hg hrow
  refine hv.kept hg (fun e' => ?_)
  obtain ⟨o, ho, hc⟩ := hrow B e'.symm
  rw [show X.heap[B]? = _ from hv] at ho; cases ho; cases hc
theorem Own.lit1 {B : Nat} (w : World) (a : Nat) (h : B ≤ w.heap.size) : Own B (w.alloc (.cells #[.int .i64 a] 3)) (.slice (some ⟨w.heap.size, 0, none⟩) 1 1) [a] :=
  ⟨rfl, .inr ⟨w.heap.size, 1, #[.int .i64 a], rfl, h, World.alloc_heap_new w _, Nat.le_refl _, by unfold maxLen; omega, rfl, rfl⟩⟩
theorem setCell_other (W : World) {A k : Nat} (x : Value) (h : k ≠ A) : (W.setCell ⟨A, 0, none⟩ x).heap[k]? = W.heap[k]? := by
  unfold World.setCell
  dsimp only
  rw [Array.getElem?_modify]
  simp [Ne.symm h]
theorem own_rowL {B : Nat} {w : World} {v : Value} {l : List Nat} (h : Own B w v l) {k : Nat} (e : v.ownBlock = some k) : ∃ c t p, w.heap[k]? = some (.cells c t p) := by
  obtain ⟨h0, h1⟩ := h
  rcases h1 with ⟨rfl, _⟩ | ⟨g, cap, cur, rfl, _, hheap, _⟩
  · cases e
  · cases e
    exact ⟨_, _, _, hheap⟩
theorem Shuts.growL {B : Nat} {w w' : World} {Ds : List Nat} (h : Shuts B w Ds) {row : Option Nat} (hg : w.grownBy w' row) (hr : ∀ k, row = some k → ∃ c t p, w.heap[k]? = some (.cells c t p)) : Shuts B w' Ds :=
  ⟨h.1, fun E hE => ⟨(h.2 E hE).1, (hg.block E (Array.getElem?_eq_some_iff.1 (h.2 E hE).2).1 (fun e => by
    obtain ⟨c, t, p, hc⟩ := hr E e.symm
    rw [(h.2 E hE).2] at hc
    cases hc)).trans (h.2 E hE).2⟩⟩
/-- All that lay in w is as it was, but for block A. -/
def Bar (A : Nat) (w W : World) : Prop := w.heap.size ≤ W.heap.size ∧ ∀ k, k < w.heap.size → k ≠ A → W.heap[k]? = w.heap[k]?
theorem Bar.own {A B : Nat} {w W : World} {v : Value} {l : List Nat} (h : Bar A w W) (ho : Go.Proofs.Ytlmpeacgjafcjaa.Own B w v l) (hA : A < B) : Go.Proofs.Ytlmpeacgjafcjaa.Own B W v l := by
  obtain ⟨h0, h1⟩ := ho
  rcases h1 with ⟨rfl, h2⟩ | ⟨g, cap, cur, rfl, h3, hheap, h4⟩
  · exact ⟨h0, .inl ⟨rfl, h2⟩⟩
  · exact ⟨h0, .inr ⟨g, cap, cur, rfl, h3, (h.2 g (Array.getElem?_eq_some_iff.1 hheap).1 (by omega)).trans hheap, h4⟩⟩
theorem Bar.shuts {A B : Nat} {w W : World} {Ds : List Nat} (h : Bar A w W) (hs : Shuts B w Ds) (hA : A < B) : Shuts B W Ds :=
  ⟨hs.1, fun E hE => ⟨(hs.2 E hE).1, (h.2 E (Array.getElem?_eq_some_iff.1 (hs.2 E hE).2).1 (by have := (hs.2 E hE).1; omega)).trans (hs.2 E hE).2⟩⟩
theorem Bar.from {β : Type} {A B : Nat} {w : World} (hB : w.heap.size ≤ B) : OwnFrom B (fun (_ : β) W => Bar A w W) := fun _ W W' row hs hg hr =>
  ⟨Nat.le_trans hs.1 hg.size, fun k hk hA => (hg.block k (Nat.lt_of_lt_of_le hk hs.1) (fun e => by have := (hr k e.symm).1; omega)).trans (hs.2 k hk hA)⟩
theorem Bar.of {A : Nat} {w W : World} (h : Below w.heap.size w W) : Bar A w W := ⟨h.size, fun k hk _ => h.block k hk⟩
theorem Bar.set {A : Nat} {w W : World} (h : Bar A w W) (x : Value) : Bar A w (W.setCell ⟨A, 0, none⟩ x) :=
  ⟨by rw [World.size_setCell]; exact h.1, fun k hk hA => (setCell_other _ _ hA).trans (h.2 k hk hA)⟩
/-- The world when Ladder's parameters are laid. -/
def boxL (w : World) (m a b : Int) (v : Value) : World := ((w.alloc (.cells #[.int .i64 m, v] 30)).alloc (.cells #[.int .i64 a] 3)).alloc (.cells #[.int .i64 a, .int .i64 b] 3)
theorem boxL_is (w : World) (m a b : Int) (v : Value) : Below w.heap.size w (boxL w m a b v) ∧ (boxL w m a b v).heap.size = w.heap.size + 3 ∧ (boxL w m a b v).heap[w.heap.size]? = some (.cells #[.int .i64 m, v] 30 (0, 0)) ∧ Boxed (boxL w m a b v) (w.heap.size + 1) 3 (.int .i64 a) ∧ Ints (boxL w m a b v) (.slice (some ⟨w.heap.size + 1 + 1, 0, none⟩) 2 2) [a, b] := by
  have c0 := World.alloc_heap_new w (.cells #[.int .i64 m, v] 30)
  have c1 := (Boxed.new (w.alloc (.cells #[.int .i64 m, v] 30)) 3 (.int .i64 a)).alloc (.cells #[.int .i64 a, .int .i64 b] 3)
  have L := Ints.lit2 ((w.alloc (.cells #[.int .i64 m, v] 30)).alloc (.cells #[.int .i64 a] 3)) a b
  simp only [World.size_alloc] at c1 L
  unfold boxL
  exact ⟨(((Below.refl _ w).alloc (Nat.le_refl _) _).alloc (by simp) _).alloc (by simp; omega) _, by simp, (Below.heap_alloc _ _ _ (by simp; omega)).trans ((Below.heap_alloc _ _ _ (by simp)).trans c0), c1, L⟩
end Go.Proofs.Ytlmpeacgjafcjaa
