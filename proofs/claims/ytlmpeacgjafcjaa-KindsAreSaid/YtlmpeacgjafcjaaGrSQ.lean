/- greedy.Swap. -/
import Derived.Test.YtlmpeacgjafcjaaGrFW
namespace Go.Proofs.Ytlmpeacgjafcjaa
open Go.RowKit Go.Shelf
attribute [local go_sem] Oper.semAt_some

/-- Can y come for x? -/
def swapB (l : List Nat) (a b x y : Nat) : Bool := subB y (dif b a) && memB (dif a x ||| y) l && memB (dif b y ||| x) l
/-- Is x within c? Of whatever number. -/
def wiB (x : Int) (c : Nat) : Bool := bits .andNot .i64 x (c : Int) == 0
theorem withinZ_any (x : Int) (c : Nat) (w : World) : Calls Try.prog 43 #[.int .i64 x, .int .i64 c] w fun e w' => e = .returned (.bool (wiB x c)) ∧ w' = w := by
  go_enter Try.func43, Try.ntmps43
  go_wp2_with fail
  go_ret
  exact ⟨rfl, rfl⟩
theorem wiB_nat {x c : Nat} (hx : x < 256) (hc : c < 256) : wiB x c = subB x c := by
  unfold wiB
  rw [i64_andNot_nat x c (by omega) (by omega), subB_xor, Bool.eq_iff_iff, beq_iff_eq, beq_iff_eq]
  omega
/-- The world when Swap's parameters are laid. -/
def boxS (w : World) (m a b x : Int) (v : Value) : World := ((((w.alloc (.cells #[.int .i64 m, v] 30)).alloc (.cells #[.int .i64 a] 3)).alloc (.cells #[.int .i64 b] 3)).alloc (.cells #[.int .i64 x] 3)).alloc (.cells #[.int .i64 a, .int .i64 b] 3)
theorem boxS_is (w : World) (m a b x : Int) (v : Value) : Below w.heap.size w (boxS w m a b x v) ∧ (boxS w m a b x v).heap.size = w.heap.size + 5 ∧ (boxS w m a b x v).cell? ⟨w.heap.size, 0, none⟩ = some (.int .i64 m) ∧ (boxS w m a b x v).cell? ⟨w.heap.size, 1, none⟩ = some v ∧ (boxS w m a b x v).cell? ⟨w.heap.size + 1, 0, none⟩ = some (.int .i64 a) ∧ (boxS w m a b x v).cell? ⟨w.heap.size + 1 + 1, 0, none⟩ = some (.int .i64 b) ∧ (boxS w m a b x v).cell? ⟨w.heap.size + 1 + 1 + 1, 0, none⟩ = some (.int .i64 x) ∧ Ints (boxS w m a b x v) (.slice (some ⟨w.heap.size + 1 + 1 + 1 + 1, 0, none⟩) 2 2) [a, b] := by
  have c0 := two_cells (World.alloc_heap_new w (.cells #[.int .i64 m, v] 30))
  have c1 := cellN (w.alloc (.cells #[.int .i64 m, v] 30)) (.int .i64 a) 3
  have c2 := cellN ((w.alloc (.cells #[.int .i64 m, v] 30)).alloc (.cells #[.int .i64 a] 3)) (.int .i64 b) 3
  have c3 := cellN (((w.alloc (.cells #[.int .i64 m, v] 30)).alloc (.cells #[.int .i64 a] 3)).alloc (.cells #[.int .i64 b] 3)) (.int .i64 x) 3
  have L := Ints.lit2 ((((w.alloc (.cells #[.int .i64 m, v] 30)).alloc (.cells #[.int .i64 a] 3)).alloc (.cells #[.int .i64 b] 3)).alloc (.cells #[.int .i64 x] 3)) a b
  simp only [World.size_alloc] at c1 c2 c3 L
  unfold boxS
  exact ⟨(((((Below.refl _ w).alloc (Nat.le_refl _) _).alloc (by simp) _).alloc (by simp; omega) _).alloc (by simp; omega) _).alloc (by simp; omega) _, by simp, cellA _ (cellA _ (cellA _ (cellA _ c0.1))), cellA _ (cellA _ (cellA _ (cellA _ c0.2.1))), cellA _ (cellA _ (cellA _ c1.1)), cellA _ (cellA _ c2.1), cellA _ c3.1, L⟩
end Go.Proofs.Ytlmpeacgjafcjaa
