/- minors.oldNames. -/
import Derived.Test.YtjnifcfcigcngaaGiveW
import Derived.Test.YtjnifcfcigcngaaPlainAll
namespace Go.Proofs.Ytjnifcfcigcngaa
open Go.RowKit Go.Shelf
attribute [local go_sem] Oper.semAt_some

theorem odd_fact : ∀ q : Nat, q < 256 → bits BinOp.and IntKind.i64 (q : Int) 1 = if q.testBit 0 = true then 1 else 0 := by decide +kernel
theorem half_bit (t k : Nat) : (t / 2 ^ k).testBit 0 = t.testBit k := by rw [Nat.testBit_div_two_pow]; simp
theorem half_succ (t k : Nat) : t / 2 ^ k / 2 = t / 2 ^ (k + 1) := by rw [Nat.div_div_eq_div_mul, Nat.pow_succ]

theorem boxed_ownF {β : Type} (B : Nat) (t : TypeId) (f : β → Value) : Go.Own (fun (s : β) W => Boxed W B t (f s)) := by
  rintro s X Y row hv hg hrow
  refine hv.kept hg (fun e' => ?_)
  obtain ⟨o, ho, hc⟩ := hrow B e'.symm
  rw [show X.heap[B]? = _ from hv] at ho; cases ho; cases hc
theorem boxed_apart {W : World} {B B' : Nat} {t : TypeId} {v : Value} (h : Boxed W B t v) (x : Value) (hne : B ≠ B') : Boxed (W.setCell ⟨B', 0, none⟩ x) B t v := h.kept (grownBy_setCell' _ _ _) (by simpa using hne)
/-- What has been reckoned, and what is left of t, when some have come. -/
def oldTo {c : Nat} (t : Nat) (pre : List (El c)) : Nat := old (pre.map (·.1)) t
def hlfTo {c : Nat} (t : Nat) (pre : List (El c)) : Nat := t / 2 ^ pre.length
theorem oldTo_snoc {c : Nat} (t : Nat) (pre : List (El c)) (x : El c) : oldTo t (pre ++ [x]) = if t.testBit pre.length = true then oldTo t pre ||| bt x.1 else oldTo t pre := by
  unfold oldTo
  rw [List.map_append, show [x].map (·.1) = [x.1] from rfl, old_snoc, List.length_map]
  rfl
theorem hlfTo_snoc {c : Nat} (t : Nat) (pre : List (El c)) (x : El c) : hlfTo t (pre ++ [x]) = hlfTo t pre / 2 := by
  unfold hlfTo
  rw [half_succ, List.length_append]
  rfl
theorem oldTo_lt {c : Nat} (t : Nat) (pre : List (El c)) : oldTo t pre < 256 := old_lt (fun i hi => by
  rw [List.mem_map] at hi
  obtain ⟨y, _, rfl⟩ := hi
  exact el_lt y) t
end Go.Proofs.Ytjnifcfcigcngaa
