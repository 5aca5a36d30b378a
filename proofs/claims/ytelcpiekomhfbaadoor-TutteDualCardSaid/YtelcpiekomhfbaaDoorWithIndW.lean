/- minors.oldNames. -/
import Derived.Test.YtelcpiekomhfbaaDoorQuietQ
import Derived.Test.YtelcpiekomhfbaaDoorPlainAll
import Derived.Test.YtelcpiekomhfbaaDoorEqQ
import Derived.Test.YtelcpiekomhfbaaDoorQBelQ
namespace Go.Proofs.YtelcpiekomhfbaaDoor
open Go.RowKit Go.Shelf
attribute [local go_sem] Oper.semAt_some

theorem odd_fact : ∀ q : Nat, q < 256 → bits BinOp.and IntKind.i64 (q : Int) 1 = if q.testBit 0 = true then 1 else 0 := by decide +kernel
theorem half_bit (t k : Nat) : (t / 2 ^ k).testBit 0 = t.testBit k := by rw [Nat.testBit_div_two_pow]; simp
theorem half_succ (t k : Nat) : t / 2 ^ k / 2 = t / 2 ^ (k + 1) := by rw [Nat.div_div_eq_div_mul, Nat.pow_succ]

theorem boxed_ownF {β : Type} (B : Nat) (t : TypeId) (f : β → Value) : Go.Own (fun (s : β) W => Boxed W B t (f s)) := by
  rintro s X Y row hv hg hrow
  refine hv.kept hg (fun e' => ?_)
  obtain ⟨o, ho, hc⟩ := hrow B e'.symm
  rw [show X.heap[B]? = _ from hv] at ho; cases ho; cases hc
theorem boxed_apart {W : World} {B B' : Nat} {t : TypeId} {v : Value} (h : Boxed W B t v) (x : Value) (hne : B ≠ B') : Boxed (W.setCell ⟨B', 0, none⟩ x) B t v := h.kept (grownBy_setCell' _ _ _) (by simpa using hne)
/-- What has been reckoned, and what is left of t, when some have come. -/
def oldTo {c : Nat} (t : Nat) (pre : List (El c)) : Nat := old (pre.map (·.1)) t
def hlfTo {c : Nat} (t : Nat) (pre : List (El c)) : Nat := t / 2 ^ pre.length
theorem oldTo_snoc {c : Nat} (t : Nat) (pre : List (El c)) (x : El c) : oldTo t (pre ++ [x]) = if t.testBit pre.length = true then oldTo t pre ||| bt x.1 else oldTo t pre := by
  unfold oldTo
  rw [List.map_append, show [x].map (·.1) = [x.1] from rfl, old_snoc, List.length_map]
  rfl
theorem hlfTo_snoc {c : Nat} (t : Nat) (pre : List (El c)) (x : El c) : hlfTo t (pre ++ [x]) = hlfTo t pre / 2 := by
  unfold hlfTo
  rw [half_succ, List.length_append]
  rfl
theorem oldTo_lt {c : Nat} (t : Nat) (pre : List (El c)) : oldTo t pre < 256 := old_lt (fun i hi => by
  rw [List.mem_map] at hi
  obtain ⟨y, _, rfl⟩ := hi
  exact el_lt y) t
end Go.Proofs.YtelcpiekomhfbaaDoor

namespace Go.Proofs.YtelcpiekomhfbaaDoor
open Go.RowKit

def mxTo (l : List Nat) (k : Nat) : Nat := (l.take k).foldl (fun m s => max m (pop s)) 0
theorem mxTo_succ {l : List Nat} {k : Nat} (h : k < l.length) : mxTo l (k + 1) = max (mxTo l k) (pop (l.getD k 0)) := by
  unfold mxTo
  rw [take_snoc h, List.foldl_append]
  rfl
theorem mxTo_le {l : List Nat} (hl : ∀ s ∈ l, s < 256) : ∀ k, mxTo l k ≤ 8 := by
  intro k
  unfold mxTo
  rcases fold_at pop (l.take k) 0 with h | ⟨b, hb, h⟩
  · omega
  · rw [h]; exact pop_le b (hl b (List.mem_of_mem_take hb))
theorem mxTo_all {p : Nat → Bool} {T : Nat} : mxTo ((List.range T).filter p) ((List.range T).filter p).length = maxI p T := by
  unfold mxTo maxI
  rw [List.take_length, List.foldl_filter]
theorem filt_two (p : Nat → Bool) (T m : Nat) : ((List.range T).filter p).filter (fun s => pop s == m) = (List.range T).filter fun s => pop s == m && p s := by
  rw [List.filter_filter]
theorem AnswersTo.mono {w w0 : World} {g : Nat} {cs : Array Value} {T : Nat} {p : Nat → Bool} (h : AnswersTo w.heap.size w g cs T p) (hb : Below w.heap.size w w0) : AnswersTo w0.heap.size w0 g cs T p :=
  fun x hx w1 hb1 hs1 => h x hx w1 (hb.trans (hb1.mono hb.size)) (Nat.le_trans hb.size hs1)

theorem boxR {w w2 : World} (hb2 : Below (w.alloc (.cells #[.int .i64 0, .slice none 0 0] 24)).heap.size (w.alloc (.cells #[.int .i64 0, .slice none 0 0] 24)) w2) : w2.heap[w.heap.size]? = some (.cells #[.int .i64 0, .slice none 0 0] 24 (0, 0)) ∧ w.heap.size < w2.heap.size :=
  ⟨(hb2.block _ (by simp)).trans (World.alloc_heap_new w _), by have := hb2.size; simp at this; omega⟩
theorem below_boxR (w : World) (cs : Array Value) : Below w.heap.size w (w.alloc (.cells cs 24)) := (Below.refl _ _).alloc (Nat.le_refl _) _

end Go.Proofs.YtelcpiekomhfbaaDoor
