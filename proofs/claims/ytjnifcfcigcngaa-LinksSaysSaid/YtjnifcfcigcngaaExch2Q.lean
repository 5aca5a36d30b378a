/- axioms.canExchange. -/
import Derived.Test.YtjnifcfcigcngaaExchQ
import Derived.Test.YtjnifcfcigcngaaMarkedQ
namespace Go.Proofs.Ytjnifcfcigcngaa
open Go.RowKit

/-- Can any two exchange? -/
def exchB (l : List Nat) : Bool := l.all fun a => l.all fun b => giveB (fun s => memB s l) a b
theorem mem_take_succ {l : List Nat} {k : Nat} (h : k < l.length) (i : Nat) : memB i (l.take (k + 1)) = (memB i (l.take k) || l.getD k 0 == i) := by
  unfold memB
  rw [take_snoc h]
  rw [Bool.eq_iff_iff]
  simp only [decide_eq_true_eq, List.mem_append, List.mem_singleton, Bool.or_eq_true, beq_iff_eq]
  exact ⟨fun h => h.imp id Eq.symm, fun h => h.imp id Eq.symm⟩

end Go.Proofs.Ytjnifcfcigcngaa
