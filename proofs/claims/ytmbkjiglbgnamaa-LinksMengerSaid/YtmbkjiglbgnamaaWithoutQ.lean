/- minors.without: Delete, Contract. -/
import Derived.Test.YtmbkjiglbgnamaaWholeQ
import Derived.Test.YtmbkjiglbgnamaaWithIndQ
import Derived.Test.YtmbkjiglbgnamaaAxQ
namespace Go.Proofs.Ytmbkjiglbgnamaa
open Go.RowKit

theorem setR_ok {m s : Nat} (hm : m ≤ 8) (hs : s < 2 ^ m) : setR m s = 0 := by
  unfold setR
  have e : ((2 ^ m : Nat) : Int) = (2 : Int) ^ m := by simp
  rw [if_pos]
  refine ⟨by omega, by omega, by omega, ?_⟩
  rw [Int.toNat_natCast, ← e]
  omega

/-- What a call with an error hands back. -/
def BadM (w : World) (q : Int) (e : Ending) (w' : World) : Prop := e = .returned (.tuple #[.agg #[.int .i64 0, .slice none 0 0], .int .i64 q]) ∧ Below w.heap.size w w'
end Go.Proofs.Ytmbkjiglbgnamaa
