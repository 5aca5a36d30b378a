/- axioms.Check. -/
import Derived.Test.YtmbkjiglbgnamaaExch2Q
import Derived.Test.YtmbkjiglbgnamaaFamQ
namespace Go.Proofs.Ytmbkjiglbgnamaa
open Go.RowKit

/-- What Check answers. -/
def chkR (n : Int) (zs : List Int) : Int := if famR n zs ≠ 0 then 1 else if zs = [] ∨ oneB (zs.map Int.toNat) = false then 1 else if exchB (zs.map Int.toNat) = true then 0 else 3
theorem N_back (l : List Nat) : (N l).map Int.toNat = l := by
  unfold N
  rw [List.map_map]
  conv => rhs; rw [← List.map_id l]
  exact List.map_congr_left fun a _ => by simp
theorem famR_01 (n : Int) (zs : List Int) : famR n zs = 0 ∨ famR n zs = 1 := by unfold famR; split <;> simp

end Go.Proofs.Ytmbkjiglbgnamaa
