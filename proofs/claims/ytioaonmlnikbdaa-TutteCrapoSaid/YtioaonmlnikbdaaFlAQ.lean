/- flats.characteristic, flats.countByRank, flats.mobius. -/
import Derived.Test.YtioaonmlnikbdaaTZQ
import Derived.Test.YtioaonmlnikbdaaPlainAll
import Derived.Test.YtioaonmlnikbdaaFlatQ
import Derived.Test.YtioaonmlnikbdaaIsIndQ
import Derived.Test.YtioaonmlnikbdaaAxQ
namespace Go.Proofs.Ytioaonmlnikbdaa
open Go.RowKit

theorem Try.infoLong : (Try.prog.info? 2).map (fun i => (i.zero, i.size, i.bytes)) = some (some (.int .i64 0), 1, 8) := by kernel_rfl
theorem sgn_even {s : Nat} (h : pop s % 2 = 0) : sgn s = 1 := by unfold sgn; rw [if_neg (by omega)]
theorem sgn_odd {s : Nat} (h : pop s % 2 = 1) : sgn s = -1 := by unfold sgn; rw [if_pos h]
theorem tmod_two (p : Nat) : Int.tmod (p : Int) 2 = ((p % 2 : Nat) : Int) := rfl
end Go.Proofs.Ytioaonmlnikbdaa
