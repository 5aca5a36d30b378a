/- What a row's condition on the listed tables gives: the table of powers of strconv. -/
import Derived.Test.YtkmpnaohdijpnaaGreatDoorLaidQ
import Derived.Test.YtkmpnaohdijpnaaGreatDoorItAQ
namespace Go.Proofs.YtkmpnaohdijpnaaGreatDoor
open Go.RowKit
theorem g10 : Tryz.prog.globalNamed "internal/strconv.uint64pow10" = some 0 := by kernel_rfl
theorem t10 : (Tryz.prog.globals[0]?).map (·.type) = some 133 := by kernel_rfl
theorem cU : Tryz.prog.cellsOf 61 = 1 := by kernel_rfl
theorem c20 : Tryz.prog.cellsOf 133 = 20 := by kernel_rfl
theorem pow10_of {W : World} {x y : String × DataW Unit} {rest : List (String × DataW Unit)} (hx : ((x :: y :: ("internal/strconv.uint64pow10", Rows.laid_internal_strconv_uint64pow10) :: rest).all fun x => x.2.handleName?.isNone) = true)
    (h : laidMetH Tryz.prog (x :: y :: ("internal/strconv.uint64pow10", Rows.laid_internal_strconv_uint64pow10) :: rest) W) : Pow10 W := by
  rw [MakeChecks.laidMetH_plain _ _ _ hx] at h
  have h2 : laidMet Tryz.prog (("internal/strconv.uint64pow10", Lib.tabData .u64 Lib.pow10Tab) :: rest) W := h.tail.tail
  exact Lib.tabIs_of_head g10 t10 Tryz.underlying133 Tryz.underlying61 cU c20 h2
end Go.Proofs.YtkmpnaohdijpnaaGreatDoor
