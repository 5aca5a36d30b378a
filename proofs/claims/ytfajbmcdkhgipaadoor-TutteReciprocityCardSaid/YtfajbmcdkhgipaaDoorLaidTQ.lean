/- What a row's condition on the listed tables gives: the table of powers of strconv. -/
import Derived.Test.YtfajbmcdkhgipaaDoorLaidQ
import Derived.Test.YtfajbmcdkhgipaaDoorItAQ
namespace Go.Proofs.YtfajbmcdkhgipaaDoor
open Go.RowKit
theorem g10 : Tryd.prog.globalNamed "internal/strconv.uint64pow10" = some 0 := by kernel_rfl
theorem t10 : (Tryd.prog.globals[0]?).map (·.type) = some 92 := by kernel_rfl
theorem cU : Tryd.prog.cellsOf 79 = 1 := by kernel_rfl
theorem c20 : Tryd.prog.cellsOf 92 = 20 := by kernel_rfl
theorem pow10_of {W : World} {x y : String × DataW Unit} {rest : List (String × DataW Unit)} (hx : ((x :: y :: ("internal/strconv.uint64pow10", Rows.laid_internal_strconv_uint64pow10) :: rest).all fun x => x.2.handleName?.isNone) = true)
    (h : laidMetH Tryd.prog (x :: y :: ("internal/strconv.uint64pow10", Rows.laid_internal_strconv_uint64pow10) :: rest) W) : Pow10 W := by
  rw [MakeChecks.laidMetH_plain _ _ _ hx] at h
  have h2 : laidMet Tryd.prog (("internal/strconv.uint64pow10", Lib.tabData .u64 Lib.pow10Tab) :: rest) W := h.tail.tail
  exact Lib.tabIs_of_head g10 t10 Tryd.underlying92 Tryd.underlying79 cU c20 h2
end Go.Proofs.YtfajbmcdkhgipaaDoor
